package hexa_test

import (
	"encoding/hex"
	"math/rand/v2"
	"regexp"
	"strings"
	"testing"

	"bindery/api"
	"bindery/hexa"
)

const (
	whites = "\x00\t\n\f\r "
	digits = "0123456789ABCDEFabcdef"
)

// decoding is a text, and what it is decoded as.
type decoding struct {
	s, want string
	code    api.Errno
}

func check(t *testing.T, s, want string, code api.Errno) {
	t.Helper()
	if got, gotCode := hexa.Decode(s); got != want || gotCode != code {
		t.Errorf("Decode(%.60q) of %d bytes = %.60q, %d, want %.60q, %d", s, len(s), got, gotCode, want, code)
	}
}

func checkAll(t *testing.T, decodings []decoding) {
	t.Helper()
	for _, d := range decodings {
		check(t, d.s, d.want, d.code)
	}
}

func checkEncode(t *testing.T, s, want string) {
	t.Helper()
	if got := hexa.Encode(s); got != want {
		t.Errorf("Encode(%.60q) of %d bytes = %.60q, want %.60q", s, len(s), got, want)
	}
}

// texts are all texts of at most so many bytes, each one of the letters.
func texts(letters string, most int) []string {
	all := []string{""}
	longest := all
	for range most {
		var longer []string
		for _, s := range longest {
			for i := range len(letters) {
				longer = append(longer, s+letters[i:i+1])
			}
		}
		all = append(all, longer...)
		longest = longer
	}
	return all
}

// one is the text of one byte.
func one(c int) string { return string([]byte{byte(c)}) }

// some tells a text of any of the letters.
func some(r *rand.Rand, letters string, length int) string {
	s := make([]byte, length)
	for i := range s {
		s[i] = letters[r.IntN(len(letters))]
	}
	return string(s)
}

// bytes are all bytes, rising.
func bytes() string {
	s := make([]byte, 256)
	for i := range s {
		s[i] = byte(i)
	}
	return string(s)
}

// encodeAgain tells again what Encode answers.
func encodeAgain(s string) string { return strings.ToUpper(hex.EncodeToString([]byte(s))) + ">" }

var (
	ahead  = regexp.MustCompile(`^[\x00\t\n\f\r 0-9A-Fa-f]*`)
	behind = regexp.MustCompile(`^>[\x00\t\n\f\r ]*$`)
	blanks = strings.NewReplacer("\x00", "", "\t", "", "\n", "", "\f", "", "\r", "", " ", "")
)

// decodeAgain tells again what Decode answers: by what stands ahead of the first byte that is neither a digit nor white, and what from it on.
func decodeAgain(s string) (string, api.Errno) {
	told := ahead.FindString(s)
	rest := s[len(told):]
	if rest == "" {
		return "", api.ErrShort
	}
	if !behind.MatchString(rest) {
		return "", api.ErrForm
	}
	told = blanks.Replace(told)
	if len(told)%2 == 1 {
		told += "0"
	}
	b, err := hex.DecodeString(told)
	if err != nil {
		panic(err)
	}
	return string(b), api.OK
}

func checkAgain(t *testing.T, s string) {
	t.Helper()
	want, code := decodeAgain(s)
	check(t, s, want, code)
}

// P6.1

func TestEncode(t *testing.T) {
	checkEncode(t, "", ">")
	checkEncode(t, "A\x0f", "410F>")
	checkEncode(t, "\x00", "00>")
	checkEncode(t, "\x00\x00", "0000>")
	checkEncode(t, "\xff", "FF>")
	checkEncode(t, "\x0a\xa0", "0AA0>")
	checkEncode(t, ">", "3E>")
	checkEncode(t, "41>", "34313E>")
	checkEncode(t, whites, "00090A0C0D20>")
	checkEncode(t, "\x80\xc3\xa9\xff", "80C3A9FF>")
	checkEncode(t, "\u00e9\U0001F4D6", "C3A9F09F9396>")
}

func TestEncodeOfOneAndOfTwoBytes(t *testing.T) {
	const great = "0123456789ABCDEF"
	told := func(c int) string { return string([]byte{great[c/16], great[c%16]}) }
	for c := range 256 {
		checkEncode(t, one(c), told(c)+">")
		for d := range 256 {
			checkEncode(t, one(c)+one(d), told(c)+told(d)+">")
		}
	}
}

func TestEncodeOfAnyTexts(t *testing.T) {
	r := rand.New(rand.NewPCG(6, 1))
	for length := range 600 {
		s := some(r, bytes(), length)
		checkEncode(t, s, encodeAgain(s))
	}
	for _, s := range []string{some(r, bytes(), api.MaxData), some(r, bytes(), api.MaxData+1), strings.Repeat("\x00", 4*api.MaxData), strings.Repeat(">", api.MaxData)} {
		checkEncode(t, s, encodeAgain(s))
	}
}

// P6.2

func TestDecode(t *testing.T) {
	checkAll(t, []decoding{
		{">", "", api.OK},
		{"41 f>", "A\xf0", api.OK},
		{"410F>", "A\x0f", api.OK},
		{"410f>", "A\x0f", api.OK},
		{"4 1 0 F >", "A\x0f", api.OK},
		{"00>", "\x00", api.OK},
		{"0>", "\x00", api.OK},
		{"000>", "\x00\x00", api.OK},
		{"f>", "\xf0", api.OK},
		{"F>", "\xf0", api.OK},
		{"0F>", "\x0f", api.OK},
		{"aBcDeF>", "\xab\xcd\xef", api.OK},
		{"AbCdE>", "\xab\xcd\xe0", api.OK},
		{"\r\n4\r\n1\r\n>\r\n", "A", api.OK},
		{"4\x001\t4\n2\f4\r3 >", "ABC", api.OK},
		{whites + ">" + whites, "", api.OK},
		{"4" + whites + ">", "@", api.OK},
		{">\n", "", api.OK},
	})
}

func TestDecodeOfWhatHasNoEnd(t *testing.T) {
	checkAll(t, []decoding{
		{"", "", api.ErrShort},
		{" ", "", api.ErrShort},
		{whites, "", api.ErrShort},
		{"4", "", api.ErrShort},
		{"41", "", api.ErrShort},
		{"41 4", "", api.ErrShort},
		{"410F\n", "", api.ErrShort},
	})
}

func TestDecodeOfWhatIsWrongInForm(t *testing.T) {
	checkAll(t, []decoding{
		{"g>", "", api.ErrForm},
		{"G>", "", api.ErrForm},
		{"4g>", "", api.ErrForm},
		{"41-42>", "", api.ErrForm},
		{"0x41>", "", api.ErrForm},
		{"#41>", "", api.ErrForm},
		{"<41>", "", api.ErrForm},
		{"4\x0b1>", "", api.ErrForm},
		{"4\u00a01>", "", api.ErrForm},
		{"4\x851>", "", api.ErrForm},
		{"\uff14\uff11>", "", api.ErrForm},
		{"\uff1e", "", api.ErrForm},
		{"41\xbe", "", api.ErrForm},
	})
}

func TestDecodeOfWhatStandsBehindTheEnd(t *testing.T) {
	checkAll(t, []decoding{
		{">>", "", api.ErrForm},
		{"41>>", "", api.ErrForm},
		{"41> >", "", api.ErrForm},
		{"41>41>", "", api.ErrForm},
		{"41>4", "", api.ErrForm},
		{"4>1>", "", api.ErrForm},
		{"41>g", "", api.ErrForm},
		{"41> \n\x00", "A", api.OK},
		{"41> \n\x00.", "", api.ErrForm},
		{"41>\x0b", "", api.ErrForm},
	})
}

func TestDecodeTellsWhatIsMetFirst(t *testing.T) {
	// What is wrong in form is met ahead of the end that there is not: that one is met behind all bytes.
	checkAll(t, []decoding{
		{"g", "", api.ErrForm},
		{"41g", "", api.ErrForm},
		{"g41", "", api.ErrForm},
		{"4 g", "", api.ErrForm},
		{" .", "", api.ErrForm},
		{"g>g", "", api.ErrForm},
		{"g>>", "", api.ErrForm},
	})
}

func TestDecodeOfEachTwoDigits(t *testing.T) {
	for i := range len(digits) {
		high := strings.IndexByte("0123456789ABCDEF", strings.ToUpper(digits)[i])
		check(t, digits[i:i+1]+">", one(high*16), api.OK)
		for k := range len(digits) {
			low := strings.IndexByte("0123456789ABCDEF", strings.ToUpper(digits)[k])
			check(t, digits[i:i+1]+digits[k:k+1]+">", one(high*16+low), api.OK)
		}
	}
}

func TestDecodeWithEachByteAtEachPlace(t *testing.T) {
	for _, s := range []string{"", ">", "4>", "41>", "41 f>", "4f5>\r\n", "4f5A", "4g>", ">>"} {
		for at := range len(s) + 1 {
			for c := range 256 {
				checkAgain(t, s[:at]+one(c)+s[at:])
				if at < len(s) {
					checkAgain(t, s[:at]+one(c)+s[at+1:])
				}
			}
		}
	}
}

func TestDecodeOfAllShortTexts(t *testing.T) {
	for _, s := range texts("4fA >G", 7) {
		checkAgain(t, s)
	}
	for _, s := range texts("09\x00>\x0b", 6) {
		checkAgain(t, s)
	}
}

func TestDecodeOfAnyTexts(t *testing.T) {
	r := rand.New(rand.NewPCG(6, 2))
	for range 20000 {
		s := some(r, digits+whites, r.IntN(80))
		checkAgain(t, s)
		checkAgain(t, s+">"+some(r, whites, r.IntN(4)))
		checkAgain(t, s+">"+some(r, digits+whites+">g", r.IntN(4)))
		checkAgain(t, some(r, bytes(), r.IntN(8))+">")
	}
}

func TestDecodeOfLongTexts(t *testing.T) {
	r := rand.New(rand.NewPCG(6, 3))
	long := some(r, digits, 2*api.MaxData)
	for _, s := range []string{long + ">", long + "4>", long, long + "g", "g" + long, long + ">4", long + strings.Repeat(" ", api.MaxData) + ">", long + ">" + strings.Repeat("\x00", api.MaxData), some(r, digits+whites, 4*api.MaxData) + ">"} {
		checkAgain(t, s)
	}
}

func TestDecodeDoesTheSameAgain(t *testing.T) {
	// A digit that is left over in one call is not known to the next one.
	for _, s := range []string{"4>", "4", "4g", "41 4>"} {
		hexa.Decode(s)
		check(t, "1>", "\x10", api.OK)
		check(t, "12>", "\x12", api.OK)
		check(t, ">", "", api.OK)
	}
}

// P6.3

func TestWhatIsEncodedIsDecoded(t *testing.T) {
	r := rand.New(rand.NewPCG(6, 4))
	all := append(texts("\x00\x0f\xf0>A", 5), bytes(), some(r, bytes(), api.MaxData))
	for length := range 600 {
		all = append(all, some(r, bytes(), length))
	}
	for _, s := range all {
		check(t, hexa.Encode(s), s, api.OK)
		check(t, strings.ToLower(hexa.Encode(s)), s, api.OK)
	}
	for c := range 256 {
		check(t, hexa.Encode(one(c)), one(c), api.OK)
	}
}

func TestWhiteBytesCountForNothing(t *testing.T) {
	// Of what is refused, too: the error is the same with them and without.
	for _, s := range []string{"", ">", "4>", "41>", "41f>", "410F>", "41", "4", "4g>", "4g", "41>>", "41>4", "g>"} {
		want, code := decodeAgain(s)
		for at := range len(s) + 1 {
			for i := range len(whites) {
				check(t, s[:at]+whites[i:i+1]+s[at:], want, code)
			}
			check(t, s[:at]+whites+whites+s[at:], want, code)
		}
		spread := whites
		for i := range len(s) {
			spread += s[i:i+1] + whites
		}
		check(t, spread, want, code)
	}
}

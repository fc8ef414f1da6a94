package runs_test

import (
	"math"
	"math/rand/v2"
	"strings"
	"testing"

	"bindery/api"
	"bindery/runs"
)

// room is more than any text of these tests is decoded to.
const room = 1 << 30

func checkEncode(t *testing.T, s, want string) {
	t.Helper()
	if got := runs.Encode(s); got != want {
		t.Errorf("Encode(%.60q) of %d bytes = %.60q of %d bytes, want %.60q of %d bytes", s, len(s), got, len(got), want, len(want))
	}
}

func check(t *testing.T, s string, most int, want string, code api.Errno) {
	t.Helper()
	if got, gotCode := runs.Decode(s, most); got != want || gotCode != code {
		t.Errorf("Decode(%.60q, %d) of %d bytes = %.60q of %d bytes, %d, want %.60q of %d bytes, %d", s, most, len(s), got, len(got), gotCode, want, len(want), code)
	}
}

// told is bytes of these numbers.
func told(numbers ...int) string {
	s := make([]byte, len(numbers))
	for i, n := range numbers {
		s[i] = byte(n)
	}
	return string(s)
}

// many is a byte so many times.
func many(c byte, times int) string { return strings.Repeat(string([]byte{c}), times) }

// mixed are so many bytes, of which no two that stand beside one another are alike.
func mixed(length int) string {
	s := make([]byte, length)
	for i := range s {
		s[i] = byte('A' + i%23)
	}
	return string(s)
}

// texts are all texts of at most so many bytes, each one of the letters.
func texts(letters string, most int) []string {
	all := []string{""}
	longest := all
	for range most {
		var longer []string
		for _, s := range longest {
			for i := range len(letters) {
				longer = append(longer, s+letters[i:i+1])
			}
		}
		all = append(all, longer...)
		longest = longer
	}
	return all
}

// some tells a text of any bytes.
func some(r *rand.Rand, length int) string {
	s := make([]byte, length)
	for i := range s {
		s[i] = byte(r.IntN(256))
	}
	return string(s)
}

// spells tells a text of any bytes, most of which come some times, up to longest times, one behind the other.
func spells(r *rand.Rand, length, longest int) string {
	var s strings.Builder
	for s.Len() < length {
		s.WriteString(many(byte(r.IntN(4)), 1+r.IntN(min(longest, length-s.Len()))))
	}
	return s.String()
}

// encodeAgain tells again what Encode answers: spell by spell of alike bytes, each as long as it can be.
func encodeAgain(s string) string {
	var parts, asTheyAre []byte
	tell := func() {
		for len(asTheyAre) > 0 {
			n := min(len(asTheyAre), 128)
			parts = append(parts, byte(n-1))
			parts = append(parts, asTheyAre[:n]...)
			asTheyAre = asTheyAre[n:]
		}
	}
	for len(s) > 0 {
		length := 1
		for length < len(s) && s[length] == s[0] {
			length++
		}
		spell := s[:length]
		s = s[length:]
		for len(spell) > 2 {
			tell()
			n := min(len(spell), 128)
			parts = append(parts, byte(257-n), spell[0])
			spell = spell[n:]
		}
		asTheyAre = append(asTheyAre, spell...)
	}
	tell()
	return string(parts) + "\x80"
}

// decodeAgain tells again what Decode answers: it first looks what each part comes to, and how they end, and then whether there is room for them.
func decodeAgain(s string, most int) (string, api.Errno) {
	if most < 0 {
		return "", api.ErrArg
	}
	all, end := partsOf(s)
	whole := ""
	for _, part := range all {
		whole += part
		if len(whole) > most {
			return "", api.ErrBig
		}
	}
	if end != api.OK {
		return "", end
	}
	return whole, api.OK
}

// partsOf tells what each part comes to that is there whole, and how they end.
func partsOf(s string) ([]string, api.Errno) {
	var all []string
	for s != "" && s[0] != 128 {
		n := int(s[0])
		switch {
		case n < 128 && len(s) >= n+2:
			all = append(all, s[1:n+2])
			s = s[n+2:]
		case n > 128 && len(s) >= 2:
			all = append(all, many(s[1], 257-n))
			s = s[2:]
		default:
			return all, api.ErrShort
		}
	}
	switch len(s) {
	case 0:
		return all, api.ErrShort
	case 1:
		return all, api.OK
	}
	return all, api.ErrForm
}

func checkAgain(t *testing.T, s string, most int) {
	t.Helper()
	want, code := decodeAgain(s, most)
	check(t, s, most, want, code)
}

// P7.1

func TestAPartOfBytesAsTheyAre(t *testing.T) {
	r := rand.New(rand.NewPCG(7, 1))
	for n := range 128 {
		for _, s := range []string{mixed(n + 1), some(r, n+1), many(0, n+1), many(128, n+1), many(255, n+1)} {
			check(t, told(n)+s+told(128), n+1, s, api.OK)
			check(t, told(n)+s+told(0, 'x', 128), n+2, s+"x", api.OK)
		}
	}
}

func TestAPartOfOneByteManyTimes(t *testing.T) {
	for n := 129; n < 256; n++ {
		for c := range 256 {
			s := many(byte(c), 257-n)
			check(t, told(n, c, 128), 257-n, s, api.OK)
			check(t, told(n, c, 0, 'x', 128), 258-n, s+"x", api.OK)
		}
	}
	check(t, told(129, 'a', 128), 128, many('a', 128), api.OK)
	check(t, told(254, 'a', 128), 3, "aaa", api.OK)
	check(t, told(255, 'a', 128), 2, "aa", api.OK)
}

func TestTheEnd(t *testing.T) {
	check(t, told(128), 0, "", api.OK)
	check(t, told(128), room, "", api.OK)
	// Within a part, the byte 128 is one as others.
	check(t, told(0, 128, 128), 1, "\x80", api.OK)
	check(t, told(1, 128, 128, 128), 2, "\x80\x80", api.OK)
	check(t, told(255, 128, 128), 2, "\x80\x80", api.OK)
	check(t, told(0, 128), room, "", api.ErrShort)
	check(t, told(255, 128), room, "", api.ErrShort)
}

// P7.2

func TestEncode(t *testing.T) {
	checkEncode(t, "", told(128))
	checkEncode(t, "abbbbc", told(0, 'a', 253, 'b', 0, 'c', 128))
	checkEncode(t, "a", told(0, 'a', 128))
	checkEncode(t, "aa", told(1, 'a', 'a', 128))
	checkEncode(t, "aaa", told(254, 'a', 128))
	checkEncode(t, "aabb", told(3, 'a', 'a', 'b', 'b', 128))
	checkEncode(t, "aabbb", told(1, 'a', 'a', 254, 'b', 128))
	checkEncode(t, "aaabb", told(254, 'a', 1, 'b', 'b', 128))
	checkEncode(t, "aaabbb", told(254, 'a', 254, 'b', 128))
	checkEncode(t, "aaabaaa", told(254, 'a', 0, 'b', 254, 'a', 128))
	checkEncode(t, "ababab", told(5, 'a', 'b', 'a', 'b', 'a', 'b', 128))
	checkEncode(t, "\x80\x80\x80\x80", told(253, 128, 128))
	checkEncode(t, "\x00\x00\x00", told(254, 0, 128))
	checkEncode(t, "\xff\xff\x80", told(2, 255, 255, 128, 128))
}

func TestEncodeOfOneByteManyTimes(t *testing.T) {
	for _, c := range []byte{0, 'a', 127, 128, 129, 255} {
		n := int(c)
		checkEncode(t, many(c, 127), told(130, n, 128))
		checkEncode(t, many(c, 128), told(129, n, 128))
		checkEncode(t, many(c, 129), told(129, n, 0, n, 128))
		checkEncode(t, many(c, 130), told(129, n, 1, n, n, 128))
		checkEncode(t, many(c, 131), told(129, n, 254, n, 128))
		checkEncode(t, many(c, 256), told(129, n, 129, n, 128))
		checkEncode(t, many(c, 257), told(129, n, 129, n, 0, n, 128))
		checkEncode(t, many(c, 259), told(129, n, 129, n, 254, n, 128))
	}
	for c := range 256 {
		for times := 3; times <= 128; times++ {
			checkEncode(t, many(byte(c), times), told(257-times, c, 128))
		}
	}
}

func TestEncodeOfBytesAsTheyAre(t *testing.T) {
	for length := 1; length <= 128; length++ {
		s := mixed(length)
		checkEncode(t, s, told(length-1)+s+told(128))
		checkEncode(t, s+"aaa", told(length-1)+s+told(254, 'a', 128))
		checkEncode(t, "aaa"+s, told(254, 'a', length-1)+s+told(128))
	}
	s := mixed(385)
	checkEncode(t, s[:129], told(127)+s[:128]+told(0)+s[128:129]+told(128))
	checkEncode(t, s[:256], told(127)+s[:128]+told(127)+s[128:256]+told(128))
	checkEncode(t, s, told(127)+s[:128]+told(127)+s[128:256]+told(127)+s[256:384]+told(0)+s[384:]+told(128))
}

func TestEncodeWhereAPartIsFull(t *testing.T) {
	// Two alike bytes that are left of a run go with those behind them.
	checkEncode(t, many('a', 130)+"b", told(129, 'a', 2, 'a', 'a', 'b', 128))
	checkEncode(t, many('a', 129)+"bbb", told(129, 'a', 0, 'a', 254, 'b', 128))
	s := mixed(128)
	// Alike bytes on both sides of a full part's end.
	checkEncode(t, s[:127]+"aa", told(127)+s[:127]+"a"+told(0, 'a', 128))
	checkEncode(t, s[:126]+"aa"+"b", told(127)+s[:126]+"aa"+told(0, 'b', 128))
	checkEncode(t, s[:127]+"aaa", told(126)+s[:127]+told(254, 'a', 128))
	checkEncode(t, s[:126]+"aaa", told(125)+s[:126]+told(254, 'a', 128))
	checkEncode(t, s+"aaa", told(127)+s+told(254, 'a', 128))
	checkEncode(t, s+"aa", told(127)+s+told(1, 'a', 'a', 128))
	checkEncode(t, s[:1]+s+"aaaa", told(127)+s[:1]+s[:127]+told(0)+s[127:]+told(253, 'a', 128))
}

func TestEncodeOfAllShortTexts(t *testing.T) {
	for _, s := range append(texts("a\x80", 12), texts("\x00bc", 8)...) {
		checkEncode(t, s, encodeAgain(s))
	}
}

func TestEncodeOfSpells(t *testing.T) {
	// All that can stand around two spells, each at the edges of a part's length.
	edges := []int{0, 1, 2, 3, 4, 125, 126, 127, 128, 129, 130, 131, 132, 255, 256, 257, 258, 259}
	for _, ahead := range edges {
		for _, first := range edges {
			for _, second := range edges {
				s := mixed(ahead) + many('a', first) + many('\xff', second)
				checkEncode(t, s, encodeAgain(s))
				checkEncode(t, s+"z", encodeAgain(s+"z"))
			}
		}
	}
}

func TestEncodeOfAnyTexts(t *testing.T) {
	r := rand.New(rand.NewPCG(7, 2))
	for length := 1; length < 1200; length++ {
		for _, s := range []string{some(r, length), mixed(length), spells(r, length, 3), spells(r, length, 6), spells(r, length, 300)} {
			checkEncode(t, s, encodeAgain(s))
		}
	}
}

func TestEncodeOfLongTexts(t *testing.T) {
	r := rand.New(rand.NewPCG(7, 3))
	for _, s := range []string{some(r, api.MaxData), mixed(api.MaxData + 1), many(0, 16*api.MaxData+1), strings.Repeat("ab", api.MaxData), spells(r, api.MaxData, 5), spells(r, api.MaxData, 1000)} {
		checkEncode(t, s, encodeAgain(s))
	}
}

// P7.3

func TestDecode(t *testing.T) {
	check(t, told(0, 'a', 253, 'b', 0, 'c', 128), 6, "abbbbc", api.OK)
	check(t, told(0, 'a', 0, 'a', 0, 'a', 128), 3, "aaa", api.OK)
	check(t, told(255, 'a', 255, 'a', 128), 4, "aaaa", api.OK)
	check(t, told(2, 'a', 'a', 'a', 128), 3, "aaa", api.OK)
	check(t, told(0, 255, 255, 0, 128), 3, "\xff\x00\x00", api.OK)
	check(t, told(0, 'a', 128), math.MaxInt, "a", api.OK)
}

func TestDecodeOfRoomBelowNone(t *testing.T) {
	for _, most := range []int{-1, -2, -128, math.MinInt32, math.MinInt} {
		for _, s := range []string{"", told(128), told(128, 128), told(0), told(0, 'a'), told(0, 'a', 128), told(255, 'a', 128)} {
			check(t, s, most, "", api.ErrArg)
		}
	}
}

func TestDecodeOfWhatIsNotWhole(t *testing.T) {
	check(t, "", 0, "", api.ErrShort)
	check(t, "", room, "", api.ErrShort)
	for n := range 128 {
		for length := range n + 1 {
			check(t, told(n)+many('a', length), room, "", api.ErrShort)
			check(t, told(0, 'x', n)+many(128, length), room, "", api.ErrShort)
		}
		check(t, told(n)+many('a', n+1), room, "", api.ErrShort)
	}
	for n := 129; n < 256; n++ {
		check(t, told(n), room, "", api.ErrShort)
		check(t, told(n, 'a'), room, "", api.ErrShort)
		check(t, told(0, 'x', n), room, "", api.ErrShort)
		check(t, told(0, 'x', n, 'a'), room, "", api.ErrShort)
	}
}

func TestDecodeOfMoreThanThereMayBe(t *testing.T) {
	for n := range 128 {
		s := mixed(n + 1)
		check(t, told(n)+s+told(128), n, "", api.ErrBig)
		check(t, told(n)+s+told(128), 0, "", api.ErrBig)
		check(t, told(0, 'x', n)+s+told(128), n+1, "", api.ErrBig)
		check(t, told(0, 'x', n)+s+told(128), n+2, "x"+s, api.OK)
	}
	for n := 129; n < 256; n++ {
		check(t, told(n, 'a', 128), 256-n, "", api.ErrBig)
		check(t, told(n, 'a', 128), 0, "", api.ErrBig)
		check(t, told(0, 'x', n, 'a', 128), 257-n, "", api.ErrBig)
		check(t, told(0, 'x', n, 'a', 128), 258-n, "x"+many('a', 257-n), api.OK)
	}
}

func TestDecodeOfWhatStandsBehindTheEnd(t *testing.T) {
	for c := range 256 {
		check(t, told(128, c), 0, "", api.ErrForm)
		check(t, told(128, c, 'a', 128), room, "", api.ErrForm)
		check(t, told(0, 'a', 128, c), 1, "", api.ErrForm)
		check(t, told(255, 'a', 128, c), 2, "", api.ErrForm)
	}
	check(t, told(128, 128), room, "", api.ErrForm)
	check(t, told(128)+many('a', api.MaxData), room, "", api.ErrForm)
}

func TestDecodeTellsWhatIsFirst(t *testing.T) {
	// Of one part, what lacks ahead of what is too much.
	check(t, told(0), 0, "", api.ErrShort)
	check(t, told(5, 'a', 'b'), 2, "", api.ErrShort)
	check(t, told(5, 'a', 'b'), 0, "", api.ErrShort)
	check(t, told(129), 0, "", api.ErrShort)
	check(t, told(0, 'x', 129), 1, "", api.ErrShort)
	// Of several parts, the one on the left.
	check(t, told(0, 'a'), 0, "", api.ErrBig)
	check(t, told(129, 'a'), 127, "", api.ErrBig)
	check(t, told(129, 'a', 5, 'b'), 127, "", api.ErrBig)
	check(t, told(129, 'a', 128, 'x'), 127, "", api.ErrBig)
	check(t, told(0, 'a', 5, 'b', 128, 'x'), 1, "", api.ErrShort)
	check(t, told(0, 'a', 0, 'b', 128, 'x'), 1, "", api.ErrBig)
	check(t, told(0, 'a', 0, 'b', 128, 'x'), 2, "", api.ErrForm)
	// What is behind the end is no part: it neither lacks nor is too much.
	check(t, told(0, 'a', 128, 5), 1, "", api.ErrForm)
	check(t, told(0, 'a', 128, 129, 'a', 128), 1, "", api.ErrForm)
}

func TestDecodeOfAllShortTexts(t *testing.T) {
	for _, s := range texts(told(0, 1, 2, 128, 129, 254, 255), 6) {
		for _, most := range []int{0, 1, 2, 3, 4, 128, 129, 130, room} {
			checkAgain(t, s, most)
		}
	}
	for c := range 256 {
		for d := range 256 {
			checkAgain(t, told(c, d), 1)
			checkAgain(t, told(c, d, 128), 64)
		}
	}
}

func TestDecodeWithEachByteAtEachPlace(t *testing.T) {
	for _, s := range []string{told(128), told(0, 'a', 128), told(255, 'a', 128), told(0, 'a', 253, 'b', 0, 'c', 128), told(3) + "abcd" + told(129, 'z', 128)} {
		for at := range len(s) + 1 {
			for c := range 256 {
				for _, most := range []int{0, 1, 6, 132, room} {
					checkAgain(t, s[:at]+told(c)+s[at:], most)
					if at < len(s) {
						checkAgain(t, s[:at]+told(c)+s[at+1:], most)
					}
				}
			}
		}
	}
}

func TestDecodeOfAnyTexts(t *testing.T) {
	r := rand.New(rand.NewPCG(7, 4))
	for range 20000 {
		// Great bytes are short parts: of them more come ahead of what is wrong.
		s := []byte(some(r, r.IntN(60)))
		for i := range s {
			if r.IntN(3) > 0 {
				s[i] |= 0xf8
			}
		}
		checkAgain(t, string(s), r.IntN(400))
		checkAgain(t, string(s)+told(128), r.IntN(400))
		checkAgain(t, string(s)+told(128), room)
	}
}

func TestDecodeOfLongTexts(t *testing.T) {
	const parts = 1 << 17
	great := strings.Repeat(told(129, 'a'), parts)
	whole := many('a', 128*parts)
	check(t, great+told(128), len(whole), whole, api.OK)
	check(t, great+told(128), len(whole)-1, "", api.ErrBig)
	check(t, great+told(128), 0, "", api.ErrBig)
	check(t, great, len(whole), "", api.ErrShort)
	check(t, great+told(128, 128), len(whole), "", api.ErrForm)
	small := strings.Repeat(told(0, 'a'), parts)
	check(t, small+told(128), parts, many('a', parts), api.OK)
	check(t, small+told(128), parts-1, "", api.ErrBig)
}

// P7.4

// checkBoth checks that a text that is encoded is decoded, in just as much room, and is not longer than it may be.
func checkBoth(t *testing.T, s string) {
	t.Helper()
	encoded := runs.Encode(s)
	check(t, encoded, len(s), s, api.OK)
	check(t, encoded, room, s, api.OK)
	if len(s) > 0 {
		check(t, encoded, len(s)-1, "", api.ErrBig)
	}
	if most := len(s) + 1 + (len(s)+127)/128; len(encoded) > most {
		t.Errorf("Encode(%.60q) of %d bytes has %d bytes, want %d at most", s, len(s), len(encoded), most)
	}
}

func TestWhatIsEncodedIsDecoded(t *testing.T) {
	r := rand.New(rand.NewPCG(7, 5))
	all := append(texts("a\x80", 12), texts("\x00\x80\xff", 8)...)
	for length := 1; length < 1200; length++ {
		all = append(all, some(r, length), mixed(length), many(128, length), spells(r, length, 3), spells(r, length, 6), spells(r, length, 300))
	}
	all = append(all, some(r, api.MaxData), mixed(api.MaxData), many(0, 16*api.MaxData), strings.Repeat("aaab", api.MaxData/4), strings.Repeat("aab", api.MaxData/4))
	for _, s := range all {
		checkBoth(t, s)
	}
}

func TestWhatIsEncodedIsLongestOfMixedBytes(t *testing.T) {
	for length := range 1200 {
		want := length + 1 + (length+127)/128
		if got := len(runs.Encode(mixed(length))); got != want {
			t.Errorf("Encode of %d mixed bytes has %d bytes, want %d", length, got, want)
		}
	}
}

func TestWhatIsEncodedIsDecodedWholeAlone(t *testing.T) {
	for _, s := range []string{"", "a", "abbbbc", "aaaa" + mixed(300) + many('z', 300)} {
		encoded := runs.Encode(s)
		for at := range len(encoded) {
			check(t, encoded[:at], room, "", api.ErrShort)
		}
		for c := range 256 {
			check(t, encoded+told(c), room, "", api.ErrForm)
		}
	}
}

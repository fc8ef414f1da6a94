package token_test

import (
	"encoding/hex"
	"fmt"
	"math"
	"math/big"
	"math/rand/v2"
	"regexp"
	"slices"
	"strings"
	"testing"
	"unsafe"

	"bindery/api"
	"bindery/token"
)

const (
	whites = "\x00\t\n\f\r "
	delims = "()<>[]{}/%"
	// mostName and mostText are how long a name and a text may be.
	mostName = 127
	mostText = 65535
)

// Places far from every text, at which sums of places would turn round.
var farPlaces = []int{math.MinInt, math.MinInt + 1, math.MaxInt - 1, math.MaxInt}

// told is a token, and the code beside it.
type told struct {
	t    api.Token
	code api.Errno
}

// texts are all texts of at most so many bytes, each one of the letters.
func texts(letters string, most int) []string {
	all := []string{""}
	longest := all
	for range most {
		var longer []string
		for _, s := range longest {
			for i := range len(letters) {
				longer = append(longer, s+letters[i:i+1])
			}
		}
		all = append(all, longer...)
		longest = longer
	}
	return all
}

// one is the text of one byte.
func one(c int) string { return string([]byte{byte(c)}) }

// bytes are all bytes, rising.
func bytes() string {
	s := make([]byte, 256)
	for i := range s {
		s[i] = byte(i)
	}
	return string(s)
}

func newRandom(seed uint64) *rand.Rand { return rand.New(rand.NewPCG(seed, 15)) }

// some tells a text of any of the letters.
func some(r *rand.Rand, letters string, length int) string {
	s := make([]byte, length)
	for i := range s {
		s[i] = letters[r.IntN(len(letters))]
	}
	return string(s)
}

func isWhite(c byte) bool { return strings.IndexByte(whites, c) >= 0 }

// skipAgain is a second telling of P15.1.
func skipAgain(s string, at int) int {
	noted := false
	for place := range len(s) {
		if place < at {
			continue
		}
		c := s[place]
		switch {
		case noted:
			noted = c != '\r' && c != '\n'
		case c == '%':
			noted = true
		case !isWhite(c):
			return place
		}
	}
	return len(s)
}

var (
	regulars  = regexp.MustCompile(`^[^\x00\t\n\f\r ()<>\[\]{}/%]*`)
	twoDigits = regexp.MustCompile(`^[0-9A-Fa-f]{2}`)
	hexAhead  = regexp.MustCompile(`^[\x00\t\n\f\r 0-9A-Fa-f]*`)
	number    = regexp.MustCompile(`^[+-]?[0-9]+$`)
	blanks    = strings.NewReplacer("\x00", "", "\t", "", "\n", "", "\f", "", "\r", "", " ", "")
)

// nextAgain is a second telling of P15.2.
func nextAgain(s string, at int) (api.Token, api.Errno) {
	at = skipAgain(s, at)
	t, code := firstAgain(s[at:])
	if code != api.OK {
		return api.Token{}, code
	}
	return api.Token{Kind: t.Kind, N: t.N, S: t.S, At: at, End: at + t.End}, api.OK
}

// firstAgain tells again the token with which a text begins.
func firstAgain(s string) (api.Token, api.Errno) {
	begins := func(with string) bool { return strings.HasPrefix(s, with) }
	switch {
	case s == "":
		return api.Token{Kind: 0}, api.OK
	case begins("["):
		return api.Token{Kind: 4, End: 1}, api.OK
	case begins("]"):
		return api.Token{Kind: 5, End: 1}, api.OK
	case begins("<<"):
		return api.Token{Kind: 6, End: 2}, api.OK
	case begins(">>"):
		return api.Token{Kind: 7, End: 2}, api.OK
	case begins("/"):
		return nameAgain(s)
	case begins("("):
		return textAgain(s)
	case begins("<"):
		return hexAgain(s)
	case strings.IndexByte(delims, s[0]) >= 0:
		return api.Token{}, api.ErrForm
	}
	return wordAgain(regulars.FindString(s))
}

// nameAgain tells a name again, parted at each #.
func nameAgain(s string) (api.Token, api.Errno) {
	run := regulars.FindString(s[1:])
	name := ""
	for i, part := range strings.Split(run, "#") {
		if i > 0 {
			two := twoDigits.FindString(part)
			if two == "" || two == "00" {
				return api.Token{}, api.ErrForm
			}
			c, err := hex.DecodeString(two)
			if err != nil {
				panic(err)
			}
			name += string(c)
			part = part[2:]
		}
		if name += part; len(name) > mostName {
			return api.Token{}, api.ErrLong
		}
	}
	return api.Token{Kind: 2, S: name, End: 1 + len(run)}, api.OK
}

// The states in which a text is read again, byte by byte.
const (
	plain    = iota
	behindCR // a 13 was told as a 10
	escaping // behind a backslash
	octals   // behind a backslash, and digits
	dropped  // behind a backslash, and a 13
)

// textReader reads a text again, byte by byte: it never looks at what is to come.
type textReader struct {
	told  []byte
	open  int
	state int
	octal int
	many  int
	long  bool
}

func (r *textReader) put(c int) {
	r.told = append(r.told, byte(c))
	r.long = r.long || len(r.told) > mostText
}

// ended tells whether a byte closes the text.
func (r *textReader) ended(c byte) bool {
	state := r.state
	r.state = plain
	switch {
	case state == escaping:
		r.escaped(c)
		return false
	case state == octals && '0' <= c && c <= '7' && r.many < 3:
		// Of a byte that is told by more digits it is put already that there is one: it is changed alone.
		r.octal = 8*r.octal + int(c-'0')
		r.many++
		r.told[len(r.told)-1] = byte(r.octal % 256)
		r.state = octals
		return false
	case (state == behindCR || state == dropped) && c == '\n':
		return false
	}
	switch c {
	case '\\':
		r.state = escaping
	case '\r':
		r.put('\n')
		r.state = behindCR
	case '(':
		r.open++
		r.put('(')
	case ')':
		if r.open == 1 {
			return true
		}
		r.open--
		r.put(')')
	default:
		r.put(int(c))
	}
	return false
}

// escaped takes the byte behind a backslash.
func (r *textReader) escaped(c byte) {
	switch {
	case c == '\r':
		r.state = dropped
	case c == '\n':
	case '0' <= c && c <= '7':
		r.octal, r.many, r.state = int(c-'0'), 1, octals
		r.put(r.octal)
	default:
		if i := strings.IndexByte("nrtbf", c); i >= 0 {
			c = "\n\r\t\b\f"[i]
		}
		r.put(int(c))
	}
}

// textAgain tells a text again.
func textAgain(s string) (api.Token, api.Errno) {
	r := textReader{open: 1}
	for i := 1; i < len(s); i++ {
		if r.ended(s[i]) {
			return api.Token{Kind: 3, S: string(r.told), End: i + 1}, api.OK
		}
		if r.long {
			return api.Token{}, api.ErrLong
		}
	}
	return api.Token{}, api.ErrShort
}

// hexAgain tells a text of digits again: by what stands ahead of the first byte that is neither a digit nor white, and that byte.
func hexAgain(s string) (api.Token, api.Errno) {
	ahead := hexAhead.FindString(s[1:])
	digits, rest := blanks.Replace(ahead), s[1+len(ahead):]
	switch {
	case len(digits) >= 2*(mostText+1):
		return api.Token{}, api.ErrLong
	case rest == "":
		return api.Token{}, api.ErrShort
	case rest[0] != '>':
		return api.Token{}, api.ErrForm
	case len(digits) > 2*mostText:
		return api.Token{}, api.ErrLong
	}
	if len(digits)%2 == 1 {
		digits += "0"
	}
	b, err := hex.DecodeString(digits)
	if err != nil {
		panic(err)
	}
	return api.Token{Kind: 3, S: string(b), End: 1 + len(ahead) + 1}, api.OK
}

// wordAgain tells a number or a word again.
func wordAgain(run string) (api.Token, api.Errno) {
	if number.MatchString(run) {
		n, _ := new(big.Int).SetString(run, 10)
		if n.CmpAbs(big.NewInt(1<<31-1)) > 0 {
			return api.Token{}, api.ErrRange
		}
		return api.Token{Kind: 1, N: int(n.Int64()), End: len(run)}, api.OK
	}
	if len(run) > mostName {
		return api.Token{}, api.ErrLong
	}
	return api.Token{Kind: 8, S: run, End: len(run)}, api.OK
}

// allAgain is a second telling of P15.3.
func allAgain(s string) []told {
	var all []told
	at := 0
	for {
		t, code := nextAgain(s, at)
		all = append(all, told{t, code})
		if code != api.OK || t.Kind == 0 {
			return all
		}
		at = t.End
	}
}

// collect are the tokens that All tells.
func collect(s string) []told {
	var all []told
	for t, code := range token.All(s) {
		all = append(all, told{t, code})
	}
	return all
}

// show tells a token, its text cut short.
func show(t api.Token) string {
	return fmt.Sprintf("{kind %d, N %d, S %.60q (%d bytes), from %d to %d}", t.Kind, t.N, t.S, len(t.S), t.At, t.End)
}

func checkSkip(t *testing.T, s string, at, want int) {
	t.Helper()
	if got := token.Skip(s, at); got != want {
		t.Fatalf("Skip of %.60q (%d bytes) at %d: %d, wanted %d", s, len(s), at, got, want)
	}
}

// check asks Next, and wants this answer.
func check(t *testing.T, s string, at int, want api.Token, code api.Errno) {
	t.Helper()
	if got, c := token.Next(s, at); got != want || c != code {
		t.Fatalf("Next of %.60q (%d bytes) at %d: %s, %d; wanted %s, %d", s, len(s), at, show(got), c, show(want), code)
	}
}

// checkTold wants that a text begins with a token of this kind, number and text, and is that long.
func checkTold(t *testing.T, s string, kind, n int, want string, end int) {
	t.Helper()
	check(t, s, 0, api.Token{Kind: kind, N: n, S: want, At: 0, End: end}, api.OK)
}

// checkWhole wants that a text is one token of this kind and text.
func checkWhole(t *testing.T, s string, kind int, want string) {
	t.Helper()
	checkTold(t, s, kind, 0, want, len(s))
}

// checkWrong wants this error of a text.
func checkWrong(t *testing.T, s string, code api.Errno) {
	t.Helper()
	check(t, s, 0, api.Token{}, code)
}

// checkAgain asks Next, and wants what the second telling answers.
func checkAgain(t *testing.T, s string, at int) {
	t.Helper()
	want, code := nextAgain(s, at)
	check(t, s, at, want, code)
}

// checkAll asks All and Many, and wants what the second telling answers.
func checkAll(t *testing.T, s string) {
	t.Helper()
	want := allAgain(s)
	if got := collect(s); !slices.Equal(got, want) {
		t.Fatalf("All of %.60q (%d bytes): %v, wanted %v", s, len(s), got, want)
	}
	last := want[len(want)-1]
	if n, code := token.Many(s); n != len(want)-1 || code != last.code {
		t.Fatalf("Many of %.60q (%d bytes): %d, %d; wanted %d, %d", s, len(s), n, code, len(want)-1, last.code)
	}
}

// P15.1

func TestSkip(t *testing.T) {
	for _, one := range []struct {
		s        string
		at, want int
	}{
		{"", 0, 0},
		{"a", 0, 0},
		{" a", 0, 1},
		{"a b", 0, 0},
		{"a b", 1, 2},
		{"a b", 2, 2},
		{"a b", 3, 3},
		{whites + "a", 0, 6},
		{whites, 0, 6},
		{"%", 0, 1},
		{"%a", 0, 2},
		{"%a", 1, 1},
		{"%a b", 0, 4},
		{"%a b", 2, 3},
		{"%a\nb", 0, 3},
		{"%a\rb", 0, 3},
		{"%a\r\nb", 0, 4},
		{"%a\n\rb", 0, 4},
		{"%a\x00\t\f b", 0, 7},
		{"%\nb", 0, 2},
		{"%%\nb", 0, 3},
		{"%a%b\nc", 0, 5},
		{"%a\n%b\nc", 0, 6},
		{"%a\n %b\r\n\t%c\r d", 0, 13},
		{" %a\n", 0, 4},
		{"\x0b", 0, 0},
		{"#", 0, 0},
		{"\x80 ", 0, 0},
		{"(%)", 0, 0},
		{"(%)", 1, 3},
		{"%(\n)", 0, 3},
	} {
		checkSkip(t, one.s, one.at, one.want)
	}
}

func TestSkipOfAllShortTexts(t *testing.T) {
	for _, s := range texts("a% \r\n", 6) {
		for at := -2; at <= len(s)+2; at++ {
			checkSkip(t, s, at, skipAgain(s, at))
		}
	}
}

func TestSkipOfEachByteAtEachPlace(t *testing.T) {
	for _, s := range []string{"", " ", "%", "%a", "% \n", "%\r\n ", "a", " \t%\x00\f(\r\n%%"} {
		for place := range len(s) + 1 {
			for c := range 256 {
				put := s[:place] + one(c) + s[place:]
				for at := range len(put) + 1 {
					checkSkip(t, put, at, skipAgain(put, at))
				}
			}
		}
	}
}

func TestSkipOutsideTheText(t *testing.T) {
	for _, s := range []string{"", " ", "a", " a", "%", "%\na"} {
		for _, at := range farPlaces {
			want := len(s)
			if at < 0 {
				want = skipAgain(s, 0)
			}
			checkSkip(t, s, at, want)
		}
		checkSkip(t, s, len(s), len(s))
		checkSkip(t, s, len(s)+1, len(s))
		checkSkip(t, s, -1, skipAgain(s, 0))
	}
}

func TestSkipOfLongTexts(t *testing.T) {
	const many = 1 << 22
	for _, s := range []string{
		strings.Repeat(" ", many),
		strings.Repeat("%", many),
		strings.Repeat("%\n", many),
		strings.Repeat("%a\r\n \x00", many/4),
		"%" + strings.Repeat("a ", many),
	} {
		checkSkip(t, s, 0, len(s))
		checkSkip(t, s+"\r]", 0, len(s)+1)
		checkSkip(t, s+"\n]", -1, len(s)+1)
	}
}

// P15.2

func TestKindsHaveTheirNumbers(t *testing.T) {
	kinds := []int{api.End, api.Number, api.NameSign, api.TextSign, api.Open, api.Close, api.OpenDict, api.CloseDict, api.Word}
	if !slices.Equal(kinds, []int{0, 1, 2, 3, 4, 5, 6, 7, 8}) {
		t.Error(kinds)
	}
}

func TestEnd(t *testing.T) {
	for _, s := range []string{"", " ", whites, "%", "% (", "%\n%\n", " %\r\n", "%a % b"} {
		for _, at := range []int{-1, 0, len(s), len(s) + 1} {
			check(t, s, at, api.Token{Kind: api.End, At: len(s), End: len(s)}, api.OK)
		}
		for _, at := range farPlaces {
			check(t, s, at, api.Token{Kind: api.End, At: len(s), End: len(s)}, api.OK)
		}
	}
}

func TestSigns(t *testing.T) {
	for s, kind := range map[string]int{"[": api.Open, "]": api.Close, "<<": api.OpenDict, ">>": api.CloseDict} {
		for _, behind := range []string{"", " ", "[", "]", "<", ">", "(", ")", "{", "}", "/", "%", "a", "1", "\x00", "\xff", "<<", ">>", ">a"} {
			checkTold(t, s+behind, kind, 0, "", len(s))
		}
	}
}

func TestWrongSigns(t *testing.T) {
	for _, s := range []string{">", ")", "{", "}"} {
		for _, behind := range []string{"", " ", "[", "]", "<", "(", ")", "{", "}", "/", "%", "a", "1", " >", "\n>", "\x00>", "%\n>"} {
			checkWrong(t, s+behind, api.ErrForm)
		}
	}
}

func TestNames(t *testing.T) {
	checkWhole(t, "/", api.NameSign, "")
	checkWhole(t, "/A", api.NameSign, "A")
	checkWhole(t, "/A#42", api.NameSign, "AB")
	checkWhole(t, "/#41", api.NameSign, "A")
	checkWhole(t, "/#4142", api.NameSign, "A42")
	checkWhole(t, "/#41#42", api.NameSign, "AB")
	checkWhole(t, "/#23", api.NameSign, "#")
	checkWhole(t, "/#2341", api.NameSign, "#41")
	checkWhole(t, "/#20#2f#28#25", api.NameSign, " /(%")
	checkWhole(t, "/#01#0a#A0#ff#Fe", api.NameSign, "\x01\x0a\xa0\xff\xfe")
	checkWhole(t, "/\x01\x0b\x7f\x80\xff\"'\\!", api.NameSign, "\x01\x0b\x7f\x80\xff\"'\\!")
	checkWhole(t, "/-1", api.NameSign, "-1")
	checkTold(t, "/A B", api.NameSign, 0, "A", 2)
	checkTold(t, "/ A", api.NameSign, 0, "", 1)
	checkTold(t, "/A/B", api.NameSign, 0, "A", 2)
	checkTold(t, "//", api.NameSign, 0, "", 1)
	checkTold(t, "/A%B\nC", api.NameSign, 0, "A", 2)
	checkTold(t, "/A#42(x", api.NameSign, 0, "AB", 5)
	for i := range len(whites + delims) {
		checkTold(t, "/Ab#63"+(whites + delims)[i:i+1]+"d", api.NameSign, 0, "Abc", 6)
	}
}

func TestWrongNames(t *testing.T) {
	for _, s := range []string{
		"/#", "/#4", "/#g1", "/#1g", "/#00", "/A#", "/A#4", "/A#4g", "/A#g4", "/A#00", "/A#00B", "/##", "/##41", "/#4#41", "/#41#", "/#41#4", "/#41#00",
		"/# 41", "/#4 1", "/#(1", "/#4(", "/#-1", "/#+1", "/#0x", "/#\x0041", "/#4\xff", "/#4\uff11", "/# ", "/#\n", "/#4\n", "/#/41", "/#%41",
	} {
		checkWrong(t, s, api.ErrForm)
	}
}

func TestNamesOfEachTwoDigits(t *testing.T) {
	for high := range 256 {
		for low := range 256 {
			checkAgain(t, "/a#"+one(high)+one(low)+"b ", 0)
		}
	}
	for c := 1; c < 256; c++ {
		checkWhole(t, "/#"+strings.ToUpper(hex.EncodeToString([]byte{byte(c)})), api.NameSign, one(c))
		checkWhole(t, "/#"+hex.EncodeToString([]byte{byte(c)}), api.NameSign, one(c))
	}
}

func TestLongNames(t *testing.T) {
	for _, letter := range []string{"a", "#61", "1"} {
		c := strings.Replace(letter, "#61", "a", 1)
		for length := range 140 {
			s := "/" + strings.Repeat(letter, length)
			for _, behind := range []string{"", " ", "/", "("} {
				if length > mostName {
					checkWrong(t, s+behind, api.ErrLong)
					continue
				}
				checkTold(t, s+behind, api.NameSign, 0, strings.Repeat(c, length), len(s))
			}
		}
	}
	checkWrong(t, "/"+strings.Repeat("a", 1<<22), api.ErrLong)
	checkWrong(t, "/"+strings.Repeat("#23", 1<<20), api.ErrLong)
	checkWhole(t, "/"+strings.Repeat("#23", mostName), api.NameSign, strings.Repeat("#", mostName))
}

func TestNamesTellWhatIsMetFirst(t *testing.T) {
	full := "/" + strings.Repeat("a", mostName)
	for s, code := range map[string]api.Errno{
		// The byte that would be one too many is none, as its # is wrong.
		full + "#":      api.ErrForm,
		full + "#4":     api.ErrForm,
		full + "#zz":    api.ErrForm,
		full + "#00":    api.ErrForm,
		full + "#41":    api.ErrLong,
		full + "b":      api.ErrLong,
		full + "b#":     api.ErrLong,
		full + "b#00":   api.ErrLong,
		full + "#41#":   api.ErrLong,
		full + "#41#00": api.ErrLong,

		full[:mostName] + "#":       api.ErrForm,
		full[:mostName] + "#00bbbb": api.ErrForm,
		full[:mostName] + "#41#00":  api.ErrForm,
		full[:mostName] + "#41b#00": api.ErrLong,
		"/#00" + full[1:] + "b":     api.ErrForm,
		"/#zz" + full[1:] + "b":     api.ErrForm,
		"/#" + full[1:] + "bb":      api.ErrLong,
	} {
		checkWrong(t, s, code)
		checkWrong(t, s+" ", code)
	}
	checkWhole(t, "/#"+full[1:]+"b", api.NameSign, "\xaa"+full[3:]+"b")
}

func TestTexts(t *testing.T) {
	checkWhole(t, "()", api.TextSign, "")
	checkWhole(t, "(a)", api.TextSign, "a")
	checkWhole(t, "(x(y))", api.TextSign, "x(y)")
	checkWhole(t, "(())", api.TextSign, "()")
	checkWhole(t, "(((a)b)(c))", api.TextSign, "((a)b)(c)")
	checkWhole(t, "(()()())", api.TextSign, "()()()")
	checkTold(t, "(a))", api.TextSign, 0, "a", 3)
	checkTold(t, "(a)(b)", api.TextSign, 0, "a", 3)
	checkTold(t, "()x", api.TextSign, 0, "", 2)
	checkWhole(t, "(a %b\n[<{/#c>]})", api.TextSign, "a %b\n[<{/#c>]}")
	checkTold(t, "(%))", api.TextSign, 0, "%", 3)
}

func TestEndsOfLinesWithinTexts(t *testing.T) {
	checkWhole(t, "(\n)", api.TextSign, "\n")
	checkWhole(t, "(\r)", api.TextSign, "\n")
	checkWhole(t, "(\r\n)", api.TextSign, "\n")
	checkWhole(t, "(\n\r)", api.TextSign, "\n\n")
	checkWhole(t, "(\r\r\n\n)", api.TextSign, "\n\n\n")
	checkWhole(t, "(a\r\nb\rc\nd)", api.TextSign, "a\nb\nc\nd")
	checkWhole(t, "(\\\n)", api.TextSign, "")
	checkWhole(t, "(\\\r)", api.TextSign, "")
	checkWhole(t, "(\\\r\n)", api.TextSign, "")
	checkWhole(t, "(\\\n\r)", api.TextSign, "\n")
	checkWhole(t, "(\\\n\n)", api.TextSign, "\n")
	checkWhole(t, "(\\\r\r\n)", api.TextSign, "\n")
	checkWhole(t, "(a\\\r\nb\\\rc\\\nd)", api.TextSign, "abcd")
	checkWhole(t, "(\\\r\\\n)", api.TextSign, "")
	checkWhole(t, "(\\\\\n)", api.TextSign, "\\\n")
	checkWhole(t, "(\x00\t\f\x0b )", api.TextSign, "\x00\t\f\x0b ")
}

func TestBackslashes(t *testing.T) {
	checkWhole(t, `(\n\r\t\b\f)`, api.TextSign, "\n\r\t\b\f")
	checkWhole(t, `(\(\)\\)`, api.TextSign, `()\`)
	checkWhole(t, `(\()`, api.TextSign, "(")
	checkWhole(t, `(\))`, api.TextSign, ")")
	checkWhole(t, `(\\)`, api.TextSign, `\`)
	checkWhole(t, `(\\\\)`, api.TextSign, `\\`)
	checkWhole(t, `(\\\)(\(\)))`, api.TextSign, `\)((`+`))`)
	checkWhole(t, `(\a\v\x\8\9\N\ \%\/\"\'\[)`, api.TextSign, `avx89N %/"'[`)
	checkWhole(t, "(\\\x00\\\xff\\\u00e9\\\t)", api.TextSign, "\x00\xff\u00e9\t")
	for c := range 256 {
		checkAgain(t, "(\\"+one(c)+")", 0)
		checkAgain(t, "(\\"+one(c)+"))", 0)
		checkAgain(t, "(a\\"+one(c)+"b)", 0)
	}
}

func TestDigitsBehindBackslashes(t *testing.T) {
	checkWhole(t, `(\0)`, api.TextSign, "\x00")
	checkWhole(t, `(\7)`, api.TextSign, "\x07")
	checkWhole(t, `(\10)`, api.TextSign, "\x08")
	checkWhole(t, `(\101)`, api.TextSign, "A")
	checkWhole(t, `(\1012)`, api.TextSign, "A2")
	checkWhole(t, `(\0101)`, api.TextSign, "\x081")
	checkWhole(t, `(\000)`, api.TextSign, "\x00")
	checkWhole(t, `(\377)`, api.TextSign, "\xff")
	checkWhole(t, `(\400)`, api.TextSign, "\x00")
	checkWhole(t, `(\501)`, api.TextSign, "A")
	checkWhole(t, `(\777)`, api.TextSign, "\xff")
	checkWhole(t, `(\18)`, api.TextSign, "\x018")
	checkWhole(t, `(\128)`, api.TextSign, "\x0a8")
	checkWhole(t, `(\81)`, api.TextSign, "81")
	checkWhole(t, `(\1\2\3)`, api.TextSign, "\x01\x02\x03")
	checkWhole(t, "(\\1\n2)", api.TextSign, "\x01\n2")
	checkWhole(t, `(\1 2)`, api.TextSign, "\x01 2")
	checkWhole(t, `(\50\51)`, api.TextSign, "()")
	checkWhole(t, `(\134)`, api.TextSign, `\`)
	checkWhole(t, `(\15\12)`, api.TextSign, "\r\n")
	checkWhole(t, "(\\\n101)", api.TextSign, "101")
	for n := range 512 {
		octal := string([]byte{byte('0' + n/64), byte('0' + n/8%8), byte('0' + n%8)})
		checkWhole(t, `(a\`+octal+`b)`, api.TextSign, "a"+one(n%256)+"b")
		checkWhole(t, `(\`+octal+`7)`, api.TextSign, one(n%256)+"7")
		if short := strings.TrimLeft(octal, "0"); short != "" {
			checkWhole(t, `(\`+short+`)`, api.TextSign, one(n%256))
			checkWhole(t, `(\`+short+`8)`, api.TextSign, one(n%256)+"8")
		}
	}
}

func TestTextsWithoutAnEnd(t *testing.T) {
	for _, s := range []string{
		"(", "(a", "((", "(()", "((a)", `(\)`, `(\`, `(a\`, `(\\\)`, "(\n", "(\r", "(\r\n", "(\\\n", "(\\\r", "(\\\r\n", `(\1`, `(\12`, `(\123`, `(\n`, `(\0`,
		"(" + strings.Repeat("(", 1000) + strings.Repeat(")", 1000), "(a % )"[:5], "(" + strings.Repeat(`\)`, 1000),
	} {
		checkWrong(t, s, api.ErrShort)
	}
}

func TestLongTexts(t *testing.T) {
	full := strings.Repeat("a", mostText)
	checkWhole(t, "("+full+")", api.TextSign, full)
	checkTold(t, "("+full+")a", api.TextSign, 0, full, mostText+2)
	checkWrong(t, "("+full+"a)", api.ErrLong)
	checkWrong(t, "("+full+"a", api.ErrLong)
	checkWrong(t, "("+full, api.ErrShort)
	checkWrong(t, "("+full[1:], api.ErrShort)
	checkWhole(t, "("+full[1:]+")", api.TextSign, full[1:])
	// So many bytes are one each.
	for told, c := range map[string]string{`\n`: "\n", "\r\n": "\n", `\101`: "A", `\0`: "\x00", `\)`: ")", `\z`: "z", "\xff": "\xff", "\\\nb": "b", "b\\\r\n": "b"} {
		checkWhole(t, "("+strings.Repeat(told, mostText)+")", api.TextSign, strings.Repeat(c, mostText))
		checkWrong(t, "("+strings.Repeat(told, mostText)+"a)", api.ErrLong)
		checkWrong(t, "("+strings.Repeat(told, mostText+1)+")", api.ErrLong)
	}
	checkWhole(t, "("+strings.Repeat("()", mostText/2)+"a)", api.TextSign, strings.Repeat("()", mostText/2)+"a")
	checkWrong(t, "("+strings.Repeat("()", mostText/2)+"())", api.ErrLong)
	checkWrong(t, "("+strings.Repeat("(", mostText), api.ErrShort)
	checkWrong(t, "("+strings.Repeat("(", mostText+1), api.ErrLong)
	// What is nothing may stand there as often as it wants.
	nothing := strings.Repeat("\\\n\\\r\\\r\n", 1<<18)
	checkWhole(t, "("+nothing+full+nothing+")", api.TextSign, full)
	checkWrong(t, "("+nothing+full+nothing, api.ErrShort)
	checkWrong(t, "("+nothing+full+nothing+"a)", api.ErrLong)
}

func TestTextsTellWhatIsMetFirst(t *testing.T) {
	full := strings.Repeat("a", mostText)
	for behind, code := range map[string]api.Errno{
		"": api.ErrShort, `\`: api.ErrShort, "\\\n": api.ErrShort, "\\\r": api.ErrShort, "\\\r\n": api.ErrShort, "\\\n\\": api.ErrShort,
		"(": api.ErrLong, "()": api.ErrLong, "a": api.ErrLong, `\n`: api.ErrLong, `\1`: api.ErrLong, `\12`: api.ErrLong, `\123`: api.ErrLong, `\)`: api.ErrLong, `\(`: api.ErrLong, `\\`: api.ErrLong, `\z`: api.ErrLong,
		"\n": api.ErrLong, "\r": api.ErrLong, "\r\n": api.ErrLong, "\\\n\n": api.ErrLong, "\\\n\r": api.ErrLong, "\\\r\r": api.ErrLong, "\\\na": api.ErrLong,
	} {
		checkWrong(t, "("+full+behind, code)
		if code == api.ErrLong {
			checkWrong(t, "("+full+behind+")", code)
			checkWrong(t, "("+full+behind+")))", code)
		}
	}
	// A ) that closes another one within is one byte more.
	checkWrong(t, "(("+full[1:]+")", api.ErrLong)
	checkWrong(t, "(("+full[1:]+"))", api.ErrLong)
	checkWhole(t, "(("+full[2:]+"))", api.TextSign, "("+full[2:]+")")
	checkWrong(t, "(("+full[2:]+")", api.ErrShort)
}

func TestHexTexts(t *testing.T) {
	checkWhole(t, "<>", api.TextSign, "")
	checkWhole(t, "<4a>", api.TextSign, "J")
	checkWhole(t, "<4A>", api.TextSign, "J")
	checkWhole(t, "<4a4B>", api.TextSign, "JK")
	checkWhole(t, "<4>", api.TextSign, "@")
	checkWhole(t, "<4a4>", api.TextSign, "J@")
	checkWhole(t, "<0>", api.TextSign, "\x00")
	checkWhole(t, "<00>", api.TextSign, "\x00")
	checkWhole(t, "<000>", api.TextSign, "\x00\x00")
	checkWhole(t, "<f>", api.TextSign, "\xf0")
	checkWhole(t, "<"+whites+">", api.TextSign, "")
	checkWhole(t, "< 4 a >", api.TextSign, "J")
	checkWhole(t, "<4"+whites+"a4"+whites+"b"+whites+">", api.TextSign, "JK")
	checkWhole(t, "<4"+whites+">", api.TextSign, "@")
	checkWhole(t, "<0123456789abcdefABCDEF>", api.TextSign, "\x01\x23\x45\x67\x89\xab\xcd\xef\xab\xcd\xef")
	checkTold(t, "<4a>>", api.TextSign, 0, "J", 4)
	checkTold(t, "<4a>g", api.TextSign, 0, "J", 4)
	checkTold(t, "<4a><4b>", api.TextSign, 0, "J", 4)
	checkTold(t, "<>>", api.TextSign, 0, "", 2)
	checkTold(t, "<> <", api.TextSign, 0, "", 2)
}

func TestWrongHexTexts(t *testing.T) {
	for _, s := range []string{
		"<g>", "<4g>", "<4ag", "<4a<", "<4a<4b>>", "< <", "< <4a>>", "<(a)>", "<4a)>", "</4a>", "<4a%b\n>", "<%\n4a>", "<#41>", "<-1>", "<0x4a>", "<4a\\n>", "<4a]", "<4a{}>", "<\x0b>", "<4\xff>", "<\uff14>", "<\u00a0>",
		"<g", "<4g", "<4a g",
	} {
		checkWrong(t, s, api.ErrForm)
	}
	for _, s := range []string{"<", "<4", "<4a", "<4a ", "< ", "<\n", "<4a4", "<" + whites, "<" + strings.Repeat("4 ", 1000)} {
		checkWrong(t, s, api.ErrShort)
	}
}

func TestHexTextsOfEachTwoDigits(t *testing.T) {
	for high := range 256 {
		checkAgain(t, "<"+one(high)+">", 0)
		checkAgain(t, "<4a"+one(high), 0)
		for low := range 256 {
			checkAgain(t, "<"+one(high)+one(low)+">", 0)
		}
	}
}

func TestLongHexTexts(t *testing.T) {
	full := strings.Repeat("4a", mostText)
	told := strings.Repeat("J", mostText)
	checkWhole(t, "<"+full+">", api.TextSign, told)
	checkWhole(t, "<"+full+" \n>", api.TextSign, told)
	checkWhole(t, "<"+full[1:]+">", api.TextSign, strings.Repeat("\xa4", mostText-1)+"\xa0")
	checkWhole(t, "<"+full[2:]+">", api.TextSign, told[1:])
	checkTold(t, "<"+full+">4", api.TextSign, 0, told, 2*mostText+2)
	for behind, code := range map[string]api.Errno{
		"": api.ErrShort, " ": api.ErrShort, "4": api.ErrShort, "4 ": api.ErrShort,
		"g": api.ErrForm, " g": api.ErrForm, "4g": api.ErrForm, "4 g": api.ErrForm, "4<": api.ErrForm, "4%": api.ErrForm,
		// A digit that is left over counts at the end alone.
		"4>": api.ErrLong, "4 >": api.ErrLong, "4a": api.ErrLong, "4 a": api.ErrLong, "4a>": api.ErrLong, "4ag": api.ErrLong, "4a4": api.ErrLong,
	} {
		checkWrong(t, "<"+full+behind, code)
	}
	white := strings.Repeat(whites, 1<<17)
	checkWhole(t, "<"+white+full+white+">", api.TextSign, told)
	checkWrong(t, "<"+white+full+white+"4>", api.ErrLong)
	checkWrong(t, "<"+white+full+white, api.ErrShort)
	checkWrong(t, "<"+strings.Repeat("0", 1<<22), api.ErrLong)
	checkWrong(t, "<g"+full+"4a>", api.ErrForm)
}

func TestNumbers(t *testing.T) {
	for s, n := range map[string]int{
		"0": 0, "1": 1, "12": 12, "-12": -12, "+12": 12, "007": 7, "-007": -7, "+007": 7, "-0": 0, "+0": 0, "00": 0,
		"2147483647": 2147483647, "-2147483647": -2147483647, "+2147483647": 2147483647, "0002147483647": 2147483647,
		strings.Repeat("0", 127) + "7": 7, strings.Repeat("0", 1<<20): 0, "-" + strings.Repeat("0", 1<<20) + "12": -12,
	} {
		checkTold(t, s, api.Number, n, "", len(s))
		for i := range len(whites + delims) {
			checkTold(t, s+(whites + delims)[i:i+1]+"3", api.Number, n, "", len(s))
		}
	}
}

func TestNumbersOutOfRange(t *testing.T) {
	for _, s := range []string{
		"2147483648", "-2147483648", "+2147483648", "0002147483648", "4294967296", "4294967297", "9223372036854775807", "9223372036854775808", "-9223372036854775808", "18446744073709551616", "18446744073709551617",
		strings.Repeat("9", 128), "-" + strings.Repeat("9", 1<<20), strings.Repeat("0", 200) + "2147483648",
	} {
		checkWrong(t, s, api.ErrRange)
		checkWrong(t, s+" ", api.ErrRange)
		checkWrong(t, s+"/", api.ErrRange)
	}
}

func TestWords(t *testing.T) {
	for _, s := range []string{
		"R", "obj", "endobj", "true", "null", "a", "-", "+", "--1", "+-1", "1-", "1.0", ".5", "1e3", "0x1", "1_000", "12a", "#", "#41", "#4", "\\n", "'", "\"", "\x01", "\x0b", "\x7f", "\x80", "\xff", "\u0663", "\uff11", "a#b", "99999999999999999999x",
		strings.Repeat("1", 126) + "x", strings.Repeat("a", mostName), strings.Repeat("\xff", mostName),
	} {
		checkWhole(t, s, api.Word, s)
		for i := range len(whites + delims) {
			checkTold(t, s+(whites + delims)[i:i+1]+"b", api.Word, 0, s, len(s))
		}
	}
}

func TestLongWords(t *testing.T) {
	for length := 1; length < 140; length++ {
		s := strings.Repeat("a", length)
		for _, behind := range []string{"", " ", "/", "("} {
			if length > mostName {
				checkWrong(t, s+behind, api.ErrLong)
				continue
			}
			checkTold(t, s+behind, api.Word, 0, s, length)
		}
	}
	checkWrong(t, strings.Repeat("1", 127)+"x", api.ErrLong)
	checkWrong(t, strings.Repeat("-", 128), api.ErrLong)
	checkWrong(t, strings.Repeat("9", 1<<20)+"x", api.ErrLong)
	checkWrong(t, strings.Repeat("#41", 43), api.ErrLong)
}

func TestNextOfAllShortTexts(t *testing.T) {
	for _, letters := range []struct {
		of   string
		most int
	}{
		{"a1 %\n[]<>(){}/#\\-", 4},
		{"()\\\r\n1a", 6},
		{"<>4g \x00", 7},
		{"/#04a ", 7},
		{"+-019x ", 6},
		{"(\\0178)", 6},
	} {
		for _, s := range texts(letters.of, letters.most) {
			checkAgain(t, s, 0)
		}
	}
}

func TestNextAtEachPlaceOfShortTexts(t *testing.T) {
	for _, s := range texts("a1 %\n<>()/#", 4) {
		for at := -1; at <= len(s)+1; at++ {
			checkAgain(t, s, at)
		}
	}
}

func TestNextOutsideTheText(t *testing.T) {
	for _, s := range []string{"", "a", " a ", "(a)", "(", "}", "12%", "% a"} {
		for _, at := range farPlaces {
			checkAgain(t, s, at)
		}
		for at := -3; at <= len(s)+3; at++ {
			checkAgain(t, s, at)
		}
	}
	check(t, " (a) b", math.MinInt, api.Token{Kind: api.TextSign, S: "a", At: 1, End: 4}, api.OK)
	check(t, " (a) b", 2, api.Token{Kind: api.Word, S: "a", At: 2, End: 3}, api.OK)
	check(t, " (a) b", 3, api.Token{}, api.ErrForm)
	check(t, " (a) b", 4, api.Token{Kind: api.Word, S: "b", At: 5, End: 6}, api.OK)
	check(t, " (a) b", 7, api.Token{At: 6, End: 6}, api.OK)
}

func TestNextOfEachByteAtEachPlace(t *testing.T) {
	for _, s := range []string{
		"", "a", "/A#42b", "(x(y)\\(\\101\\n\r\n\\\r\nz)", "<4a 4B5>", "-012", "<<", ">>", "[", "% a\r\n/B", " endobj ",
	} {
		for place := range len(s) + 1 {
			for c := range 256 {
				checkAgain(t, s[:place]+one(c)+s[place:], 0)
				if place < len(s) {
					checkAgain(t, s[:place]+one(c)+s[place+1:], 0)
				}
			}
		}
	}
}

func TestNextOfAnyTexts(t *testing.T) {
	r := newRandom(1)
	letters := bytes()
	for range 30000 {
		s := some(r, letters, r.IntN(12))
		checkAgain(t, s, r.IntN(len(s)+3)-1)
		for _, begin := range []string{"(", "<", "/", "%", "(\\", "/#"} {
			checkAgain(t, begin+some(r, letters, r.IntN(8))+some(r, "()<>\\#017af \r\n", r.IntN(20)), 0)
			checkAgain(t, begin+some(r, "()\\\r\n0127nrtbfz", r.IntN(40))+")", 0)
			checkAgain(t, begin+some(r, "0123456789abcdefABCDEF \n", r.IntN(40))+">", 0)
		}
	}
}

// P15.3

func TestExample(t *testing.T) {
	want := []told{
		{api.Token{Kind: api.NameSign, S: "AB", At: 0, End: 5}, api.OK},
		{api.Token{Kind: api.TextSign, S: "x(y)", At: 6, End: 12}, api.OK},
		{api.Token{Kind: api.TextSign, S: "J", At: 13, End: 17}, api.OK},
		{api.Token{Kind: api.Number, N: 12, At: 18, End: 20}, api.OK},
		{api.Token{Kind: api.End, At: 20, End: 20}, api.OK},
	}
	if got := collect("/A#42 (x(y)) <4a> 12"); !slices.Equal(got, want) {
		t.Fatal(got)
	}
	if n, code := token.Many("/A#42 (x(y)) <4a> 12"); n != 4 || code != api.OK {
		t.Fatal(n, code)
	}
}

func TestMany(t *testing.T) {
	for _, one := range []struct {
		s    string
		many int
		code api.Errno
	}{
		{"", 0, api.OK},
		{" % a\n", 0, api.OK},
		{"a", 1, api.OK},
		{"a b c", 3, api.OK},
		{"a%b c", 1, api.OK},
		{"<</A[1 2 0 R]/B null>>", 11, api.OK},
		{"[[[]]]", 6, api.OK},
		{"a(b)c<4>d/e/f[g", 9, api.OK},
		{"<<<4>>>", 3, api.OK},
		{"<<<<>>>>", 4, api.OK},
		{"(", 0, api.ErrShort},
		{"a b (", 2, api.ErrShort},
		{"a } b", 1, api.ErrForm},
		{"a b 2147483648 c", 2, api.ErrRange},
		{"/a /b#", 1, api.ErrForm},
		{"a b c " + strings.Repeat("d", 128), 3, api.ErrLong},
		{"a b c ) (", 3, api.ErrForm},
		{">>>", 1, api.ErrForm},
		{strings.Repeat("[", 1<<20), 1 << 20, api.OK},
		{strings.Repeat("[", 1<<20) + "<", 1 << 20, api.ErrShort},
	} {
		if n, code := token.Many(one.s); n != one.many || code != one.code {
			t.Errorf("Many of %.60q: %d, %d; wanted %d, %d", one.s, n, code, one.many, one.code)
		}
	}
}

func TestAllOfErrors(t *testing.T) {
	for s, code := range map[string]api.Errno{"(": api.ErrShort, "}": api.ErrForm, "99999999999": api.ErrRange, strings.Repeat("a", 128): api.ErrLong} {
		want := []told{
			{api.Token{Kind: api.Word, S: "b", At: 0, End: 1}, api.OK},
			{api.Token{Kind: api.Open, At: 2, End: 3}, api.OK},
			{api.Token{}, code},
		}
		if got := collect("b [ " + s + " c d"); !slices.Equal(got, want) {
			t.Errorf("%.60q: %v", s, got)
		}
	}
}

func TestAllOfAllShortTexts(t *testing.T) {
	for _, s := range texts("a1 %\n<>()/#[]}", 4) {
		checkAll(t, s)
	}
	for _, s := range texts("<>4(\r \\", 6) {
		checkAll(t, s)
	}
}

func TestAllOfAnyTexts(t *testing.T) {
	r := newRandom(2)
	pieces := []string{"/A#42", "(x(y))", "<4a>", "12", "-7", "<<", ">>", "[", "]", "obj", "% note\n", "%\r\n", " ", "\x00", "(\\\r\n)", "<>", "/", "a", "()"}
	for range 20000 {
		var s strings.Builder
		for range r.IntN(12) {
			s.WriteString(pieces[r.IntN(len(pieces))])
		}
		checkAll(t, s.String())
		s.WriteString(some(r, delims, 1))
		s.WriteString(some(r, bytes(), r.IntN(5)))
		checkAll(t, s.String())
	}
}

func TestAllMayBeLeftAndBegunAgain(t *testing.T) {
	all := token.All("a [ (b) 1 /c } d")
	for leave := 1; leave <= 6; leave++ {
		var got []told
		for t, code := range all {
			if got = append(got, told{t, code}); len(got) == leave {
				break
			}
		}
		if want := collect("a [ (b) 1 /c } d")[:leave]; !slices.Equal(got, want) {
			t.Errorf("left behind %d: %v, wanted %v", leave, got, want)
		}
	}
	pairs := 0
	for range all {
		for range all {
			pairs++
		}
	}
	if pairs != 36 {
		t.Error("ranged over within itself:", pairs)
	}
}

func TestAllIsLeftAtTheEndAndAtAnError(t *testing.T) {
	for s, want := range map[string]int{"": 1, "a": 2, "}": 1, "a }": 2} {
		n := 0
		for range token.All(s) {
			if n++; n == want {
				break
			}
		}
		if n != want {
			t.Errorf("%q: %d", s, n)
		}
	}
}

func TestAllOfNothingIsAFunction(t *testing.T) {
	if token.All("") == nil {
		t.Fatal("nil")
	}
	if got := collect(""); !slices.Equal(got, []told{{}}) {
		t.Fatal(got)
	}
}

func TestAllOfLongTexts(t *testing.T) {
	const many = 1 << 16
	for _, s := range []string{
		strings.Repeat("a ", many), strings.Repeat("(\\\n)", many), strings.Repeat("<4>", many), strings.Repeat("/#41", 1) + strings.Repeat("/#42", many), strings.Repeat("12 % note\r\n", many),
		strings.Repeat("<<", many) + strings.Repeat(">>", many) + ">",
		strings.Repeat("a ", many) + strings.Repeat("(", many),
	} {
		n, code := 0, api.OK
		for at := 0; ; n++ {
			var one api.Token
			if one, code = token.Next(s, at); code != api.OK || one.Kind == api.End {
				break
			}
			at = one.End
		}
		if got, c := token.Many(s); got != n || c != code || n < many {
			t.Errorf("Many of %.30q: %d, %d; wanted %d, %d", s, got, c, n, code)
		}
	}
}

// P15.4

// ahead are texts that may stand ahead of a token; none of them is looked at.
var ahead = []string{"a", "(", "<", "((\\", "/A#", "}", "<<", "%", "% a\n", "\\", "\x00", "\r", "\xff(", "12", "<4", "/"}

func TestTokensDoNotHangOnWhatStandsAhead(t *testing.T) {
	r := newRandom(3)
	for range 20000 {
		s := some(r, "a1 %\r\n<>()/#[]}\\4\x00\xff", r.IntN(12))
		want, code := token.Next(s, 0)
		for _, before := range ahead {
			moved := want
			if code == api.OK {
				moved.At += len(before)
				moved.End += len(before)
			}
			check(t, before+s, len(before), moved, code)
		}
		for at := range len(s) + 1 {
			want, code := token.Next(s[at:], 0)
			if code == api.OK {
				want.At += at
				want.End += at
			}
			check(t, s, at, want, code)
		}
	}
}

func TestWhiteBytesAndNotesAheadTurnNothingButPlaces(t *testing.T) {
	r := newRandom(4)
	passed := []string{" ", "\x00", "\n", "\r\n", "%\n", "% (\r", "%a%<\r\n", whites, "\t% 12 \n \f"}
	for _, s := range append(texts("a1 %\n<>()/#", 4), "", "12", "/A#42", "(x(y))", "<4a>", "obj", "}", "(", "99999999999") {
		want, code := token.Next(s, 0)
		before := passed[r.IntN(len(passed))] + passed[r.IntN(len(passed))]
		moved := want
		if code == api.OK {
			moved.At += len(before)
			moved.End += len(before)
		}
		check(t, before+s, 0, moved, code)
		check(t, before+s, len(before), moved, code)
		checkSkip(t, before+s, 0, len(before)+token.Skip(s, 0))
	}
}

// What all calls hold

func TestAnswersShareNoMemory(t *testing.T) {
	for _, s := range []string{"someword", "/somename", "/some#6eame", "(some text)", "(a)", "(\\a)", "<4a4b4c>"} {
		handed := strings.Clone(s)
		got, code := token.Next(handed, 0)
		if code != api.OK || got.S == "" {
			t.Fatal(s, got, code)
		}
		if share(got.S, handed) {
			t.Errorf("%q: what is told stands in what was handed in", s)
		}
		for one := range token.All(handed) {
			if one.S != "" && share(one.S, handed) {
				t.Errorf("%q: what All tells stands in what was handed in", s)
			}
		}
	}
}

// share tells whether two texts stand in the same memory.
func share(a, b string) bool {
	beginA, beginB := uintptr(unsafe.Pointer(unsafe.StringData(a))), uintptr(unsafe.Pointer(unsafe.StringData(b)))
	return beginA < beginB+uintptr(len(b)) && beginB < beginA+uintptr(len(a))
}

func TestCallsKnowNothingOfOneAnother(t *testing.T) {
	for range 3 {
		checkWrong(t, "<4", api.ErrShort)
		checkWhole(t, "<1>", api.TextSign, "\x10")
		checkWrong(t, "((a)", api.ErrShort)
		checkWhole(t, "(a)", api.TextSign, "a")
		checkWrong(t, "/A#", api.ErrForm)
		checkWhole(t, "/A", api.NameSign, "A")
		if n, code := token.Many("a b ("); n != 2 || code != api.ErrShort {
			t.Fatal(n, code)
		}
		if n, code := token.Many("a"); n != 1 || code != api.OK {
			t.Fatal(n, code)
		}
	}
}

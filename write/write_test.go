package write_test

import (
	"encoding/hex"
	"fmt"
	"math"
	"math/rand/v2"
	"slices"
	"strconv"
	"strings"
	"testing"
	"unsafe"

	"bindery/api"
	"bindery/octet"
	"bindery/token"
	"bindery/value"
	"bindery/write"
)

const (
	// The limits, told again.
	maxDepth = 64
	maxNum   = 8388607
	maxGen   = 65535
	maxName  = 127
	maxText  = 65535
	maxInt   = 2147483647
	// mostNested is with how many parts within one another all is promised.
	mostNested = 1 << 16
	// bare are the bytes that stand in a name as they are.
	bare = "!\"$&'*+,-.0123456789:;=?@ABCDEFGHIJKLMNOPQRSTUVWXYZ\\^_`abcdefghijklmnopqrstuvwxyz|~"
	// shown are the bytes of which a line is.
	shown = " !\"#$%&'()*+,-./0123456789:;<=>?@ABCDEFGHIJKLMNOPQRSTUVWXYZ[\\]^_`abcdefghijklmnopqrstuvwxyz{|}~"
)

// Short ways to make values.

var null = api.Value{}

func number(n int) api.Value              { return api.Value{Kind: api.Int, N: n} }
func boolean(n int) api.Value             { return api.Value{Kind: api.Bool, N: n} }
func name(s string) api.Value             { return api.Value{Kind: api.Name, S: s} }
func text(s string) api.Value             { return api.Value{Kind: api.Text, S: s} }
func link(n, g int) api.Value             { return api.Value{Kind: api.Link, N: n, G: g} }
func list(l ...api.Value) api.Value       { return api.Value{Kind: api.List, L: l} }
func dict(d ...api.Pair) api.Value        { return api.Value{Kind: api.Dict, D: d} }
func odd(kind int) api.Value              { return api.Value{Kind: kind} }
func pair(k string, v api.Value) api.Pair { return api.Pair{Key: k, V: v} }

func stream(s string, d ...api.Pair) api.Value {
	return api.Value{Kind: api.Stream, S: s, D: d}
}

// nested is a value within so many lists.
func nested(v api.Value, lists int) api.Value {
	for range lists {
		v = list(v)
	}
	return v
}

// keyed is a value within so many dictionaries.
func keyed(v api.Value, dicts int) api.Value {
	for range dicts {
		v = dict(pair("K", v))
	}
	return v
}

// exact tells whether two values have just the same fields; nil and empty lists are the same.
func exact(a, b api.Value) bool {
	return a.Kind == b.Kind && a.N == b.N && a.G == b.G && a.S == b.S &&
		slices.EqualFunc(a.L, b.L, exact) &&
		slices.EqualFunc(a.D, b.D, func(x, y api.Pair) bool { return x.Key == y.Key && exact(x.V, y.V) })
}

// copied is a value in memory of its own.
func copied(v api.Value) api.Value {
	c := v
	c.S = strings.Clone(v.S)
	c.L, c.D = nil, nil
	for _, e := range v.L {
		c.L = append(c.L, copied(e))
	}
	for _, p := range v.D {
		c.D = append(c.D, api.Pair{Key: strings.Clone(p.Key), V: copied(p.V)})
	}
	return c
}

// short tells a value for a message.
func short(v api.Value) string { return fmt.Sprintf("%.300s", fmt.Sprintf("%.40q", fmt.Sprint(v))) }

// one is the text of one byte.
func one(c int) string { return string([]byte{byte(c)}) }

// some tells a text of any of the letters.
func some(r *rand.Rand, letters string, length int) string {
	s := make([]byte, length)
	for i := range s {
		s[i] = letters[r.IntN(len(letters))]
	}
	return string(s)
}

// bytes are all bytes, rising.
func bytes() string {
	s := make([]byte, 256)
	for i := range s {
		s[i] = byte(i)
	}
	return string(s)
}

// texts are all texts of at most so many bytes, each one of the letters.
func texts(letters string, most int) []string {
	all := []string{""}
	longest := all
	for range most {
		var longer []string
		for _, s := range longest {
			for i := range len(letters) {
				longer = append(longer, s+letters[i:i+1])
			}
		}
		all = append(all, longer...)
		longest = longer
	}
	return all
}

// Second tellings of the words.

// nameAgain is a second telling of Name.
func nameAgain(s string) string {
	var b strings.Builder
	b.WriteByte('/')
	for _, c := range []byte(s) {
		if strings.IndexByte(bare, c) >= 0 {
			b.WriteByte(c)
		} else {
			fmt.Fprintf(&b, "#%02X", c)
		}
	}
	return b.String()
}

var escapes = strings.NewReplacer("(", `\(`, ")", `\)`, `\`, `\\`)

// bytesAgain is a second telling of Bytes.
func bytesAgain(s string) string {
	if !slices.ContainsFunc([]byte(s), func(c byte) bool { return strings.IndexByte(shown, c) < 0 }) {
		return "(" + escapes.Replace(s) + ")"
	}
	return "<" + strings.ToUpper(hex.EncodeToString([]byte(s))) + ">"
}

// textAgain is a second telling of Text, of values that may be: what a value holds is written apart, and joined.
func textAgain(v api.Value) string {
	switch v.Kind {
	case 1:
		return strconv.FormatBool(v.N == 1)
	case 2:
		return fmt.Sprint(v.N)
	case 3:
		return nameAgain(v.S)
	case 4:
		return bytesAgain(v.S)
	case 5:
		var held []string
		for _, e := range v.L {
			held = append(held, textAgain(e))
		}
		return "[" + strings.Join(held, " ") + "]"
	case 6:
		sorted := slices.Clone(v.D)
		slices.SortFunc(sorted, func(a, b api.Pair) int { return strings.Compare(a.Key, b.Key) })
		var held []string
		for _, p := range sorted {
			if p.V.Kind != 0 {
				held = append(held, nameAgain(p.Key)+" "+textAgain(p.V))
			}
		}
		return "<<" + strings.Join(held, " ") + ">>"
	case 7:
		return fmt.Sprintf("%d %d R", v.N, v.G)
	}
	return "null"
}

// reader reads a text token by token, and takes for granted that it was written as it should be.
type reader struct {
	s  string
	at int
}

func (r *reader) next() api.Token {
	t, code := token.Next(r.s, r.at)
	if code != api.OK {
		panic(fmt.Sprintf("%.60q at %d: %d", r.s, r.at, code))
	}
	r.at = t.End
	return t
}

// value reads a value, and whether one was there.
func (r *reader) value() (api.Value, bool) {
	switch t := r.next(); t.Kind {
	case api.Number:
		ahead := *r
		if g := ahead.next(); g.Kind == api.Number {
			if word := ahead.next(); word.Kind == api.Word && word.S == "R" {
				*r = ahead
				return link(t.N, g.N), true
			}
		}
		return number(t.N), true
	case api.NameSign:
		return name(t.S), true
	case api.TextSign:
		return text(t.S), true
	case api.Open:
		v := list()
		for {
			e, there := r.value()
			if !there {
				return v, true
			}
			v.L = append(v.L, e)
		}
	case api.OpenDict:
		v := dict()
		for {
			key, there := r.value()
			if !there {
				return v, true
			}
			e, _ := r.value()
			v.D = append(v.D, pair(key.S, e))
		}
	case api.Word:
		return map[string]api.Value{"true": boolean(1), "false": boolean(0)}[t.S], true
	}
	return null, false
}

// read is the value of a text.
func read(s string) api.Value {
	r := reader{s: s}
	v, _ := r.value()
	if rest := r.next(); rest.Kind != api.End {
		panic(fmt.Sprintf("%.60q: there is more at %d", s, rest.At))
	}
	return v
}

func checkName(t *testing.T, s, want string) {
	t.Helper()
	if got := write.Name(s); got != want {
		t.Errorf("Name of %.60q (%d bytes): %.60q, wanted %.60q", s, len(s), got, want)
	}
}

func checkBytes(t *testing.T, s, want string) {
	t.Helper()
	if got := write.Bytes(s); got != want {
		t.Errorf("Bytes of %.60q (%d bytes): %.60q, wanted %.60q", s, len(s), got, want)
	}
}

// checkText holds Text against a text, and what is written against the value, read again.
func checkText(t *testing.T, v api.Value, want string) {
	t.Helper()
	was := copied(v)
	got, code := write.Text(v)
	if got != want || code != api.OK {
		t.Errorf("Text of %s: %.300q, %d; wanted %.300q", short(v), got, code, want)
		return
	}
	if again := read(got); !exact(again, value.Plain(v)) {
		t.Errorf("Text of %s: %.300q is read as %s", short(v), got, short(again))
	}
	checkShown(t, got)
	if !exact(v, was) {
		t.Errorf("%s was changed: %s", short(was), short(v))
	}
}

// checkWrong holds Text against an error.
func checkWrong(t *testing.T, v api.Value, want api.Errno) {
	t.Helper()
	if got, code := write.Text(v); got != "" || code != want {
		t.Errorf("Text of %s: %.60q, %d; wanted the error %d", short(v), got, code, want)
	}
}

// checkShown tells of bytes that are not from 32 to 126.
func checkShown(t *testing.T, s string) {
	t.Helper()
	for i := range len(s) {
		if s[i] < 32 || s[i] > 126 {
			t.Errorf("%.60q: the byte %d at %d", s, s[i], i)
			return
		}
	}
}

// P17.1, Name

func TestNameOfEachByte(t *testing.T) {
	if len(bare) != 126-33+1-10-1 {
		t.Fatal(len(bare))
	}
	for c := range 256 {
		want := fmt.Sprintf("#%02X", c)
		if 33 <= c && c <= 126 && octet.Kind(byte(c)) == octet.Regular && c != '#' {
			want = one(c)
		}
		checkName(t, one(c), "/"+want)
		checkName(t, "a"+one(c)+"b", "/a"+want+"b")
		checkName(t, one(c)+one(c), "/"+want+want)
		checkName(t, "#"+one(c)+" ", "/#23"+want+"#20")
	}
	checkName(t, bare, "/"+bare)
	checkName(t, bytes(), nameAgain(bytes()))
}

func TestNames(t *testing.T) {
	for s, want := range map[string]string{
		"": "/", "A": "/A", "AB": "/AB", "/": "/#2F", "//": "/#2F#2F", "#": "/#23", "##": "/#23#23", "#41": "/#2341", "A#": "/A#23", "A#42": "/A#2342",
		" ": "/#20", "a b": "/a#20b", "\n": "/#0A", "\r\n": "/#0D#0A", "\t": "/#09", "\x00": "/#00", "\x01": "/#01", "\x0b": "/#0B", "\x0c": "/#0C", "\x1f": "/#1F", "!": "/!", "~": "/~", "\x7f": "/#7F", "\x80": "/#80", "\xab": "/#AB", "\xff": "/#FF",
		"(x)": "/#28x#29", "<<>>": "/#3C#3C#3E#3E", "[1]": "/#5B1#5D", "{}": "/#7B#7D", "%": "/#25", "\\": "/\\", "\\n": "/\\n", "12": "/12", "-7": "/-7", "R": "/R", "null": "/null", "1 0 R": "/1#200#20R",
		"\u00e9": "/#C3#A9", "\u0663": "/#D9#A3", "\xe9\xff": "/#E9#FF", "\"'`^_|~": "/\"'`^_|~",
	} {
		checkName(t, s, want)
	}
}

func TestNamesOfAllShortTexts(t *testing.T) {
	for _, s := range texts("a#/ 2\x00\xff(~", 5) {
		checkName(t, s, nameAgain(s))
	}
}

func TestLongNames(t *testing.T) {
	// How long a name is, and what is in it, counts for nothing here.
	for _, length := range []int{maxName - 1, maxName, maxName + 1, maxText, 1 << 20} {
		checkName(t, strings.Repeat("n", length), "/"+strings.Repeat("n", length))
		checkName(t, strings.Repeat("\xff", length), "/"+strings.Repeat("#FF", length))
		checkName(t, strings.Repeat("\x00", length), "/"+strings.Repeat("#00", length))
		checkName(t, strings.Repeat("a#", length), "/"+strings.Repeat("a#23", length))
	}
}

func TestNamesAreReadAgain(t *testing.T) {
	r := newRandom(1)
	for range 20000 {
		s := strings.ReplaceAll(some(r, bytes(), r.IntN(maxName+1)), "\x00", "n")
		written := write.Name(s)
		if written != nameAgain(s) {
			t.Errorf("Name of %q: %q", s, written)
		}
		for _, behind := range []string{"", " ", " 1 0 R", "/", ">>"} {
			got, code := token.Next(written+behind, 0)
			if code != api.OK || got.Kind != api.NameSign || got.S != s || got.End != len(written) {
				t.Errorf("%q, of %q, is read as %v, %d", written+behind, s, got, code)
			}
		}
		checkShown(t, written)
	}
}

// P17.1, Bytes

func TestBytesOfEachByte(t *testing.T) {
	for c := range 256 {
		want := "(" + one(c) + ")"
		inner := "(a" + one(c) + "b)"
		switch {
		case c == '(' || c == ')' || c == '\\':
			want, inner = `(\`+one(c)+")", `(a\`+one(c)+"b)"
		case c < 32 || c > 126:
			want, inner = fmt.Sprintf("<%02X>", c), fmt.Sprintf("<61%02X62>", c)
		}
		checkBytes(t, one(c), want)
		checkBytes(t, "a"+one(c)+"b", inner)
	}
	checkBytes(t, shown, "("+escapes.Replace(shown)+")")
	checkBytes(t, bytes(), "<"+strings.ToUpper(hex.EncodeToString([]byte(bytes())))+">")
}

func TestBytes(t *testing.T) {
	for s, want := range map[string]string{
		"": "()", " ": "( )", "a": "(a)", "text": "(text)", "a(b": `(a\(b)`, "x(y)": `(x\(y\))`, "(": `(\()`, ")": `(\))`, `\`: `(\\)`, `\\`: `(\\\\)`, `\n`: `(\\n)`, `\(`: `(\\\()`, "()": `(\(\))`, ")(": `(\)\()`, "(())": `(\(\(\)\))`,
		"<4a>": "(<4a>)", ">": "(>)", "/A#42": "(/A#42)", "% note": "(% note)", "[{}]": "([{}])", "1 0 R": "(1 0 R)", "~": "(~)", "\"'": "(\"')",
		"\n": "<0A>", "a\n": "<610A>", "\ra": "<0D61>", "\r\n": "<0D0A>", "\t": "<09>", "\x00": "<00>", "\x1f": "<1F>", "\x7f": "<7F>", "\x80": "<80>", "\xff": "<FF>", "(\n": "<280A>", "\\\x7f)": "<5C7F29>", "\xab\xcd": "<ABCD>",
		"\u00e9": "<C3A9>", "a\u0663": "<61D9A3>", "\x00\x00": "<0000>",
	} {
		checkBytes(t, s, want)
	}
}

func TestBytesOfAllShortTexts(t *testing.T) {
	for _, s := range texts("a()\\ \n\xff>", 5) {
		checkBytes(t, s, bytesAgain(s))
	}
}

func TestLongBytes(t *testing.T) {
	for _, length := range []int{maxText - 1, maxText, maxText + 1, 1 << 20} {
		full := strings.Repeat("t", length)
		checkBytes(t, full, "("+full+")")
		checkBytes(t, strings.Repeat("(", length), "("+strings.Repeat(`\(`, length)+")")
		checkBytes(t, strings.Repeat(`\`, length), "("+strings.Repeat(`\\`, length)+")")
		// One byte that may not be shown, at either end, and all are digits.
		checkBytes(t, full+"\n", "<"+strings.Repeat("74", length)+"0A>")
		checkBytes(t, "\x7f"+full, "<7F"+strings.Repeat("74", length)+">")
		checkBytes(t, strings.Repeat("\xff", length), "<"+strings.Repeat("FF", length)+">")
	}
}

func TestBytesAreReadAgain(t *testing.T) {
	r := newRandom(2)
	for range 20000 {
		for _, s := range []string{
			some(r, bytes(), r.IntN(40)), some(r, shown, r.IntN(200)), some(r, "()\\", r.IntN(40)), some(r, "()\\nrtbf017\n\r", r.IntN(20)),
		} {
			written := write.Bytes(s)
			if written != bytesAgain(s) {
				t.Errorf("Bytes of %q: %q", s, written)
			}
			for _, behind := range []string{"", " ", ")", ">", "("} {
				got, code := token.Next(written+behind, 0)
				if code != api.OK || got.Kind != api.TextSign || got.S != s || got.End != len(written) {
					t.Errorf("%q, of %q, is read as %v, %d", written+behind, s, got, code)
				}
			}
			checkShown(t, written)
		}
	}
}

// P17.2

func TestExample(t *testing.T) {
	v := dict(pair("B", list(number(1), link(2, 0))), pair("A#", text("a(b")))
	checkText(t, v, `<</A#23 (a\(b) /B [1 2 0 R]>>`)
}

func TestTextOfEachKind(t *testing.T) {
	for i, c := range []struct {
		v    api.Value
		want string
	}{
		{null, "null"}, {boolean(0), "false"}, {boolean(1), "true"},
		{number(0), "0"}, {number(7), "7"}, {number(-7), "-7"}, {number(10), "10"}, {number(maxInt), "2147483647"}, {number(-maxInt), "-2147483647"},
		{name(""), "/"}, {name("A"), "/A"}, {name("a b"), "/a#20b"}, {name("\xff"), "/#FF"}, {name("true"), "/true"},
		{text(""), "()"}, {text("a"), "(a)"}, {text("\x00"), "<00>"}, {text("a(b"), `(a\(b)`}, {text("null"), "(null)"}, {text("1 0 R"), "(1 0 R)"},
		{list(), "[]"}, {list(null), "[null]"}, {list(number(1)), "[1]"}, {list(number(1), number(2), number(3)), "[1 2 3]"}, {list(null, null), "[null null]"},
		{list(list()), "[[]]"}, {list(list(), list()), "[[] []]"}, {list(name(""), name("")), "[/ /]"}, {list(text(""), text("")), "[() ()]"}, {list(text("\n"), text("\n")), "[<0A> <0A>]"},
		{list(boolean(1), boolean(0), null, name("n"), text("t"), link(1, 1), dict(), number(-1)), "[true false null /n (t) 1 1 R <<>> -1]"},
		{dict(), "<<>>"}, {dict(pair("A", number(1))), "<</A 1>>"}, {dict(pair("", number(1))), "<</ 1>>"}, {dict(pair("A", name("B"))), "<</A /B>>"}, {dict(pair("A", dict())), "<</A <<>>>>"},
		{dict(pair("A", list())), "<</A []>>"}, {dict(pair("A", boolean(1)), pair("B", text("\xff"))), "<</A true /B <FF>>>"}, {dict(pair("A", link(1, 0)), pair("B", number(0))), "<</A 1 0 R /B 0>>"},
		{dict(pair("a b", dict(pair("#", list(dict()))))), "<</a#20b <</#23 [<<>>]>>>>"},
		{link(1, 0), "1 0 R"}, {link(12, 34), "12 34 R"}, {link(maxNum, maxGen), "8388607 65535 R"},
		{list(number(1), number(0), link(1, 0), number(2)), "[1 0 1 0 R 2]"},
	} {
		checkText(t, c.v, c.want)
		checkText(t, list(number(4), c.v, number(5)), "[4 "+c.want+" 5]")
		if c.v.Kind != api.Null {
			checkText(t, dict(pair("Z", c.v), pair("Y", c.v)), "<</Y "+c.want+" /Z "+c.want+">>")
		}
		if again := textAgain(c.v); again != c.want {
			t.Errorf("%d: the second telling tells %q", i, again)
		}
	}
}

func TestPairsAreWrittenPlain(t *testing.T) {
	for _, c := range []struct {
		d    []api.Pair
		want string
	}{
		{[]api.Pair{pair("A", null)}, "<<>>"},
		{[]api.Pair{pair("A", null), pair("B", number(1)), pair("C", null)}, "<</B 1>>"},
		{[]api.Pair{pair("C", null), pair("B", number(1)), pair("A", number(2))}, "<</A 2 /B 1>>"},
		{[]api.Pair{pair("A", list(null)), pair("B", dict(pair("C", null)))}, "<</A [null] /B <<>>>>"},
		{[]api.Pair{pair("A", dict(pair("Y", null), pair("X", dict(pair("b", number(1)), pair("a", null)))))}, "<</A <</X <</b 1>>>>>>"},
		{[]api.Pair{pair("b", number(1)), pair("a", number(2)), pair("B", number(3)), pair("A", number(4)), pair("AA", number(5)), pair("", number(6))}, "<</ 6 /A 4 /AA 5 /B 3 /a 2 /b 1>>"},
		// Keys rise as they are, not as they are written.
		{[]api.Pair{pair("#", number(1)), pair("!", number(2)), pair("\xff", number(3)), pair("a", number(4)), pair("$", number(5)), pair("\x01", number(6)), pair("~", number(7)), pair("/", number(8)), pair("1", number(9))}, "<</#01 6 /! 2 /#23 1 /$ 5 /#2F 8 /1 9 /a 4 /~ 7 /#FF 3>>"},
	} {
		checkText(t, dict(c.d...), c.want)
		checkText(t, list(dict(c.d...)), "["+c.want+"]")
	}
}

func TestTextsAtTheLimits(t *testing.T) {
	longName, longText := strings.Repeat("n", maxName), strings.Repeat("t", maxText)
	checkText(t, name(longName), "/"+longName)
	checkWrong(t, name(longName+"n"), api.ErrLong)
	checkText(t, name(strings.Repeat("\xff", maxName)), "/"+strings.Repeat("#FF", maxName))
	checkText(t, text(longText), "("+longText+")")
	checkText(t, text(strings.Repeat("(", maxText)), "("+strings.Repeat(`\(`, maxText)+")")
	checkText(t, text(strings.Repeat("\xff", maxText)), "<"+strings.Repeat("FF", maxText)+">")
	checkWrong(t, text(longText+"t"), api.ErrLong)
	checkText(t, dict(pair(longName, number(1))), "<</"+longName+" 1>>")
	checkWrong(t, dict(pair(longName+"n", number(1))), api.ErrKey)
	for _, n := range []int{maxInt + 1, -maxInt - 1, math.MaxInt, math.MinInt, 1 << 32} {
		checkWrong(t, number(n), api.ErrRange)
	}
	for _, v := range []api.Value{boolean(2), boolean(-1), link(0, 0), link(maxNum+1, 0), link(1, -1), link(1, maxGen+1), link(-1, 0)} {
		checkWrong(t, v, api.ErrRange)
	}
	for _, v := range []api.Value{name("\x00"), name("a\x00b"), {N: 1}, {Kind: api.Int, N: 1, S: "s"}, {Kind: api.List, D: []api.Pair{pair("A", null)}}, {Kind: api.Dict, L: []api.Value{null}}, {Kind: api.Text, G: 1}} {
		checkWrong(t, v, api.ErrForm)
	}
	for _, v := range []api.Value{odd(9), odd(-1), odd(math.MinInt), odd(math.MaxInt), {Kind: 9, N: 1, L: []api.Value{null}}} {
		checkWrong(t, v, api.ErrKind)
		checkWrong(t, list(number(1), v), api.ErrKind)
		checkWrong(t, dict(pair("A", v)), api.ErrKind)
	}
	for _, d := range [][]api.Pair{{pair("\x00", null)}, {pair("a\x00", number(1))}, {pair("A", null), pair("A", number(1))}, {pair("A", number(1)), pair("A", number(1))}, {pair("", null), pair("B", null), pair("", null)}} {
		checkWrong(t, dict(d...), api.ErrKey)
		checkWrong(t, list(dict(d...)), api.ErrKey)
	}
}

func TestStreamsAreNotWritten(t *testing.T) {
	for _, s := range []api.Value{stream(""), stream("data"), stream("data", pair("A", number(1)))} {
		checkWrong(t, s, api.ErrKind)
		checkWrong(t, list(s), api.ErrKind)
		checkWrong(t, dict(pair("A", s)), api.ErrKind)
		checkWrong(t, list(number(1), dict(pair("A", list(s)))), api.ErrKind)
	}
	// A stream that is wrong beside that is refused as one that stands alone may not be.
	checkWrong(t, stream("", pair("\x00", odd(9))), api.ErrKind)
	checkWrong(t, api.Value{Kind: api.Stream, N: 1}, api.ErrKind)
	checkWrong(t, stream(strings.Repeat("d", api.MaxData+1)), api.ErrKind)
}

func TestWhichErrorIsFirst(t *testing.T) {
	for i, c := range []struct {
		v    api.Value
		want api.Errno
	}{
		{list(number(maxInt+1), odd(9)), api.ErrRange},
		{list(odd(9), number(maxInt+1)), api.ErrKind},
		{list(list(list(name(strings.Repeat("n", 128)))), odd(9)), api.ErrLong},
		{dict(pair("\x00", odd(9))), api.ErrKey},
		{dict(pair("A", odd(9)), pair("A", null)), api.ErrKind},
		{dict(pair("A", null), pair("A", odd(9))), api.ErrKey},
		{dict(pair("B", odd(9)), pair("A", boolean(2))), api.ErrKind},
		{api.Value{Kind: api.List, N: 1, L: []api.Value{odd(9)}}, api.ErrForm},
		{nested(boolean(2), maxDepth), api.ErrRange},
		{nested(boolean(2), maxDepth+1), api.ErrDeep},
		{nested(stream(""), maxDepth), api.ErrKind},
		{list(number(1), stream(""), number(maxInt+1)), api.ErrKind},
		// What is left out, Plain, is checked, too.
		{dict(pair("A", api.Value{N: 1})), api.ErrForm},
		{dict(pair("A", number(1)), pair("A", stream(""))), api.ErrKey},
	} {
		if got, code := write.Text(c.v); got != "" || code != c.want {
			t.Errorf("%d: %.60q, %d; wanted the error %d", i, got, code, c.want)
		}
	}
}

func TestHowDeepTextsGo(t *testing.T) {
	for _, c := range []struct {
		v    api.Value
		want string
	}{{null, "null"}, {number(-4), "-4"}, {link(4, 4), "4 4 R"}, {name("n"), "/n"}, {text("\n"), "<0A>"}} {
		checkText(t, nested(c.v, maxDepth), strings.Repeat("[", maxDepth)+c.want+strings.Repeat("]", maxDepth))
		checkWrong(t, nested(c.v, maxDepth+1), api.ErrDeep)
		checkWrong(t, keyed(c.v, maxDepth+1), api.ErrDeep)
	}
	checkText(t, keyed(number(1), maxDepth), strings.Repeat("<</K ", maxDepth)+"1"+strings.Repeat(">>", maxDepth))
	checkText(t, keyed(null, maxDepth), strings.Repeat("<</K ", maxDepth-1)+"<<>>"+strings.Repeat(">>", maxDepth-1))
	checkText(t, keyed(nested(list(), 31), 32), strings.Repeat("<</K ", 32)+strings.Repeat("[", 32)+strings.Repeat("]", 32)+strings.Repeat(">>", 32))
	checkWrong(t, keyed(nested(list(), 32), 32), api.ErrDeep)
	checkWrong(t, nested(null, mostNested-1), api.ErrDeep)
	checkWrong(t, keyed(null, mostNested-1), api.ErrDeep)
}

// P17.3, and all of them, of values of any form

func newRandom(seed uint64) *rand.Rand { return rand.New(rand.NewPCG(seed, 17)) }

// oneOf tells any of some.
func oneOf[T any](r *rand.Rand, some ...T) T { return some[r.IntN(len(some))] }

// goodValue is a value that may be, of any order, and is no stream.
func goodValue(r *rand.Rand, deep int) api.Value {
	v := api.Value{Kind: r.IntN(8)}
	switch v.Kind {
	case api.Bool:
		v.N = r.IntN(2)
	case api.Int:
		v.N = oneOf(r, 0, 1, -1, maxInt, -maxInt, r.IntN(maxInt))
	case api.Name:
		v.S = strings.ReplaceAll(oneOf(r, "", "a", "/", "R", "null", some(r, bytes(), r.IntN(10))), "\x00", "")
	case api.Text:
		v.S = oneOf(r, "", "a", "(", "1 0 R", some(r, bytes(), r.IntN(10)), some(r, shown, r.IntN(20)), some(r, "()\\ab", r.IntN(10)))
	case api.Link:
		v.N, v.G = oneOf(r, 1, 2, 1+r.IntN(maxNum)), oneOf(r, 0, 1, r.IntN(maxGen+1))
	case api.List:
		for range r.IntN(5) * min(deep, 1) {
			v.L = append(v.L, goodValue(r, deep-1))
		}
	case api.Dict:
		keys := []string{"", "A", "AA", "B", "a", "\xff", "\x01", "Z", "#", "a b", "~", "("}
		for _, i := range r.Perm(len(keys))[:r.IntN(6)*min(deep, 1)] {
			v.D = append(v.D, pair(keys[i], goodValue(r, deep-1)))
		}
	}
	return v
}

// spoilt is a value in which any one part is such as may not be.
func spoilt(r *rand.Rand, v api.Value) api.Value {
	if len(v.L) > 0 && r.IntN(3) > 0 {
		i := r.IntN(len(v.L))
		v.L = slices.Clone(v.L)
		v.L[i] = spoilt(r, v.L[i])
		return v
	}
	if len(v.D) > 0 && r.IntN(3) > 0 {
		i := r.IntN(len(v.D))
		v.D = slices.Clone(v.D)
		if r.IntN(3) == 0 {
			v.D[i].Key = oneOf(r, "\x00", strings.Repeat("k", maxName+1), v.D[(i+1)%len(v.D)].Key)
		} else {
			v.D[i].V = spoilt(r, v.D[i].V)
		}
		return v
	}
	return oneOf(r, odd(9), odd(-1), stream("s"), boolean(2), number(maxInt+1), link(0, 0), name("\x00"), name(strings.Repeat("n", maxName+1)), text(strings.Repeat("t", maxText+1)), api.Value{S: "s"}, nested(list(), maxDepth))
}

func TestAnyValues(t *testing.T) {
	r := newRandom(3)
	for range 30000 {
		v := goodValue(r, r.IntN(6))
		checkText(t, v, textAgain(v))
		checkText(t, value.Plain(v), textAgain(v))
	}
}

func TestAnyValuesThatMayNotBe(t *testing.T) {
	r := newRandom(4)
	codes := map[api.Errno]int{}
	for range 30000 {
		v := spoilt(r, goodValue(r, r.IntN(6)))
		code := value.Check(v, false)
		codes[code]++
		if code == api.OK {
			checkText(t, v, textAgain(v))
			continue
		}
		checkWrong(t, v, code)
	}
	for _, code := range []api.Errno{api.ErrRange, api.ErrForm, api.ErrLong, api.ErrDeep, api.ErrKind, api.ErrKey} {
		if codes[code] < 50 {
			t.Errorf("the code %d was told %d times alone", code, codes[code])
		}
	}
}

// alikes are values of which many could be taken for one another, were they written another way.
func alikes() []api.Value {
	values := []api.Value{null, boolean(0), boolean(1), link(1, 0), link(1, 1), link(2, 0), link(11, 0), link(1, 10)}
	for n := range 12 {
		values = append(values, number(n), number(-n))
	}
	for _, s := range []string{"", "a", "b", "A", "/", "/a", "a/", "#", "#20", " ", "20", "null", "true", "false", "R", "1", "-1", "1 0 R", "[]", "<<>>", "()", "(", ")", "\\", "\\\\", "\\(", "<>", "<0A>", "0A", "\n", "\r", "\r\n", "\x7f", "~", "\xff", "FF", "#FF", "a b", "/a b"} {
		values = append(values, name(s), text(s))
	}
	for _, inner := range slices.Clone(values) {
		values = append(values, list(inner), dict(pair("A", inner)), dict(pair("", inner)), dict(pair("A", null), pair("B", inner)))
		if inner.Kind == api.Name {
			values = append(values, dict(pair(inner.S, name("A"))), dict(pair(inner.S, null)))
		}
	}
	for _, a := range []api.Value{number(1), number(0), link(1, 0), name("R"), name(""), text(""), null, list(), list(null), dict()} {
		for _, b := range []api.Value{number(0), number(1), link(1, 0), name("R"), name(""), text(""), null, list(), dict()} {
			values = append(values, list(a, b), list(list(a), b), list(list(a, b)), list(a, list(b)), list(a, b, null), list(a, b, link(1, 0)))
			values = append(values, dict(pair("A", a), pair("B", b)), dict(pair("B", b), pair("A", a)), dict(pair("A", list(a, b))), dict(pair("A", dict(pair("B", b)))))
		}
	}
	return values
}

func TestOneTextJustIfTheSame(t *testing.T) {
	values := alikes()
	var written []string
	for _, v := range values {
		s, code := write.Text(v)
		if code != api.OK {
			t.Fatalf("%s: %d", short(v), code)
		}
		checkText(t, v, textAgain(v))
		written = append(written, s)
	}
	for i, a := range values {
		for j, b := range values {
			if i < j && (written[i] == written[j]) != value.Same(a, b) {
				t.Errorf("%s and %s: %q and %q", short(a), short(b), written[i], written[j])
			}
		}
	}
}

func TestAllIsOneLine(t *testing.T) {
	r := newRandom(5)
	for range 3000 {
		s := some(r, bytes(), 1+r.IntN(100))
		key := strings.ReplaceAll(s, "\x00", "\n")
		for _, v := range []api.Value{text(s), name(key), list(text(s), name(key), text(s)), dict(pair(key, text(s)), pair(key+"\r\n", name(key)))} {
			written, code := write.Text(v)
			if code != api.OK {
				t.Errorf("%s: %d", short(v), code)
			}
			checkShown(t, written)
		}
		checkShown(t, write.Name(s))
		checkShown(t, write.Bytes(s))
	}
}

func TestListsCountByTheirLengths(t *testing.T) {
	// What room a list has behind its end, and whether it is nil, counts for nothing.
	l := []api.Value{number(1), number(2), number(3)}
	d := []api.Pair{pair("A", number(1)), pair("A", number(2)), pair("B", odd(9))}
	checkText(t, list(l[:2]...), "[1 2]")
	checkText(t, list(l[:0]...), "[]")
	checkText(t, dict(d[:1]...), "<</A 1>>")
	checkText(t, dict(d[:0]...), "<<>>")
	checkText(t, api.Value{Kind: api.Dict, L: []api.Value{}, D: []api.Pair{}}, "<<>>")
	checkText(t, api.Value{Kind: api.List, L: []api.Value{}, D: []api.Pair{}}, "[]")
	checkText(t, api.Value{Kind: api.Int, L: l[:0], D: d[:0]}, "0")
}

// What all calls hold

func TestAnswersShareNoMemory(t *testing.T) {
	for _, s := range []string{"name", "some#6eame", "a b", "(some text)", "a\n", "123"} {
		handed := strings.Clone(s)
		if share(write.Name(handed), handed) || share(write.Bytes(handed), handed) {
			t.Errorf("%q: what is written stands in what was handed in", s)
		}
		for _, v := range []api.Value{name(handed), text(handed), list(text(handed)), dict(pair(handed, name(handed)))} {
			if written, _ := write.Text(v); share(written, handed) {
				t.Errorf("%q: what is written stands in what was handed in", s)
			}
		}
	}
}

// share tells whether two texts stand in the same memory.
func share(a, b string) bool {
	beginA, beginB := uintptr(unsafe.Pointer(unsafe.StringData(a))), uintptr(unsafe.Pointer(unsafe.StringData(b)))
	return beginA < beginB+uintptr(len(b)) && beginB < beginA+uintptr(len(a))
}

func TestListsThatStandInManyPlaces(t *testing.T) {
	inner := list(number(1), text("t"))
	for range 14 {
		inner = list(inner, inner)
	}
	want := "[1 (t)]"
	for range 14 {
		want = "[" + want + " " + want + "]"
	}
	checkText(t, inner, want)
}

func TestLongTexts(t *testing.T) {
	const many = 1 << 18
	v := list(slices.Repeat([]api.Value{link(maxNum, maxGen)}, many)...)
	checkText(t, v, "["+strings.Repeat("8388607 65535 R ", many-1)+"8388607 65535 R]")
	var d []api.Pair
	var want strings.Builder
	for i := range many {
		d = append(d, pair(fmt.Sprintf("%08d", i), number(i)))
		fmt.Fprintf(&want, " /%08d %d", i, i)
	}
	slices.Reverse(d)
	checkText(t, dict(d...), "<<"+want.String()[1:]+">>")
	// Deep and long at once: what is within is not written anew at each depth.
	checkText(t, nested(v, maxDepth-1), strings.Repeat("[", maxDepth)+strings.Repeat("8388607 65535 R ", many-1)+"8388607 65535 R"+strings.Repeat("]", maxDepth))
}

func TestCallsKnowNothingOfOneAnother(t *testing.T) {
	for range 3 {
		checkWrong(t, list(number(1), odd(9)), api.ErrKind)
		checkText(t, number(1), "1")
		checkName(t, "a", "/a")
		checkBytes(t, "\n", "<0A>")
		checkBytes(t, "a", "(a)")
		checkWrong(t, stream("s"), api.ErrKind)
		checkText(t, list(), "[]")
		checkName(t, "", "/")
		checkBytes(t, "", "()")
	}
}

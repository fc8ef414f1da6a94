package parse_test

import (
	"fmt"
	"math"
	"math/rand/v2"
	"slices"
	"strings"
	"testing"
	"unsafe"

	"bindery/api"
	"bindery/parse"
	"bindery/token"
	"bindery/value"
	"bindery/write"
)

const (
	// The limits, told again.
	maxDepth = 64
	maxNum   = 8388607
	maxGen   = 65535
	maxName  = 127
	maxText  = 65535
	maxInt   = 2147483647
)

// Places far from every text, at which sums of places would turn round.
var farPlaces = []int{math.MinInt, math.MinInt + 1, math.MinInt32, math.MaxInt32, math.MaxInt - 1, math.MaxInt}

// Short ways to make values.

var null = api.Value{}

func number(n int) api.Value              { return api.Value{Kind: api.Int, N: n} }
func boolean(n int) api.Value             { return api.Value{Kind: api.Bool, N: n} }
func name(s string) api.Value             { return api.Value{Kind: api.Name, S: s} }
func text(s string) api.Value             { return api.Value{Kind: api.Text, S: s} }
func link(n, g int) api.Value             { return api.Value{Kind: api.Link, N: n, G: g} }
func list(l ...api.Value) api.Value       { return api.Value{Kind: api.List, L: l} }
func dict(d ...api.Pair) api.Value        { return api.Value{Kind: api.Dict, D: d} }
func pair(k string, v api.Value) api.Pair { return api.Pair{Key: k, V: v} }

// nested is a value within so many lists.
func nested(v api.Value, lists int) api.Value {
	for range lists {
		v = list(v)
	}
	return v
}

// keyed is a value within so many dictionaries.
func keyed(v api.Value, dicts int) api.Value {
	for range dicts {
		v = dict(pair("K", v))
	}
	return v
}

// lists is a text within so many lists, and dicts one within so many dictionaries.
func lists(s string, many int) string {
	return strings.Repeat("[", many) + s + strings.Repeat("]", many)
}

func dicts(s string, many int) string {
	return strings.Repeat("<</K ", many) + s + strings.Repeat(">>", many)
}

// exact tells whether two values have just the same fields; nil and empty lists are the same.
func exact(a, b api.Value) bool {
	return a.Kind == b.Kind && a.N == b.N && a.G == b.G && a.S == b.S &&
		slices.EqualFunc(a.L, b.L, exact) &&
		slices.EqualFunc(a.D, b.D, func(x, y api.Pair) bool { return x.Key == y.Key && exact(x.V, y.V) })
}

// short tells a value for a message.
func short(v api.Value) string { return fmt.Sprintf("%.300s", fmt.Sprintf("%.40q", fmt.Sprint(v))) }

func newRandom(seed uint64) *rand.Rand { return rand.New(rand.NewPCG(seed, 18)) }

// oneOf tells any of some.
func oneOf[T any](r *rand.Rand, some ...T) T { return some[r.IntN(len(some))] }

// some tells a text of any of the letters.
func some(r *rand.Rand, letters string, length int) string {
	s := make([]byte, length)
	for i := range s {
		s[i] = letters[r.IntN(len(letters))]
	}
	return string(s)
}

// bytes are all bytes, rising.
func bytes() string {
	s := make([]byte, 256)
	for i := range s {
		s[i] = byte(i)
	}
	return string(s)
}

// A second telling of the words: all tokens are told first, and gone through with what is open on a stack.

// sign is a token, and the code beside it.
type sign struct {
	api.Token
	code api.Errno
}

// is tells whether a sign is a token of a kind.
func (s sign) is(kind int) bool { return s.code == api.OK && s.Kind == kind }

// signsFrom are the signs from a place on, up to the end, or an error.
func signsFrom(s string, at int) []sign {
	var signs []sign
	for {
		t, code := token.Next(s, at)
		signs = append(signs, sign{t, code})
		if code != api.OK || t.Kind == api.End {
			return signs
		}
		at = t.End
	}
}

// opened is a list or a dictionary that is not closed yet.
type opened struct {
	v    api.Value
	keys []string
}

// wantsKey tells whether a key, or what closes it, must come next.
func (o opened) wantsKey() bool { return o.v.Kind == api.Dict && len(o.keys) == len(o.v.D) }

// machine is what is open, and the signs that are left.
type machine struct {
	open  []opened
	signs []sign
	end   int
}

// pass goes on by so many signs.
func (m *machine) pass(many int) {
	m.end = m.signs[many-1].End
	m.signs = m.signs[many:]
}

// step takes the next sign: the value that ends with it, if one does.
func (m *machine) step() (v api.Value, ended bool, code api.Errno) {
	if m.signs[0].code != api.OK {
		return null, false, m.signs[0].code
	}
	kind := m.signs[0].Kind
	if kind == api.End {
		return null, false, api.ErrShort
	}
	if depth := len(m.open); depth > 0 {
		top := &m.open[depth-1]
		if top.wantsKey() && kind == api.CloseDict || top.v.Kind == api.List && kind == api.Close {
			m.open = m.open[:depth-1]
			m.pass(1)
			return top.v, true, api.OK
		}
		if top.wantsKey() {
			return null, false, m.key(top)
		}
	}
	if kind == api.Open || kind == api.OpenDict {
		if len(m.open) == maxDepth {
			return null, false, api.ErrDeep
		}
		m.open = append(m.open, opened{v: api.Value{Kind: map[int]int{api.Open: api.List, api.OpenDict: api.Dict}[kind]}})
		m.pass(1)
		return null, false, api.OK
	}
	v, code = m.single()
	return v, code == api.OK, code
}

// key takes a key.
func (m *machine) key(top *opened) api.Errno {
	s := m.signs[0]
	if s.Kind != api.NameSign {
		return api.ErrForm
	}
	if slices.Contains(top.keys, s.S) {
		return api.ErrKey
	}
	top.keys = append(top.keys, s.S)
	m.pass(1)
	return api.OK
}

// single takes a value that holds no others.
func (m *machine) single() (api.Value, api.Errno) {
	s := m.signs
	if len(s) > 2 && s[0].is(api.Number) && s[1].is(api.Number) && s[2].is(api.Word) && s[2].S == "R" {
		if s[0].N <= 0 || s[0].N > maxNum || s[1].N < 0 || s[1].N > maxGen {
			return null, api.ErrRange
		}
		m.pass(3)
		return link(s[0].N, s[1].N), api.OK
	}
	m.pass(1)
	switch s[0].Kind {
	case api.Number:
		return number(s[0].N), api.OK
	case api.NameSign:
		return name(s[0].S), api.OK
	case api.TextSign:
		return text(s[0].S), api.OK
	case api.Word:
		v, there := map[string]api.Value{"true": boolean(1), "false": boolean(0), "null": null}[s[0].S]
		if there {
			return v, api.OK
		}
	}
	return null, api.ErrForm
}

// put puts a value into what is open.
func (m *machine) put(v api.Value) {
	top := &m.open[len(m.open)-1]
	if top.v.Kind == api.List {
		top.v.L = append(top.v.L, v)
		return
	}
	top.v.D = append(top.v.D, pair(top.keys[len(top.keys)-1], v))
}

// plainAgain is a second telling of Plain, of what the machine takes.
func plainAgain(v api.Value) api.Value {
	p := api.Value{Kind: v.Kind, N: v.N, G: v.G, S: v.S}
	for _, e := range v.L {
		p.L = append(p.L, plainAgain(e))
	}
	for _, x := range v.D {
		if x.V.Kind != api.Null {
			p.D = append(p.D, pair(x.Key, plainAgain(x.V)))
		}
	}
	slices.SortFunc(p.D, func(a, b api.Pair) int { return strings.Compare(a.Key, b.Key) })
	return p
}

// valueAgain is a second telling of P18.1.
func valueAgain(s string, at int) (api.Value, int, api.Errno) {
	m := machine{signs: signsFrom(s, at)}
	for {
		v, ended, code := m.step()
		switch {
		case code != api.OK:
			return null, 0, code
		case ended && len(m.open) == 0:
			return plainAgain(v), m.end, api.OK
		case ended:
			m.put(v)
		}
	}
}

// wholeAgain is a second telling of P18.2.
func wholeAgain(s string) (api.Value, api.Errno) {
	v, end, code := valueAgain(s, 0)
	if code != api.OK {
		return null, code
	}
	rest := signsFrom(s, end)[0]
	switch {
	case rest.code != api.OK:
		return null, rest.code
	case rest.Kind != api.End:
		return null, api.ErrForm
	}
	return v, api.OK
}

// checkValue wants what Value answers.
func checkValue(t *testing.T, s string, at int, want api.Value, end int, code api.Errno) {
	t.Helper()
	if got, e, c := parse.Value(s, at); !exact(got, want) || e != end || c != code {
		t.Errorf("Value of %.60q (%d bytes) at %d: %s, %d, %d; wanted %s, %d, %d", s, len(s), at, short(got), e, c, short(want), end, code)
	}
}

// checkWhole wants what Whole answers.
func checkWhole(t *testing.T, s string, want api.Value, code api.Errno) {
	t.Helper()
	if got, c := parse.Whole(s); !exact(got, want) || c != code {
		t.Errorf("Whole of %.60q (%d bytes): %s, %d; wanted %s, %d", s, len(s), short(got), c, short(want), code)
	}
}

// checkIs wants that a text is one value, wherever it stands.
func checkIs(t *testing.T, s string, want api.Value) {
	t.Helper()
	checkValue(t, s, 0, want, len(s), api.OK)
	checkWhole(t, s, want, api.OK)
	checkWhole(t, " % a note\r"+s+"\n% another", want, api.OK)
	checkValue(t, "("+s+"  "+s+" )", 1+len(s), want, 1+len(s)+2+len(s), api.OK)
	checkParsed(t, want)
}

// checkWrong wants that a text is refused, as a value alone and as one that others hold.
func checkWrong(t *testing.T, s string, code api.Errno) {
	t.Helper()
	checkValue(t, s, 0, null, 0, code)
	checkValue(t, "x"+s, 1, null, 0, code)
	checkWhole(t, s, null, code)
	checkWhole(t, "\t%\n"+s, null, code)
	checkWhole(t, "[1 "+s, null, code)
	checkWhole(t, "<</A "+s, null, code)
}

// checkParsed holds P18.3 against a value that was parsed.
func checkParsed(t *testing.T, v api.Value) {
	t.Helper()
	if code := value.Check(v, false); code != api.OK {
		t.Errorf("%s may not be: %d", short(v), code)
	}
	if !exact(v, value.Plain(v)) {
		t.Errorf("%s is not Plain", short(v))
	}
	s, code := write.Text(v)
	if code != api.OK {
		t.Errorf("%s is not written: %d", short(v), code)
	}
	if again, end, code := parse.Value(s, 0); !exact(again, v) || end != len(s) || code != api.OK {
		t.Errorf("%s: %.60q is parsed as %s, %d, %d", short(v), s, short(again), end, code)
	}
	if again, code := parse.Whole(s); !exact(again, v) || code != api.OK {
		t.Errorf("%s: %.60q is, whole, parsed as %s, %d", short(v), s, short(again), code)
	}
}

// checkAgain holds both calls against the second telling, and tells the value's code.
func checkAgain(t *testing.T, s string, at int) api.Errno {
	t.Helper()
	v, end, code := valueAgain(s, at)
	checkValue(t, s, at, v, end, code)
	if code == api.OK {
		checkParsed(t, v)
	}
	if at == 0 {
		whole, code := wholeAgain(s)
		checkWhole(t, s, whole, code)
	}
	return code
}

// P18.1: values that hold no others

func TestTheExample(t *testing.T) {
	checkIs(t, "<</A [1 2 0 R] /B null>>", dict(pair("A", list(number(1), link(2, 0)))))
}

func TestSingleValues(t *testing.T) {
	for s, want := range map[string]api.Value{
		"0": number(0), "7": number(7), "-7": number(-7), "+7": number(7), "007": number(7), "-0": number(0), "+00": number(0), "2147483647": number(maxInt), "-2147483647": number(-maxInt), "-0002147483647": number(-maxInt),
		"/": name(""), "/A": name("A"), "/null": name("null"), "/true": name("true"), "/1": name("1"), "/R": name("R"), "/A#42": name("AB"), "/a#20b": name("a b"), "/" + strings.Repeat("n", maxName): name(strings.Repeat("n", maxName)),
		"()": text(""), "(a)": text("a"), "(null)": text("null"), "(1 0 R)": text("1 0 R"), "(x(y))": text("x(y)"), `(\)\\\()`: text(`)\(`), "(\r\n)": text("\n"), "(\x00)": text("\x00"), "([)": text("["), "(% a)": text("% a"),
		"<>": text(""), "<4a>": text("J"), "<4A 4>": text("J@"), "(" + strings.Repeat("t", maxText) + ")": text(strings.Repeat("t", maxText)), "<" + strings.Repeat("74", maxText) + ">": text(strings.Repeat("t", maxText)),
		"true": boolean(1), "false": boolean(0), "null": null,
	} {
		checkIs(t, s, want)
		if got, _, _ := valueAgain(s, 0); !exact(got, want) {
			t.Errorf("%.60q: the second telling tells %s", s, short(got))
		}
	}
}

func TestWordsThatAreNoValues(t *testing.T) {
	for _, s := range []string{"R", "True", "TRUE", "tru", "truee", "true1", "1true", "nul", "nulll", "Null", "fals", "falsee", "obj", "endobj", "stream", "xref", "trailer", "f", "n", "1.5", "1e3", "--1", "+-1", "1-", "-", "+", "#", "#41", "a", "\x01", "\xff", "null#", "1R", "0x1", "\\", "nullnull", "true_"} {
		checkWrong(t, s, api.ErrForm)
		checkWrong(t, s+" 1", api.ErrForm)
		checkWrong(t, s+" )", api.ErrForm)
	}
	for _, s := range []string{"]", ">>", ">", ")", "{", "}", ">>>", "]]", "> >"} {
		checkValue(t, s, 0, null, 0, api.ErrForm)
		checkWhole(t, s, null, api.ErrForm)
		checkWhole(t, s+"1", null, api.ErrForm)
	}
}

func TestErrorsOfTokens(t *testing.T) {
	for s, code := range map[string]api.Errno{
		"2147483648": api.ErrRange, "-2147483648": api.ErrRange, "99999999999999999999999": api.ErrRange, "+2147483648": api.ErrRange,
		"/#": api.ErrForm, "/#00": api.ErrForm, "/A#4": api.ErrForm, "/A#4g": api.ErrForm, "/" + strings.Repeat("n", maxName+1): api.ErrLong,
		"(": api.ErrShort, "(a": api.ErrShort, "(()": api.ErrShort, `(\)`: api.ErrShort, "(" + strings.Repeat("t", maxText+1): api.ErrLong, "(" + strings.Repeat("t", maxText+1) + ")": api.ErrLong,
		"<": api.ErrShort, "<4": api.ErrShort, "<g>": api.ErrForm, "<4 /": api.ErrForm, "<" + strings.Repeat("74", maxText+1) + ">": api.ErrLong,
		strings.Repeat("w", maxName+1): api.ErrLong, strings.Repeat("w", maxName): api.ErrForm, strings.Repeat("0", maxName+1) + "x": api.ErrLong,
		")": api.ErrForm, ">": api.ErrForm, "{": api.ErrForm, "}": api.ErrForm,
	} {
		checkWrong(t, s, code)
		checkWhole(t, "["+s, null, code)
		checkWhole(t, "[1 /A "+s, null, code)
		checkWhole(t, "<<"+s, null, mustBeKey(s, code))
		checkWhole(t, "<</A 1 "+s, null, mustBeKey(s, code))
		checkWhole(t, "<</A [[<</B "+s, null, code)
		// Behind a value it is looked at by Whole alone.
		for _, ahead := range []string{"null ", "[] ", "<<>> ", "(a) ", "1 ", "1 2 ", "1 0 R ", "/A "} {
			checkWhole(t, ahead+s, null, anyBehind(ahead, s, code))
			v, end, c := valueAgain(strings.TrimSuffix(ahead, " "), 0)
			checkValue(t, ahead+s, 0, v, end, c)
			checkParsed(t, v)
		}
	}
}

// mustBeKey is the code of what begins a text where a key must be: a word is refused as it is none.
func mustBeKey(s string, code api.Errno) api.Errno {
	if _, own := token.Next(s, 0); own == api.OK {
		return api.ErrForm
	}
	return code
}

// anyBehind is the code of what stands behind a value: a token of its own error, or one too many.
func anyBehind(ahead, s string, code api.Errno) api.Errno {
	if _, own := token.Next(s, 0); own == api.OK || ahead == "1 2 " {
		return api.ErrForm
	}
	return code
}

func TestNothingIsShort(t *testing.T) {
	for _, s := range []string{"", " ", "\x00\t\n\f\r ", "%", "% 1", "%\r\n", " % a\n % b\r% c"} {
		checkValue(t, s, 0, null, 0, api.ErrShort)
		checkWhole(t, s, null, api.ErrShort)
		checkWhole(t, "["+s, null, api.ErrShort)
		checkWhole(t, "[ 1 "+s, null, api.ErrShort)
		checkWhole(t, "[[]"+s, null, api.ErrShort)
		checkWhole(t, "<<"+s, null, api.ErrShort)
		checkWhole(t, "<</A "+s, null, api.ErrShort)
		checkWhole(t, "<</A 1 "+s, null, api.ErrShort)
		checkWhole(t, "<</A 1 /B "+s, null, api.ErrShort)
		checkWhole(t, "[<</A [<<>>"+s, null, api.ErrShort)
	}
}

// P18.1: links

func TestLinksAtTheirEdges(t *testing.T) {
	for _, n := range []string{"1", "2", "8388606", "8388607", "+1", "01", "0008388607"} {
		for _, g := range []string{"0", "1", "65534", "65535", "-0", "+0", "0065535"} {
			s := n + " " + g + " R"
			want, _, _ := valueAgain(s, 0)
			if want.Kind != api.Link {
				t.Fatalf("%q: %s", s, short(want))
			}
			checkIs(t, s, want)
			checkIs(t, "["+s+"]", list(want))
		}
		for _, g := range []string{"-1", "65536", "2147483647", "-2147483647", "-65535"} {
			checkWrong(t, n+" "+g+" R", api.ErrRange)
		}
	}
	for _, n := range []string{"0", "-0", "-1", "8388608", "2147483647", "-2147483647", "16777216", "-8388607"} {
		for _, g := range []string{"0", "1", "65535", "-1", "65536"} {
			checkWrong(t, n+" "+g+" R", api.ErrRange)
			checkWrong(t, n+" "+g+" R)", api.ErrRange)
			// Without the word these are numbers, which may be that great.
			first, _ := parse.Whole(n)
			checkValue(t, n+" "+g, 0, first, len(n), api.OK)
			checkValue(t, n+" "+g+" r", 0, first, len(n), api.OK)
		}
	}
	checkIs(t, "8388607 65535 R", link(maxNum, maxGen))
	checkIs(t, "1 0 R", link(1, 0))
}

func TestWhatIsNoLink(t *testing.T) {
	// Each is an Int, and ends there; what is behind that is left, and may be no token.
	for _, rest := range []string{
		"", " ", " 2", " 0", " 0 ", " 0 r", " 0 RR", " 0 R1", " 0 R#", " 0 /R", " 0 (R)", " 0 <52>", " 0 [", " 0 ]", " 0 <<", " 0 >>", " 0 )", " 0 >", " 0 (", " 0 <", " 0 {", " 0 /#",
		" 0 2147483648", " 0 " + strings.Repeat("R", maxName+1), " 0 2 R", " 0 0 R", " 0 obj", " 0% R", " 0R", " 0 0", " R", " /A", " (", " )", " <", " >", " {", " /#0", "(a", "[", "]", "<<", ">>", "/", "<0A>", "() R", "/0 R",
		" 2147483648 R", " -2147483648 R", " 0.0 R", " 0- R", " true R", " null R", " " + strings.Repeat("w", maxName+1),
	} {
		for _, n := range []int{1, 0, -1, maxInt, -maxInt, 7} {
			s := fmt.Sprint(n)
			checkValue(t, s+rest, 0, number(n), len(s), api.OK)
			checkValue(t, "%\n"+s+rest, 0, number(n), 2+len(s), api.OK)
			checkAgain(t, s+rest, 0)
			checkAgain(t, "["+s+rest, 0)
			checkAgain(t, "["+s+rest+"]", 0)
			checkAgain(t, "<</A "+s+rest+">>", 0)
		}
	}
}

func TestLinksAmongNumbers(t *testing.T) {
	for s, want := range map[string]api.Value{
		"[1 2 3 R]": list(number(1), link(2, 3)), "[1 2 3 4 R]": list(number(1), number(2), link(3, 4)), "[1 0 R 2]": list(link(1, 0), number(2)), "[1 0 R 2 0 R]": list(link(1, 0), link(2, 0)),
		"[0 1 0 R]": list(number(0), link(1, 0)), "[-1 1 1 R 5 6]": list(number(-1), link(1, 1), number(5), number(6)), "[1]": list(number(1)), "[1 2]": list(number(1), number(2)), "[1 2 3]": list(number(1), number(2), number(3)),
		"[1 0/R]": list(number(1), number(0), name("R")), "[1 0(R)]": list(number(1), number(0), text("R")), "[1 0 R[]1 0 R<<>>]": list(link(1, 0), list(), link(1, 0), dict()), "[1[2]3]": list(number(1), list(number(2)), number(3)),
		"<</A 1/B 2 0 R/C 3>>": dict(pair("A", number(1)), pair("B", link(2, 0)), pair("C", number(3))), "<</R 1/0 0>>": dict(pair("0", number(0)), pair("R", number(1))),
		"[1%\n0\x00%R\rR]": list(link(1, 0)), "[1 0% R\n]": list(number(1), number(0)), "[1 0 R%\n]": list(link(1, 0)),
	} {
		checkIs(t, s, want)
	}
	checkWhole(t, "[1 0 R R]", null, api.ErrForm)
	checkWhole(t, "[1 R]", null, api.ErrForm)
	checkWhole(t, "[R]", null, api.ErrForm)
	checkWhole(t, "[1 /A R]", null, api.ErrForm)
	checkWhole(t, "[1 2 3 4 R", null, api.ErrShort)
	checkWhole(t, "[1 2 0 0 R", null, api.ErrRange)
	checkWhole(t, "[1 0 0 R]", null, api.ErrRange)
	checkWhole(t, "1 0 R R", null, api.ErrForm)
	checkWhole(t, "1 0", null, api.ErrForm)
	checkValue(t, "1 0 R", 1, number(0), 3, api.OK)
	checkValue(t, "12 0 R", 1, link(2, 0), 6, api.OK)
	checkValue(t, "1 0 R", 3, null, 0, api.ErrForm)
}

// P18.1: lists and dictionaries

func TestHolders(t *testing.T) {
	for s, want := range map[string]api.Value{
		"[]": list(), "[ ]": list(), "[null]": list(null), "[null null]": list(null, null), "[[]]": list(list()), "[[][]]": list(list(), list()), "[<<>>]": list(dict()), "[/A/B]": list(name("A"), name("B")), "[/A /A]": list(name("A"), name("A")),
		"[true false null 1 /n (t) <0a> 1 1 R [] <<>>]": list(boolean(1), boolean(0), null, number(1), name("n"), text("t"), text("\n"), link(1, 1), list(), dict()),
		"[true[false]null]":                             list(boolean(1), list(boolean(0)), null),
		"<<>>":                                          dict(), "<< >>": dict(), "<<%>>\n>>": dict(), "<</A 1>>": dict(pair("A", number(1))), "<</A/B>>": dict(pair("A", name("B"))), "<</A/A>>": dict(pair("A", name("A"))), "<</ 1>>": dict(pair("", number(1))), "<<//>>": dict(pair("", name(""))),
		"<</A[]>>": dict(pair("A", list())), "<</A<<>>>>": dict(pair("A", dict())), "<</A<0A>>>": dict(pair("A", text("\n"))), "<</A()>>": dict(pair("A", text(""))), "<</A true/B false>>": dict(pair("A", boolean(1)), pair("B", boolean(0))),
		"<</A <</A 1>>/B <</A 1>>>>":                      dict(pair("A", dict(pair("A", number(1)))), pair("B", dict(pair("A", number(1))))),
		"[<</A 1>><</A 1>>]":                              list(dict(pair("A", number(1))), dict(pair("A", number(1)))),
		"<</" + strings.Repeat("k", maxName) + " 1>>":     dict(pair(strings.Repeat("k", maxName), number(1))),
		"<</" + strings.Repeat("#6b", maxName) + "(v) >>": dict(pair(strings.Repeat("k", maxName), text("v"))),
	} {
		checkIs(t, s, want)
		checkIs(t, "["+s+" "+s+"]", list(want, want))
		checkIs(t, "<</Y "+s+"/X "+s+">>", dict(pair("X", want), pair("Y", want)))
	}
}

func TestPairsAreToldPlain(t *testing.T) {
	one, two := number(1), number(2)
	for s, want := range map[string]api.Value{
		"<</A null>>": dict(), "<</A null/B null>>": dict(), "<</A null/B 1/C null>>": dict(pair("B", one)), "<</B 1/A 2>>": dict(pair("A", two), pair("B", one)), "<</a 1/B 2/ 1/A 2/AA 1>>": dict(pair("", one), pair("A", two), pair("AA", one), pair("B", two), pair("a", one)),
		"<</#ff 1/~ 2/#01 1/! 2>>": dict(pair("\x01", one), pair("!", two), pair("~", two), pair("\xff", one)),
		"<</A [null]>>":            dict(pair("A", list(null))), "<</A<</B null>>>>": dict(pair("A", dict())), "<</A<</C 1/B<</Y 1/X null>>>>>>": dict(pair("A", dict(pair("B", dict(pair("Y", one))), pair("C", one)))),
		"[<</B 1/A null>>null]": list(dict(pair("B", one)), null), "[[<</B 1/A 2>>]]": list(list(dict(pair("A", two), pair("B", one)))),
	} {
		checkIs(t, s, want)
	}
}

func TestWrongKeys(t *testing.T) {
	for _, s := range []string{"1", "(A)", "<41>", "[", "[]", "]", "<<", "<<>>", "A", "true", "null", "R", "1 0 R", ")", "{", "}", "> >", ">"} {
		checkWrong(t, "<<"+s, api.ErrForm)
		checkWrong(t, "<< "+s+" 1>>", api.ErrForm)
		checkWrong(t, "<</A 1 "+s+" 1>>", api.ErrForm)
		checkWrong(t, "<</A null/B[]"+s+" 1>>", api.ErrForm)
	}
	for _, s := range []string{"<</A>>", "<</A 1/B>>", "<</A]>>", "<</A R>>", "<</A >>>>", "<</A ]", "<</A )", "[>>", "[1>>", "<<]", "<</A 1]", "[<<]>>", "[[>>]", "[1)", "[1}", "<</A 1>]", "[>"} {
		checkWrong(t, s, api.ErrForm)
	}
}

func TestKeysThatStandFartherAhead(t *testing.T) {
	for _, s := range []string{
		"<</A 1/A 1>>", "<</A 1/A 2>>", "<</A null/A 1>>", "<</A 1/A null>>", "<</A null/A null>>", "<</A 1/B 2/A 3>>", "<</A 1/#41 1>>", "<</ 1/ 2>>", "<</A 1/B 2/C 3/B 4>>", "<</A[]/A<<>>>>", "<</A<</A 1>>/A 1>>", "<</A<</A 1/A 2>>>>",
		// As the key is met: what is behind it is not looked at.
		"<</A 1/A", "<</A 1/A ", "<</A 1/A)", "<</A 1/A 2147483648", "<</A 1/A]", "<</A 1/A>>", "<</A 1/A(", "<</A 1/A R", "<</A 1/A" + strings.Repeat("[", 80), "<</A 1/A/#",
	} {
		checkWrong(t, s, api.ErrKey)
	}
	checkWrong(t, "<</A 1/A# 1>>", api.ErrForm)
	checkWrong(t, "<</A 1)/A 1>>", api.ErrForm)
	checkWrong(t, "<</A)/A 1>>", api.ErrForm)
	checkWrong(t, "<</A (/A 1>>", api.ErrShort)
	checkWrong(t, "<</A 0 0 R/A 1>>", api.ErrRange)
	// The same bytes as a value, or within another one, are no key of it.
	checkIs(t, "<</A/B/B/A>>", dict(pair("A", name("B")), pair("B", name("A"))))
	checkIs(t, "<</A<</B<</A 1>>>>/B 1>>", dict(pair("A", dict(pair("B", dict(pair("A", number(1)))))), pair("B", number(1))))
	checkIs(t, "<</A 1/a 2>>", dict(pair("A", number(1)), pair("a", number(2))))
	checkIs(t, "<</A 1/A#20 2/AA 3>>", dict(pair("A", number(1)), pair("A ", number(2)), pair("AA", number(3))))
}

func TestKeysAtAnyPlace(t *testing.T) {
	const many = 12
	for first := range many {
		for second := range many {
			var s strings.Builder
			s.WriteString("<<")
			for i := range many {
				key := 'a' + i
				if i == second {
					key = 'a' + first
				}
				fmt.Fprintf(&s, "/%c %d", key, i)
			}
			want := api.ErrKey
			if first == second {
				want = api.OK
			}
			if code := checkAgain(t, s.String()+">>", 0); code != want {
				t.Errorf("%q: %d, wanted %d", s.String(), code, want)
			}
		}
	}
}

func TestHowDeepValuesGo(t *testing.T) {
	for s, v := range map[string]api.Value{"1": number(1), "null": null, "1 0 R": link(1, 0), "/n": name("n"), "(t)": text("t"), "<0A>": text("\n"), "true": boolean(1)} {
		checkIs(t, lists(s, maxDepth), nested(v, maxDepth))
		checkWrong(t, lists(s, maxDepth+1), api.ErrDeep)
		if v.Kind != api.Null {
			checkIs(t, dicts(s, maxDepth), keyed(v, maxDepth))
		}
		checkWrong(t, dicts(s, maxDepth+1), api.ErrDeep)
	}
	for within := range maxDepth + 4 {
		code := api.OK
		if within > maxDepth {
			code = api.ErrDeep
		}
		half, third := within/2, within/3
		for _, s := range []string{lists("1", within), dicts("1", within), dicts(lists("1", within-half), half), lists(dicts("1", third), within-third), strings.Repeat("[<</K ", half) + lists("1", within%2) + strings.Repeat(">>]", half)} {
			if got := checkAgain(t, s, 0); got != code {
				t.Errorf("%.60q: %d, wanted %d", s, got, code)
			}
		}
	}
	checkWhole(t, strings.Repeat("<</K ", maxDepth)+"null"+strings.Repeat(">>", maxDepth), keyed(dict(), maxDepth-1), api.OK)
	checkWhole(t, strings.Repeat("<</K ", maxDepth-1)+"<<>>"+strings.Repeat(">>", maxDepth-1), keyed(dict(), maxDepth-1), api.OK)
}

func TestDeepBesideDeep(t *testing.T) {
	// What was closed counts for nothing more.
	deep, tooDeep := lists("", maxDepth-1), lists("", maxDepth)
	v := nested(list(), maxDepth-2)
	checkIs(t, "["+deep+deep+deep+"]", list(v, v, v))
	checkIs(t, "<</A"+deep+"/B"+deep+">>", dict(pair("A", v), pair("B", v)))
	checkIs(t, "["+strings.Repeat("[]", 200)+"]", list(slices.Repeat([]api.Value{list()}, 200)...))
	checkIs(t, "["+strings.Repeat("<<>>", 200)+deep+"]", list(append(slices.Repeat([]api.Value{dict()}, 200), v)...))
	checkWrong(t, "["+deep+deep+tooDeep+"]", api.ErrDeep)
	checkWrong(t, "<</A"+deep+"/B"+tooDeep+">>", api.ErrDeep)
	checkWrong(t, "["+dicts("1", maxDepth-1)+dicts("1", maxDepth)+"]", api.ErrDeep)
}

func TestDeepAsTheFirstTokenIsMet(t *testing.T) {
	open := strings.Repeat("[", maxDepth)
	for _, rest := range []string{"", "[", ")", "(", "]", ">>", "2147483648", "/A/A", "{", " % "} {
		checkWrong(t, open+"["+rest, api.ErrDeep)
		checkWrong(t, open+"<<"+rest, api.ErrDeep)
		checkWrong(t, open+"1[]"+rest, api.ErrDeep)
		checkWrong(t, open+"null<<>>"+rest, api.ErrDeep)
		checkWrong(t, open+"1 0 R["+rest, api.ErrDeep)
	}
	dictsOpen := strings.Repeat("<</K ", maxDepth)
	for s, code := range map[string]api.Errno{
		open + ")[": api.ErrForm, open + ">>[": api.ErrForm, open + "0 0 R[": api.ErrRange, open + "<4": api.ErrShort, open: api.ErrShort, open + "1 0": api.ErrShort,
		dictsOpen + "1/K[": api.ErrKey, dictsOpen + "1[": api.ErrForm, dictsOpen + "1/L[": api.ErrDeep, dictsOpen + "1/L<<": api.ErrDeep, dictsOpen + "1/L": api.ErrShort,
	} {
		checkValue(t, s, 0, null, 0, code)
		checkWhole(t, s, null, code)
	}
	checkWrong(t, strings.Repeat("[", 1<<22), api.ErrDeep)
	checkWrong(t, strings.Repeat("<</K", 1<<20), api.ErrDeep)
}

func TestTheFirstErrorFromTheLeft(t *testing.T) {
	wrong := map[string]api.Errno{
		"R": api.ErrForm, "]": api.ErrForm, "2147483648": api.ErrRange, "0 0 R": api.ErrRange, "/" + strings.Repeat("n", 128): api.ErrLong, "<</A 1/A": api.ErrKey, lists("", 70): api.ErrDeep, "<</A": api.ErrForm, "<<1": api.ErrForm, "{": api.ErrForm, "/#00": api.ErrForm,
	}
	for a, first := range wrong {
		for b := range wrong {
			for _, behind := range []string{"", "]", ">>", ")", " 1"} {
				s := "/A " + a + " " + b + behind
				if a == "<</A" {
					// What is wrong with it is that no value is behind it, whatever is.
					s = "/A " + a + ">>" + b + behind
				}
				checkWhole(t, "<<"+s, null, first)
				checkWhole(t, "<</B[1 2 0 R<<>>]"+s, null, first)
				checkWhole(t, "[<<"+s, null, first)
				checkWhole(t, "[1 0 1 0 R<<"+s, null, first)
			}
		}
	}
}

// P18.1: where values begin and end

func TestPlacesOutsideTheText(t *testing.T) {
	for _, s := range []string{"", " ", "1", "1 0 R", " [1 2] 3", "%\n<</A 1>> ", "%", ")", "2147483648"} {
		first, end, code := valueAgain(s, 0)
		for _, at := range []int{-1, -2, -7, math.MinInt, math.MinInt + 1, math.MinInt32} {
			checkValue(t, s, at, first, end, code)
		}
		for _, at := range []int{len(s), len(s) + 1, len(s) + 7, math.MaxInt32, math.MaxInt - 1, math.MaxInt} {
			checkValue(t, s, at, null, 0, api.ErrShort)
		}
		for _, at := range farPlaces {
			checkAgain(t, s, at)
		}
	}
}

func TestPlacesWithinTheText(t *testing.T) {
	for _, s := range []string{
		"1 0 R", "12 34 R 56", "<</A [1 2 0 R] /B null>>", "[[[1]2]3]", "(a(b)c) <4a4b> /A#42", "% a\n1 % b\r2 % c\r\n3", "null true false", "<<<4a>>>", "<</A<</B<</C(x)>>>>>>", "[]<<>>[<<>>]",
	} {
		for at := range len(s) + 1 {
			checkAgain(t, s, at)
			checkAgain(t, s[:at], 0)
			checkAgain(t, s[at:], 0)
		}
	}
	checkValue(t, "1 [2 3] (x) /A", 1, list(number(2), number(3)), 7, api.OK)
	checkValue(t, "1 [2 3] (x) /A", 7, text("x"), 11, api.OK)
	checkValue(t, "1 [2 3] (x) /A", 11, name("A"), 14, api.OK)
	checkValue(t, "1 [2 3] (x) /A", 14, null, 0, api.ErrShort)
	checkValue(t, "% a\n1 % b\r2", 0, number(1), 5, api.OK)
}

func TestWhereLastTokensEnd(t *testing.T) {
	for _, s := range []string{"1", "-1", "1 0 R", "/A", "/", "(a)", "<4a>", "true", "false", "null", "[]", "[1]", "[1 ]", "<<>>", "<</A 1 >>", "[[] ]", "[1 0 R]"} {
		want, code := parse.Whole(s)
		if code != api.OK {
			t.Fatalf("%q: %d", s, code)
		}
		for _, ahead := range []string{"", " ", "%\n", "\r\n\t", "[", "(", ")", "{", "<<"} {
			for _, behind := range []string{"", " ", "\n% a", "\x00", "%", "[", "]", "(", ")", ">>", "<", "{", "}", " null", " /#", " 2147483648x"} {
				checkValue(t, ahead+s+behind, len(ahead), want, len(ahead)+len(s), api.OK)
			}
		}
	}
}

func TestAValueBehindTheOther(t *testing.T) {
	const s = "1 2 0 R/A(b)[c]%[\n<</D[true null]>>false<4a>-7 0 0"
	wants := []api.Value{number(1), link(2, 0), name("A"), text("b")}
	at := 0
	for _, want := range wants {
		v, end, code := parse.Value(s, at)
		if !exact(v, want) || code != api.OK || end <= at {
			t.Errorf("%d: %s, %d, %d", at, short(v), end, code)
		}
		at = end
	}
	checkValue(t, s, at, null, 0, api.ErrForm)
	at = strings.Index(s, "%")
	for _, want := range []api.Value{dict(pair("D", list(boolean(1), null))), boolean(0), text("J"), number(-7), number(0), number(0)} {
		v, end, code := parse.Value(s, at)
		if !exact(v, want) || code != api.OK || end <= at {
			t.Errorf("%d: %s, %d, %d", at, short(v), end, code)
		}
		at = end
	}
	if at != len(s) {
		t.Errorf("%d, not %d", at, len(s))
	}
}

// P18.2

func TestWhole(t *testing.T) {
	for _, ahead := range []string{"1", "1 0 R", "/A", "(a)", "null", "true", "[]", "[1]", "<<>>", "<</A 1>>"} {
		v, _, code := valueAgain(ahead, 0)
		if code != api.OK {
			t.Fatalf("%q: %d", ahead, code)
		}
		for behind, code := range map[string]api.Errno{
			"": api.OK, " ": api.OK, "\x00\t\n\f\r ": api.OK, "%": api.OK, "% 1": api.OK, " % a\r% b\n": api.OK,
			" 1": api.ErrForm, " /A": api.ErrForm, "/": api.ErrForm, "[": api.ErrForm, "]": api.ErrForm, "<<": api.ErrForm, ">>": api.ErrForm, " null": api.ErrForm, "()": api.ErrForm, "<>": api.ErrForm, " endobj": api.ErrForm, "%\n1": api.ErrForm, " 1 (": api.ErrForm, "[2147483648": api.ErrForm, " R": api.ErrForm,
			")": api.ErrForm, ">": api.ErrForm, "{": api.ErrForm, "}": api.ErrForm, "/#": api.ErrForm, "<g>": api.ErrForm,
			"(": api.ErrShort, "<": api.ErrShort, "%\n(": api.ErrShort, "<4": api.ErrShort, "( 2147483648": api.ErrShort,
			" 2147483648": api.ErrRange, " -2147483648 ": api.ErrRange, "%\r2147483648)": api.ErrRange,
			"/" + strings.Repeat("n", maxName+1): api.ErrLong, " " + strings.Repeat("w", maxName+1): api.ErrLong, "(" + strings.Repeat("t", maxText+1): api.ErrLong,
		} {
			want := v
			if code != api.OK {
				want = null
			}
			checkWhole(t, ahead+behind, want, code)
			checkWhole(t, " %\n"+ahead+behind, want, code)
		}
	}
	checkWhole(t, "R 2147483648", null, api.ErrForm)
	checkWhole(t, "[ 2147483648", null, api.ErrRange)
	checkWhole(t, "0 0 R (", null, api.ErrRange)
}

// Both, of texts of any form

// pieces are signs of each kind, with what parts them from others.
var pieces = []string{"[", "]", "<<", ">>", " 0", " 1", " R", "/A", "/B", "(t)", " null", " true", ")", "%\n"}

func TestAllRowsOfFewSigns(t *testing.T) {
	const most = 5
	codes := map[api.Errno]int{}
	var row func(s string, left int)
	row = func(s string, left int) {
		codes[checkAgain(t, s, 0)]++
		if left == 0 || t.Failed() {
			return
		}
		for _, piece := range pieces {
			row(s+piece, left-1)
		}
	}
	row("", most)
	for _, code := range []api.Errno{api.OK, api.ErrForm, api.ErrShort, api.ErrRange} {
		if codes[code] < 100 {
			t.Errorf("the code %d was told %d times alone", code, codes[code])
		}
	}
}

func TestAllRowsOfSignsOfHolders(t *testing.T) {
	const most = 8
	for _, few := range [][]string{{"[", "]", "<<", ">>", "/A"}, {" 1", " 0", " R", "]"}, {"/A", "/B", " null", ">>"}} {
		var row func(s string, left int)
		row = func(s string, left int) {
			checkAgain(t, s, 0)
			if left == 0 || t.Failed() {
				return
			}
			for _, piece := range few {
				row(s+piece, left-1)
			}
		}
		for _, begin := range []string{"", "[", "<<"} {
			row(begin, most-len(begin))
		}
	}
}

// good are texts that are values.
var good = []string{
	"<</A [1 2 0 R] /B null>>", "[1 0 R 2 3 R 4]", "<</K<</L[<</M(x)/N<4a>>>]>>>>", "[true false null]", "8388607 65535 R", "-2147483647", "(a\\(b)", "/A#42C", " % n\r\n[ % [\n]%]", "<</A/B/C/D/E 1>>",
}

func TestABytePutInChangedOrLeftOut(t *testing.T) {
	for _, s := range good {
		checkAgain(t, s, 0)
		for at := range len(s) {
			checkAgain(t, s[:at]+s[at+1:], 0)
			for _, c := range []byte(bytes()) {
				checkAgain(t, s[:at]+string([]byte{c})+s[at+1:], 0)
				checkAgain(t, s[:at]+string([]byte{c})+s[at:], 0)
			}
		}
	}
}

func TestRowsOfSignsByChance(t *testing.T) {
	r := newRandom(1)
	more := append([]string{" 8388607", " 8388608", " 65535", " 65536", " -1", " 2147483647", " 2147483648", " 1 0 R", " 3 4 R", "<0A>", "(", "{", "/#", "/C", "/#41", " false", " R%\n", "\x00", " 0 0 R", "[[", "]]", "<<>>", "[]"}, pieces...)
	codes := map[api.Errno]int{}
	for range 60000 {
		var s strings.Builder
		for range r.IntN(14) {
			s.WriteString(oneOf(r, more...))
		}
		codes[checkAgain(t, s.String(), r.IntN(3))]++
	}
	for _, code := range []api.Errno{api.OK, api.ErrForm, api.ErrShort, api.ErrRange} {
		if codes[code] < 100 {
			t.Errorf("the code %d was told %d times alone", code, codes[code])
		}
	}
}

func TestTextsByChance(t *testing.T) {
	r := newRandom(2)
	all := bytes()
	for range 60000 {
		checkAgain(t, some(r, "[]<>/()%# 01RAnul\\", r.IntN(12)), 0)
		checkAgain(t, some(r, all, r.IntN(12)), r.IntN(3))
		s := oneOf(r, good...)
		for range 1 + r.IntN(3) {
			at := r.IntN(len(s))
			s = s[:at] + some(r, "[]<>/()%# 019RA-\n", r.IntN(3)) + s[at+r.IntN(2):]
		}
		checkAgain(t, s, 0)
	}
}

// P18.3

// goodValue is a value that may be, in any order, and is no stream.
func goodValue(r *rand.Rand, deep int) api.Value {
	v := api.Value{Kind: r.IntN(8)}
	switch v.Kind {
	case api.Bool:
		v.N = r.IntN(2)
	case api.Int:
		v.N = oneOf(r, 0, 1, -1, maxInt, -maxInt, r.IntN(maxInt))
	case api.Name:
		v.S = strings.ReplaceAll(oneOf(r, "", "a", "/", "R", "null", some(r, bytes(), r.IntN(10))), "\x00", "")
	case api.Text:
		v.S = oneOf(r, "", "a", "(", "1 0 R", some(r, bytes(), r.IntN(10)), some(r, "()\\ab", r.IntN(10)))
	case api.Link:
		v.N, v.G = oneOf(r, 1, 2, 1+r.IntN(maxNum)), oneOf(r, 0, 1, r.IntN(maxGen+1))
	case api.List:
		for range r.IntN(5) * min(deep, 1) {
			v.L = append(v.L, goodValue(r, deep-1))
		}
	case api.Dict:
		keys := []string{"", "A", "AA", "B", "a", "\xff", "\x01", "Z", "#", "a b", "~", "("}
		for _, i := range r.Perm(len(keys))[:r.IntN(6)*min(deep, 1)] {
			v.D = append(v.D, pair(keys[i], goodValue(r, deep-1)))
		}
	}
	return v
}

func TestWhatIsWrittenIsParsedAsItWas(t *testing.T) {
	r := newRandom(3)
	for range 30000 {
		v := goodValue(r, r.IntN(6))
		s, code := write.Text(v)
		if code != api.OK {
			t.Fatalf("%s: %d", short(v), code)
		}
		checkWhole(t, s, value.Plain(v), api.OK)
		checkValue(t, s, 0, value.Plain(v), len(s), api.OK)
		checkParsed(t, value.Plain(v))
	}
	for _, v := range []api.Value{
		text(bytes()), name(bytes()[1:128]), name(bytes()[129:]), text(strings.Repeat("\xff", maxText)), text(strings.Repeat("(", maxText)), name(strings.Repeat("\xff", maxName)), dict(pair(strings.Repeat("#", maxName), list())), nested(dict(), maxDepth-1), keyed(list(null), maxDepth-1), link(maxNum, maxGen),
	} {
		checkParsed(t, v)
	}
}

// What all calls hold

// share tells whether two texts stand in the same memory.
func share(a, b string) bool {
	beginA, beginB := uintptr(unsafe.Pointer(unsafe.StringData(a))), uintptr(unsafe.Pointer(unsafe.StringData(b)))
	return len(a) > 0 && len(b) > 0 && beginA < beginB+uintptr(len(b)) && beginB < beginA+uintptr(len(a))
}

// parts are all texts of a value, and all its lists.
func parts(v api.Value) (texts []string, lists [][]api.Value, pairs [][]api.Pair) {
	texts, lists, pairs = []string{v.S}, [][]api.Value{v.L}, [][]api.Pair{v.D}
	var held []api.Value
	held = append(held, v.L...)
	for _, p := range v.D {
		texts = append(texts, p.Key)
		held = append(held, p.V)
	}
	for _, h := range held {
		t, l, p := parts(h)
		texts, lists, pairs = append(texts, t...), append(lists, l...), append(pairs, p...)
	}
	return texts, lists, pairs
}

func TestAnswersShareNoMemory(t *testing.T) {
	s := strings.Clone("<</Key (text) /Other [/Name (text) (text) [1 2 3] [1 2 3] <</Key (text)>> <</Key (text)>>] /More <746578>>>")
	v, code := parse.Whole(s)
	if code != api.OK {
		t.Fatal(code)
	}
	texts, lists, pairs := parts(v)
	for _, text := range texts {
		if share(text, s) {
			t.Errorf("%q stands in what was handed in", text)
		}
	}
	for i := range lists {
		for j := range lists {
			if i != j && len(lists[i]) > 0 && len(lists[j]) > 0 && &lists[i][0] == &lists[j][0] {
				t.Errorf("the lists %d and %d are one", i, j)
			}
		}
	}
	for i := range pairs {
		for j := range pairs {
			if i != j && len(pairs[i]) > 0 && len(pairs[j]) > 0 && &pairs[i][0] == &pairs[j][0] {
				t.Errorf("the pairs %d and %d are one", i, j)
			}
		}
	}
	// What stands behind the end of a list of one answer is no other list's.
	again, _ := parse.Whole(s)
	_, spoilt, spoiltPairs := parts(again)
	for i := range spoilt {
		_ = append(spoilt[i], number(-1))
		_ = append(spoiltPairs[i], pair("Z", number(-1)))
	}
	if other, _ := parse.Whole(s); !exact(again, v) || !exact(other, v) {
		t.Errorf("%s was changed: %s", short(v), short(again))
	}
}

func TestCallsKnowNothingOfOneAnother(t *testing.T) {
	for range 3 {
		checkWhole(t, strings.Repeat("[", maxDepth+1), null, api.ErrDeep)
		checkWhole(t, lists("1", maxDepth), nested(number(1), maxDepth), api.OK)
		checkWhole(t, "<</A 1/A 2>>", null, api.ErrKey)
		checkWhole(t, "<</A 1>>", dict(pair("A", number(1))), api.OK)
		checkValue(t, "[1 2] 3", 5, number(3), 7, api.OK)
		checkValue(t, "[1 2] 3", 0, list(number(1), number(2)), 5, api.OK)
		checkWhole(t, "", null, api.ErrShort)
	}
}

func TestLongTexts(t *testing.T) {
	const many = 1 << 18
	checkWhole(t, "["+strings.Repeat(" 7", many)+"]", list(slices.Repeat([]api.Value{number(7)}, many)...), api.OK)
	checkWhole(t, "["+strings.Repeat(" 7 7 R", many)+"]", list(slices.Repeat([]api.Value{link(7, 7)}, many)...), api.OK)
	checkWhole(t, "["+strings.Repeat("[]", many)+"]", list(slices.Repeat([]api.Value{list()}, many)...), api.OK)
	checkWhole(t, "["+strings.Repeat("<<>>", many)+"]", list(slices.Repeat([]api.Value{dict()}, many)...), api.OK)
	// Deep and long at once: what is within is not gone through anew at each depth.
	checkWhole(t, lists(strings.Repeat("/A", many), maxDepth), nested(list(slices.Repeat([]api.Value{name("A")}, many)...), maxDepth-1), api.OK)
	checkWhole(t, dicts("["+strings.Repeat("(t)", many)+"]", maxDepth-1), keyed(list(slices.Repeat([]api.Value{text("t")}, many)...), maxDepth-1), api.OK)
	var d []api.Pair
	var s strings.Builder
	s.WriteString("<<")
	for i := range many {
		d = append(d, pair(fmt.Sprintf("%08d", i), number(i)))
		fmt.Fprintf(&s, "/%08d %d", many-1-i, many-1-i)
	}
	checkWhole(t, s.String()+">>", dict(d...), api.OK)
	checkWhole(t, s.String()+"/00000000 1>>", null, api.ErrKey)
	checkWhole(t, s.String()+fmt.Sprintf("/%08d", many-1), null, api.ErrKey)
	// White bytes and notes between the tokens of what could be a link.
	wide := strings.Repeat(" ", many) + "%" + strings.Repeat("R", many) + "\n"
	checkWhole(t, "1"+wide+"0"+wide+"R"+wide, link(1, 0), api.OK)
	checkWhole(t, "[1"+wide+"0"+wide+"1"+wide+"]", list(number(1), number(0), number(1)), api.OK)
	checkValue(t, "1 2"+strings.Repeat("0", many)+" R", 0, number(1), 1, api.OK)
}

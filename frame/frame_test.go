package frame_test

import (
	"fmt"
	"math"
	"math/rand/v2"
	"slices"
	"strings"
	"testing"
	"unsafe"

	"bindery/api"
	"bindery/coat"
	"bindery/frame"
	"bindery/parse"
	"bindery/token"
	"bindery/value"
	"bindery/write"
)

const (
	// The limits, told again.
	maxDepth = 64
	maxNum   = 8388607
	maxGen   = 65535
	maxName  = 127
	maxText  = 65535
	maxData  = 1 << 20
	maxInt   = 2147483647
	maxFile  = 1 << 26
	// The filters' names, as the document says them.
	hexName     = "ASCIIHexDecode"
	runsName    = "RunLengthDecode"
	deflateName = "FlateDecode"
)

// reserved are the keys, as the document says them.
func reserved() []string { return []string{"Length", "Filter", "DecodeParms"} }

// Short ways to make values.

var null = api.Value{}

func number(n int) api.Value              { return api.Value{Kind: api.Int, N: n} }
func boolean(n int) api.Value             { return api.Value{Kind: api.Bool, N: n} }
func name(s string) api.Value             { return api.Value{Kind: api.Name, S: s} }
func text(s string) api.Value             { return api.Value{Kind: api.Text, S: s} }
func link(n, g int) api.Value             { return api.Value{Kind: api.Link, N: n, G: g} }
func list(l ...api.Value) api.Value       { return api.Value{Kind: api.List, L: l} }
func dict(d ...api.Pair) api.Value        { return api.Value{Kind: api.Dict, D: d} }
func pair(k string, v api.Value) api.Pair { return api.Pair{Key: k, V: v} }

func stream(s string, d ...api.Pair) api.Value {
	return api.Value{Kind: api.Stream, S: s, D: d}
}

func object(n, g int, v api.Value) api.Object { return api.Object{N: n, G: g, V: v} }

// nested is a value within so many lists.
func nested(v api.Value, lists int) api.Value {
	for range lists {
		v = list(v)
	}
	return v
}

// exact tells whether two values have just the same fields; nil and empty lists are the same.
func exact(a, b api.Value) bool {
	return a.Kind == b.Kind && a.N == b.N && a.G == b.G && a.S == b.S &&
		slices.EqualFunc(a.L, b.L, exact) &&
		slices.EqualFunc(a.D, b.D, func(x, y api.Pair) bool { return x.Key == y.Key && exact(x.V, y.V) })
}

// exactFrame tells whether two frames have just the same fields.
func exactFrame(a, b api.Frame) bool {
	return a.At == b.At && a.End == b.End && a.Object.N == b.Object.N && a.Object.G == b.Object.G && exact(a.Object.V, b.Object.V)
}

// copied is a value in memory of its own.
func copied(v api.Value) api.Value {
	c := v
	c.S = strings.Clone(v.S)
	c.L, c.D = nil, nil
	for _, e := range v.L {
		c.L = append(c.L, copied(e))
	}
	for _, p := range v.D {
		c.D = append(c.D, api.Pair{Key: strings.Clone(p.Key), V: copied(p.V)})
	}
	return c
}

// short tells anything for a message.
func short(x any) string { return fmt.Sprintf("%.300s", fmt.Sprintf("%.90q", fmt.Sprint(x))) }

func newRandom(seed uint64) *rand.Rand { return rand.New(rand.NewPCG(seed, 20)) }

// oneOf tells any of some.
func oneOf[T any](r *rand.Rand, some ...T) T { return some[r.IntN(len(some))] }

// some tells a text of any of the letters.
func some(r *rand.Rand, letters string, length int) string {
	s := make([]byte, length)
	for i := range s {
		s[i] = letters[r.IntN(len(letters))]
	}
	return string(s)
}

// bytes are all bytes, rising.
func bytes() string {
	s := make([]byte, 256)
	for i := range s {
		s[i] = byte(i)
	}
	return string(s)
}

// one is the text of one byte.
func one(c int) string { return string([]byte{byte(c)}) }

// lists are all lists of names of at most so many, the shorter ahead.
func lists(most int) [][]string {
	all := [][]string{nil}
	begin := 0
	for range most {
		end := len(all)
		for _, shorter := range all[begin:end] {
			for _, name := range []string{hexName, runsName, deflateName} {
				all = append(all, append(slices.Clone(shorter), name))
			}
		}
		begin = end
	}
	return all
}

// allowed tells whether there may be rows within these names.
func allowed(names []string, columns int) bool {
	return columns == 0 || len(names) > 0 && names[len(names)-1] == deflateName
}

// Second tellings of the words.

// printAgain is a second telling of P20.2: a stream's dictionary is put together of texts.
func printAgain(o api.Object, names []string, columns int) (string, api.Errno) {
	if o.N <= 0 || o.N > maxNum || o.G < 0 || o.G > maxGen {
		return "", api.ErrRange
	}
	if code := value.Check(o.V, true); code != api.OK {
		return "", code
	}
	head := fmt.Sprintf("%d %d obj\n", o.N, o.G)
	if o.V.Kind != api.Stream {
		told, _ := write.Text(o.V)
		return head + told + "\nendobj\n", api.OK
	}
	told := map[string]string{}
	for _, p := range o.V.D {
		if p.V.Kind == api.Null {
			continue
		}
		if slices.Contains(reserved(), p.Key) {
			return "", api.ErrKey
		}
		told[p.Key], _ = write.Text(p.V)
	}
	coded, code := coat.Encode(names, columns, o.V.S)
	if code != api.OK {
		return "", code
	}
	told["Length"] = fmt.Sprint(len(coded))
	if len(names) > 0 {
		told["Filter"] = "[/" + strings.Join(names, " /") + "]"
	}
	if columns != 0 {
		told["DecodeParms"] = fmt.Sprintf("<</Columns %d /Predictor 12>>", columns)
	}
	var keys, pairs []string
	for key := range told {
		keys = append(keys, key)
	}
	slices.Sort(keys)
	for _, key := range keys {
		pairs = append(pairs, write.Name(key)+" "+told[key])
	}
	return head + "<<" + strings.Join(pairs, " ") + ">>\nstream\n" + coded + "\nendstream\nendobj\n", api.OK
}

// walk goes through a text, whose rest is what is not read yet, and ends by a panic with the code of what is wrong.
type walk struct{ rest string }

func must(ok bool, code api.Errno) {
	if !ok {
		panic(code)
	}
}

// sign tells the next token.
func (w *walk) sign() api.Token {
	t, code := token.Next(w.rest, 0)
	must(code == api.OK, code)
	must(t.Kind != api.End, api.ErrShort)
	w.rest = w.rest[t.End:]
	return t
}

func (w *walk) number() int {
	t := w.sign()
	must(t.Kind == api.Number, api.ErrForm)
	return t.N
}

func (w *walk) word(among ...string) string {
	t := w.sign()
	must(t.Kind == api.Word && slices.Contains(among, t.S), api.ErrForm)
	return t.S
}

// stream tells the stream whose dictionary was read, from behind the word.
func (w *walk) stream(d map[string]api.Value) string {
	rest, ended := strings.CutPrefix(w.rest, "\r\n")
	if !ended {
		rest, ended = strings.CutPrefix(w.rest, "\n")
	}
	must(ended, api.ErrForm)
	length := d["Length"]
	must(length.Kind == api.Int && length.N >= 0, api.ErrForm)
	must(length.N <= maxFile, api.ErrBig)
	must(length.N <= len(rest), api.ErrShort)
	coded := rest[:length.N]
	w.rest = rest[length.N:]
	w.word("endstream")
	w.word("endobj")
	var names []string
	switch filter := d["Filter"]; filter.Kind {
	case api.Null:
	case api.Name:
		names = append(names, filter.S)
	default:
		must(filter.Kind == api.List, api.ErrFilter)
		for _, e := range filter.L {
			must(e.Kind == api.Name, api.ErrFilter)
			names = append(names, e.S)
		}
	}
	columns := 0
	if parms := d["DecodeParms"]; parms.Kind != api.Null {
		must(parms.Kind == api.Dict, api.ErrFilter)
		held := pairsOf(parms)
		must(held["Columns"].Kind == api.Int && held["Columns"].N >= 1, api.ErrFilter)
		must(held["Predictor"].Kind == api.Int && slices.Contains([]int{10, 11, 12, 13, 14, 15}, held["Predictor"].N), api.ErrFilter)
		columns = held["Columns"].N
	}
	told, code := coat.Decode(names, columns, coded, maxData)
	must(code == api.OK, code)
	return told
}

// pairsOf are the pairs of a dictionary that was parsed.
func pairsOf(v api.Value) map[string]api.Value {
	held := map[string]api.Value{}
	for _, p := range v.D {
		held[p.Key] = p.V
	}
	return held
}

// readAgain is a second telling of P20.3.
func readAgain(s string, at int) (f api.Frame, code api.Errno) {
	defer func() {
		if wrong := recover(); wrong != nil {
			f, code = api.Frame{}, wrong.(api.Errno)
		}
	}()
	w := walk{rest: s[min(max(at, 0), len(s)):]}
	first, _ := token.Next(s, at)
	n, g := w.number(), w.number()
	w.word("obj")
	must(n >= 1 && n <= maxNum && g >= 0 && g <= maxGen, api.ErrRange)
	v, end, code := parse.Value(w.rest, 0)
	must(code == api.OK, code)
	w.rest = w.rest[end:]
	ends := []string{"endobj"}
	if v.Kind == api.Dict {
		ends = append(ends, "stream")
	}
	if w.word(ends...) == "stream" {
		held := pairsOf(v)
		pairs := slices.DeleteFunc(slices.Clone(v.D), func(p api.Pair) bool { return slices.Contains(reserved(), p.Key) })
		v = stream(w.stream(held), pairs...)
	}
	return api.Frame{Object: object(n, g, v), At: first.At, End: len(s) - len(w.rest)}, api.OK
}

// checkPrint wants what Print answers.
func checkPrint(t *testing.T, o api.Object, names []string, columns int, want string, code api.Errno) {
	t.Helper()
	if got, c := frame.Print(o, names, columns); got != want || c != code {
		t.Fatalf("Print of %s, %.60q, %d: %.200q, %d; wanted %.200q, %d", short(o), names, columns, got, c, want, code)
	}
}

// checkPrintAgain holds Print against the second telling, and tells what it answers.
func checkPrintAgain(t *testing.T, o api.Object, names []string, columns int) (string, api.Errno) {
	t.Helper()
	want, code := printAgain(o, names, columns)
	checkPrint(t, o, names, columns, want, code)
	return want, code
}

// checkRead wants what Read answers.
func checkRead(t *testing.T, s string, at int, want api.Frame, code api.Errno) {
	t.Helper()
	if got, c := frame.Read(s, at); !exactFrame(got, want) || c != code {
		t.Fatalf("Read of %.200q (%d bytes) at %d: %s, %d; wanted %s, %d", s, len(s), at, short(got), c, short(want), code)
	}
}

// checkReadAgain holds Read against the second telling, and tells its code.
func checkReadAgain(t *testing.T, s string, at int) api.Errno {
	t.Helper()
	want, code := readAgain(s, at)
	checkRead(t, s, at, want, code)
	return code
}

// checkIs wants that a text, which begins and ends with a frame's tokens, is read as an object, wherever it stands.
func checkIs(t *testing.T, s string, want api.Object) {
	t.Helper()
	checkRead(t, s, 0, api.Frame{Object: want, At: 0, End: len(s)}, api.OK)
	if again, code := readAgain(s, 0); !exact(again.Object.V, want.V) || code != api.OK {
		t.Fatalf("%.200q: the second telling tells %s, %d", s, short(again), code)
	}
	for _, ahead := range []string{"", "\n", " % a note\r\n\t", "%\n", "\x00"} {
		for _, outside := range []string{"", "x", "(", "7 0 obj 8 endobj"} {
			for _, behind := range []string{"", "\n", " % a note", ")", "/", "\n7 0 obj 8 endobj"} {
				begin := len(outside) + len(ahead)
				checkRead(t, outside+ahead+s+behind, len(outside), api.Frame{Object: want, At: begin, End: begin + len(s)}, api.OK)
			}
		}
	}
}

// checkWrong wants that a text is refused, wherever it stands.
func checkWrong(t *testing.T, s string, code api.Errno) {
	t.Helper()
	checkRead(t, s, 0, api.Frame{}, code)
	if _, again := readAgain(s, 0); again != code {
		t.Fatalf("%.200q: the second telling tells %d", s, again)
	}
	for _, outside := range []string{"x", "%", "1 0 obj 2 endobj", "(", " 5"} {
		checkRead(t, outside+s, len(outside), api.Frame{}, code)
		checkRead(t, outside+"\t%\r"+s, len(outside), api.Frame{}, code)
	}
}

// P20.1

func TestReserved(t *testing.T) {
	for _, key := range reserved() {
		if !frame.Reserved(key) {
			t.Errorf("%q is not", key)
		}
		others := []string{strings.ToLower(key), strings.ToUpper(key), "/" + key, key + key, key + "\x00", " " + key, key + " "}
		for at := range key {
			others = append(others, key[:at], key[at+1:], key[:at]+key[at+1:], key[:at]+strings.ToUpper(key[at:]))
			for c := range 256 {
				others = append(others, key[:at]+one(c)+key[at:], key[:at]+one(c)+key[at+1:])
			}
		}
		for _, other := range others {
			if other != key && frame.Reserved(other) {
				t.Errorf("%q is", other)
			}
		}
	}
	for _, key := range []string{"", "A", "Type", "Size", "Columns", "Predictor", "Filters", "FFilter", "F", "DL", "Parms", "Decode", "FilterLength", "LengthFilter", "Length1", "DecodeParams", hexName, "obj", "\x00", strings.Repeat("Length", 1000)} {
		if frame.Reserved(key) {
			t.Errorf("%q is", key)
		}
	}
	for _, a := range reserved() {
		for _, b := range reserved() {
			if frame.Reserved(a + b) {
				t.Errorf("%q is", a+b)
			}
		}
	}
}

// P20.2: what is printed

func TestTheExamples(t *testing.T) {
	seven, ab := object(3, 0, number(7)), object(3, 0, stream("ab"))
	checkPrint(t, seven, nil, 0, "3 0 obj\n7\nendobj\n", api.OK)
	checkPrint(t, ab, nil, 0, "3 0 obj\n<</Length 2>>\nstream\nab\nendstream\nendobj\n", api.OK)
	checkIs(t, "3 0 obj\n7\nendobj", seven)
	checkIs(t, "3 0 obj\n<</Length 2>>\nstream\nab\nendstream\nendobj", ab)
}

// printed are values that are no streams, and what is printed of them.
func printed() map[string]api.Value {
	return map[string]api.Value{
		"null": null, "true": boolean(1), "false": boolean(0), "0": number(0), "-1": number(-1), "2147483647": number(maxInt), "-2147483647": number(-maxInt),
		"/": name(""), "/Length": name("Length"), "/A#23": name("A#"), "/endobj": name("endobj"), "()": text(""), "(endobj)": text("endobj"), "(\\(a)": text("(a"), "<0A>": text("\n"), "(1 0 obj)": text("1 0 obj"),
		"5 0 R": link(5, 0), "8388607 65535 R": link(maxNum, maxGen), "[]": list(), "[1 2 0 R null]": list(number(1), link(2, 0), null), "[[[]]]": nested(list(), 2),
		"<<>>": dict(), "<</A 1>>": dict(pair("A", number(1))), "<</Length 1>>": dict(pair("Length", number(1))),
		"<</DecodeParms 1 /Filter 2 /Length 3>>":      dict(pair("DecodeParms", number(1)), pair("Filter", number(2)), pair("Length", number(3))),
		"<</A <</Length (x)>> /B [/Filter /stream]>>": dict(pair("A", dict(pair("Length", text("x")))), pair("B", list(name("Filter"), name("stream")))),
	}
}

func TestPrintOfEachKind(t *testing.T) {
	for told, v := range printed() {
		checkPrint(t, object(1, 0, v), nil, 0, "1 0 obj\n"+told+"\nendobj\n", api.OK)
		checkPrint(t, object(maxNum, maxGen, v), nil, 0, "8388607 65535 obj\n"+told+"\nendobj\n", api.OK)
		checkIs(t, "12 34 obj\n"+told+"\nendobj", object(12, 34, v))
		checkIs(t, "12 34 obj "+told+" endobj", object(12, 34, v))
	}
	// What is printed is written Plain.
	checkPrint(t, object(2, 1, dict(pair("B", number(1)), pair("Length", null), pair("A", number(2)))), nil, 0, "2 1 obj\n<</A 2 /B 1>>\nendobj\n", api.OK)
	checkPrint(t, object(2, 1, list(dict(pair("B", null)))), nil, 0, "2 1 obj\n[<<>>]\nendobj\n", api.OK)
}

func TestPrintOfStreams(t *testing.T) {
	for _, c := range []struct {
		v       api.Value
		names   []string
		columns int
		want    string
	}{
		{stream(""), nil, 0, "<</Length 0>>\nstream\n\nendstream"},
		{stream("\n"), nil, 0, "<</Length 1>>\nstream\n\n\nendstream"},
		{stream("endstream\nendobj\n"), nil, 0, "<</Length 17>>\nstream\nendstream\nendobj\n\nendstream"},
		{stream("ab", pair("A", number(1))), nil, 0, "<</A 1 /Length 2>>\nstream\nab\nendstream"},
		{stream("ab", pair("Z", number(1)), pair("A", null)), nil, 0, "<</Length 2 /Z 1>>\nstream\nab\nendstream"},
		{stream("ab", pair("Lengthy", list()), pair("Lengt", text("x")), pair("length", link(1, 2))), nil, 0, "<</Lengt (x) /Length 2 /Lengthy [] /length 1 2 R>>\nstream\nab\nendstream"},
		{stream("ab", pair("", dict())), nil, 0, "<</ <<>> /Length 2>>\nstream\nab\nendstream"},
		{stream("A\x0f"), []string{hexName}, 0, "<</Filter [/ASCIIHexDecode] /Length 5>>\nstream\n410F>\nendstream"},
		{stream("aaa"), []string{hexName, runsName}, 0, "<</Filter [/ASCIIHexDecode /RunLengthDecode] /Length 7>>\nstream\nFE6180>\nendstream"},
		{stream("aaa"), []string{runsName}, 0, "<</Filter [/RunLengthDecode] /Length 3>>\nstream\n\xfea\x80\nendstream"},
		{stream("a"), []string{deflateName}, 0, "<</Filter [/FlateDecode] /Length 9>>\nstream\n\x78\x01\x4b\x04\x00\x00\x62\x00\x62\nendstream"},
		{stream("", pair("E", null), pair("D", number(1)), pair("G", number(2))), []string{deflateName}, 256, "<</D 1 /DecodeParms <</Columns 256 /Predictor 12>> /Filter [/FlateDecode] /G 2 /Length 8>>\nstream\n\x78\x01\x03\x00\x00\x00\x00\x01\nendstream"},
		{stream("a"), []string{hexName, deflateName}, 1, "<</DecodeParms <</Columns 1 /Predictor 12>> /Filter [/ASCIIHexDecode /FlateDecode] /Length 21>>\nstream\n7801634A040000670064>\nendstream"},
		{stream("", pair("Length", null), pair("Filter", null), pair("DecodeParms", null)), nil, 0, "<</Length 0>>\nstream\n\nendstream"},
		{stream("", pair("DecodeParms", null), pair("Length", null), pair("Filter", null)), []string{hexName}, 0, "<</Filter [/ASCIIHexDecode] /Length 1>>\nstream\n>\nendstream"},
		{stream("", pair("A", dict(pair("Length", number(5)), pair("Filter", number(6))))), nil, 0, "<</A <</Filter 6 /Length 5>> /Length 0>>\nstream\n\nendstream"},
		{stream("", pair("A", name("Length")), pair("B", text("Filter"))), nil, 0, "<</A /Length /B (Filter) /Length 0>>\nstream\n\nendstream"},
	} {
		o := object(7, 8, c.v)
		checkPrint(t, o, c.names, c.columns, "7 8 obj\n"+c.want+"\nendobj\n", api.OK)
		checkPrintAgain(t, o, c.names, c.columns)
		checkIs(t, "7 8 obj\n"+c.want+"\nendobj", object(7, 8, value.Plain(c.v)))
	}
}

func TestPrintNumbersAtTheirEdges(t *testing.T) {
	for _, v := range []api.Value{null, number(5), list(), stream("ab"), dict(pair("Length", null))} {
		for _, n := range []int{1, 2, 9, 10, 65535, 65536, maxNum - 1, maxNum} {
			for _, g := range []int{0, 1, 9, 10, maxGen - 1, maxGen} {
				if _, code := checkPrintAgain(t, object(n, g, v), nil, 0); code != api.OK {
					t.Errorf("%d %d: %d", n, g, code)
				}
			}
			for _, g := range []int{-1, -maxGen, maxGen + 1, 1 << 17, maxInt, 1 << 32, 1<<32 + 1, math.MaxInt, math.MinInt} {
				checkPrint(t, object(n, g, v), nil, 0, "", api.ErrRange)
			}
		}
		for _, n := range []int{0, -1, -maxNum, maxNum + 1, 1 << 24, maxInt, 1<<32 + 1, math.MaxInt, math.MinInt, math.MinInt + 1} {
			for _, g := range []int{0, 1, maxGen, -1, maxGen + 1} {
				checkPrint(t, object(n, g, v), nil, 0, "", api.ErrRange)
			}
		}
	}
}

// wrongValues are values that may not be, streams or within them, and why.
func wrongValues() []struct {
	v    api.Value
	code api.Errno
} {
	type wrong = struct {
		v    api.Value
		code api.Errno
	}
	all := []wrong{
		{api.Value{Kind: -1}, api.ErrKind}, {api.Value{Kind: 9}, api.ErrKind}, {api.Value{N: 1}, api.ErrForm}, {api.Value{Kind: api.Int, S: "x"}, api.ErrForm}, {name("a\x00"), api.ErrForm},
		{boolean(2), api.ErrRange}, {number(maxInt + 1), api.ErrRange}, {number(-maxInt - 1), api.ErrRange}, {link(0, 0), api.ErrRange}, {link(1, maxGen+1), api.ErrRange},
		{name(strings.Repeat("n", maxName+1)), api.ErrLong}, {text(strings.Repeat("t", maxText+1)), api.ErrLong},
		{dict(pair("A", null), pair("A", null)), api.ErrKey}, {dict(pair("\x00", null)), api.ErrKey}, {nested(list(), maxDepth), api.ErrDeep},
	}
	for _, w := range slices.Clone(all) {
		all = append(all, wrong{list(null, w.v), w.code}, wrong{dict(pair("A", null), pair("B", w.v)), w.code}, wrong{stream("ab", pair("B", w.v)), w.code})
	}
	return append(all,
		wrong{list(stream("")), api.ErrKind}, wrong{dict(pair("A", stream(""))), api.ErrKind}, wrong{stream("", pair("A", stream(""))), api.ErrKind},
		wrong{api.Value{Kind: api.Stream, N: 1}, api.ErrForm}, wrong{api.Value{Kind: api.Stream, L: []api.Value{null}}, api.ErrForm}, wrong{api.Value{Kind: api.Dict, S: "x"}, api.ErrForm},
		wrong{stream(strings.Repeat("a", maxData+1)), api.ErrBig}, wrong{stream("", pair("A", nested(list(), maxDepth-1))), api.ErrDeep},
		wrong{stream("", pair("A", null), pair("A", number(1))), api.ErrKey}, wrong{stream("", pair(strings.Repeat("k", maxName+1), null)), api.ErrKey},
	)
}

func TestPrintRefusesWhatMayNotBe(t *testing.T) {
	for _, w := range wrongValues() {
		for _, names := range [][]string{nil, {hexName}, {"x"}} {
			for _, columns := range []int{0, 1, -1, 257} {
				checkPrint(t, object(1, 0, w.v), names, columns, "", w.code)
				checkPrint(t, object(0, 0, w.v), names, columns, "", api.ErrRange)
				checkPrint(t, object(1, -1, w.v), names, columns, "", api.ErrRange)
			}
		}
	}
	// As great as they may be.
	checkPrintAgain(t, object(1, 0, nested(list(), maxDepth-1)), nil, 0)
	checkPrintAgain(t, object(1, 0, stream("", pair("A", nested(list(), maxDepth-2)))), nil, 0)
	checkPrintAgain(t, object(1, 0, stream(strings.Repeat("a", maxData))), nil, 0)
}

func TestPrintRefusesReservedKeys(t *testing.T) {
	wrongNames := [][]string{nil, {hexName}, {deflateName}, {"x"}, {hexName, hexName, hexName, hexName, hexName}}
	for _, key := range reserved() {
		for _, v := range []api.Value{number(0), number(2), boolean(0), name(""), text(""), list(), list(null), dict(), dict(pair("A", null)), link(1, 0)} {
			for _, names := range wrongNames {
				for _, columns := range []int{0, 1, -1, 257} {
					checkPrint(t, object(1, 0, stream("ab", pair(key, v))), names, columns, "", api.ErrKey)
				}
			}
			checkPrint(t, object(1, 0, stream("ab", pair("A", number(1)), pair(key, v))), nil, 0, "", api.ErrKey)
			checkPrint(t, object(1, 0, stream("ab", pair(key, v), pair("Z", number(1)))), nil, 0, "", api.ErrKey)
			checkPrint(t, object(1, 0, stream("ab", pair("A", null), pair(key, v), pair("Z", null))), nil, 0, "", api.ErrKey)
			// What is wrong with the object or its value is told ahead of it.
			checkPrint(t, object(0, 0, stream("ab", pair(key, v))), nil, 0, "", api.ErrRange)
			checkPrint(t, object(1, 0, stream("ab", pair(key, v), pair("Z", boolean(2)))), nil, 0, "", api.ErrRange)
			checkPrint(t, object(1, 0, stream("ab", pair(key, v), pair("Z", odd()))), nil, 0, "", api.ErrKind)
			checkPrint(t, object(1, 0, stream(strings.Repeat("a", maxData+1), pair(key, v))), nil, 0, "", api.ErrBig)
			checkPrint(t, object(1, 0, stream("ab", pair(key, v), pair(key, v))), nil, 0, "", api.ErrKey)
			// It is no key of the stream itself.
			if _, code := checkPrintAgain(t, object(1, 0, stream("ab", pair("A", dict(pair(key, v))))), nil, 0); code != api.OK {
				t.Errorf("%q within: %d", key, code)
			}
			if _, code := checkPrintAgain(t, object(1, 0, dict(pair(key, v))), nil, 0); code != api.OK {
				t.Errorf("%q of a dictionary: %d", key, code)
			}
		}
	}
}

// odd is a value of a kind that is none.
func odd() api.Value { return api.Value{Kind: 10} }

func TestPrintTellsErrorsOfEncode(t *testing.T) {
	v := stream("abc", pair("A", number(1)), pair("Length", null))
	for _, columns := range []int{-1, 257, math.MinInt, math.MaxInt} {
		for _, names := range [][]string{nil, {hexName}, {"x"}, {deflateName}} {
			checkPrint(t, object(1, 0, v), names, columns, "", api.ErrArg)
		}
	}
	for _, names := range [][]string{{""}, {"x"}, {hexName, "asciihexdecode"}, {deflateName, "x", deflateName}, {"/" + hexName}, slices.Repeat([]string{hexName}, 5)} {
		for _, columns := range []int{0, 1, 256} {
			checkPrint(t, object(1, 0, v), names, columns, "", api.ErrFilter)
		}
	}
	for _, names := range [][]string{nil, {hexName}, {runsName}, {deflateName, hexName}} {
		for _, columns := range []int{1, 3, 256} {
			checkPrint(t, object(1, 0, v), names, columns, "", api.ErrFilter)
		}
	}
	for _, columns := range []int{2, 4, 256} {
		checkPrint(t, object(1, 0, v), []string{deflateName}, columns, "", api.ErrForm)
		checkPrint(t, object(1, 0, v), []string{hexName, deflateName}, columns, "", api.ErrForm)
	}
	checkPrint(t, object(0, 0, v), []string{"x"}, -1, "", api.ErrRange)
	// Of what is no stream neither names nor columns are looked at.
	for _, v := range []api.Value{null, number(7), list(), dict(), text("abc")} {
		want, _ := printAgain(object(1, 0, v), nil, 0)
		for _, columns := range []int{0, -1, 2, 257, math.MinInt, math.MaxInt} {
			for _, names := range [][]string{nil, {"x"}, {hexName}, {deflateName}, slices.Repeat([]string{"x"}, 9)} {
				checkPrint(t, object(1, 0, v), names, columns, want, api.OK)
			}
		}
	}
}

func TestPrintByEachList(t *testing.T) {
	for _, names := range lists(4) {
		for _, columns := range []int{0, 1, 2, 3, 256} {
			for _, s := range []string{"", "a", "ab", "abcabc", strings.Repeat("\x00", 768), bytes()} {
				v := stream(s, pair("K", list(number(1))))
				told, code := checkPrintAgain(t, object(4, 5, v), names, columns)
				if code == api.OK {
					checkRead(t, told, 0, api.Frame{Object: object(4, 5, v), End: len(told) - 1}, api.OK)
				} else if allowed(names, columns) && len(s)%max(columns, 1) == 0 {
					t.Errorf("%q, %d, %.40q: %d", names, columns, s, code)
				}
			}
		}
	}
}

// P20.3: the head

func TestReadHeads(t *testing.T) {
	for _, n := range []string{"1", "+1", "01", "0000000001"} {
		for _, g := range []string{"0", "-0", "+0", "000"} {
			checkIs(t, n+" "+g+" obj null endobj", object(1, 0, null))
		}
	}
	checkIs(t, "8388607 65535 obj null endobj", object(maxNum, maxGen, null))
	checkIs(t, "+008388607 +0065535 obj null endobj", object(maxNum, maxGen, null))
	checkIs(t, "1%\n2\x00\t%obj\robj%\nnull%\nendobj", object(1, 2, null))
	checkIs(t, "1 2 obj[]endobj", object(1, 2, list()))
	checkIs(t, "1 2 obj(endobj)endobj", object(1, 2, text("endobj")))
	checkIs(t, "1 2 obj/endobj endobj", object(1, 2, name("endobj")))
	checkIs(t, "1 2 obj<<>>endobj", object(1, 2, dict()))
	checkIs(t, "1 2 obj<0a>endobj", object(1, 2, text("\n")))
	checkIs(t, "1 2 obj 3 endobj", object(1, 2, number(3)))
	checkIs(t, "1 2 obj 3 4 R endobj", object(1, 2, link(3, 4)))
	checkIs(t, "1 2 obj\r\n\r\n3\r\n\r\nendobj", object(1, 2, number(3)))
}

func TestReadNumbersOutOfTheirRange(t *testing.T) {
	for _, n := range []string{"0", "-0", "-1", "8388608", "16777216", "2147483647", "-2147483647", "-8388607"} {
		for _, g := range []string{"0", "1", "65535", "-1", "65536"} {
			checkWrong(t, n+" "+g+" obj null endobj", api.ErrRange)
		}
	}
	for _, n := range []string{"1", "8388607"} {
		for _, g := range []string{"-1", "65536", "131072", "2147483647", "-2147483647", "-65535"} {
			checkWrong(t, n+" "+g+" obj null endobj", api.ErrRange)
		}
	}
	for _, head := range []string{"0 0", "1 -1", "8388608 65536"} {
		// It is told behind all three tokens, and ahead of the value.
		for s, code := range map[string]api.Errno{
			"": api.ErrShort, " ": api.ErrShort, "%": api.ErrShort, " objx": api.ErrForm, " R": api.ErrForm, " ob": api.ErrForm, "/obj": api.ErrForm, "(obj)": api.ErrForm, " 0": api.ErrForm, " )": api.ErrForm, " (": api.ErrShort, " 2147483648": api.ErrRange,
			" obj": api.ErrRange, " obj ": api.ErrRange, " obj)": api.ErrRange, " obj(": api.ErrRange, " obj endobj": api.ErrRange, " obj 2147483648": api.ErrRange, " obj null": api.ErrRange, " obj null x": api.ErrRange, " obj<<>>stream": api.ErrRange, " obj" + strings.Repeat("[", 70): api.ErrRange,
			" " + strings.Repeat("w", maxName+1): api.ErrLong,
		} {
			checkWrong(t, head+s, code)
		}
	}
}

// tokenErrors are texts whose first token is wrong, and why.
func tokenErrors() map[string]api.Errno {
	return map[string]api.Errno{
		"2147483648": api.ErrRange, "-2147483648": api.ErrRange, "99999999999999999999999": api.ErrRange, "/#": api.ErrForm, "/A#4": api.ErrForm, "/#00": api.ErrForm, "/" + strings.Repeat("n", maxName+1): api.ErrLong,
		"(": api.ErrShort, "(a": api.ErrShort, "<": api.ErrShort, "<4": api.ErrShort, "<g>": api.ErrForm, "(" + strings.Repeat("t", maxText+1): api.ErrLong, strings.Repeat("w", maxName+1): api.ErrLong,
		")": api.ErrForm, ">": api.ErrForm, "{": api.ErrForm, "}": api.ErrForm,
	}
}

// otherTokens are tokens of all kinds.
func otherTokens() []string {
	return []string{"1", "0", "-1", "2147483647", "/A", "/obj", "/endobj", "(t)", "(obj)", "(endobj)", "<0A>", "[", "]", "[]", "<<", ">>", "<<>>", "R", "obj", "endobj", "stream", "endstream", "xref", "trailer", "true", "false", "null", "Obj", "OBJ", "ob", "objx", "xobj", "endob", "endobjx", "Endobj", "end", "1obj", "obj1", "obj#", "1.0"}
}

func TestReadWrongTokensOfTheHead(t *testing.T) {
	for s, code := range tokenErrors() {
		behind := code
		if s == "<" || s == "<4" {
			// What stands behind it stands among its digits, and is none.
			behind = api.ErrForm
		}
		for _, ahead := range []string{"", "1 ", "1 0 ", "0 ", "0 -1 ", "8388608 65536 "} {
			checkWrong(t, ahead+s, code)
			checkWrong(t, ahead+s+" obj null endobj", behind)
		}
	}
	for _, s := range otherTokens() {
		if first, _ := token.Next(s, 0); first.Kind != api.Number {
			checkWrong(t, s, api.ErrForm)
			checkWrong(t, s+" 0 obj null endobj", api.ErrForm)
			checkWrong(t, "1 "+s, api.ErrForm)
			checkWrong(t, "1 "+s+" obj null endobj", api.ErrForm)
			checkWrong(t, "0 "+s+" obj null endobj", api.ErrForm)
		}
		if s != "obj" {
			checkWrong(t, "1 0 "+s, api.ErrForm)
			checkWrong(t, "1 0 "+s+" obj null endobj", api.ErrForm)
			checkWrong(t, "0 0 "+s+" null endobj", api.ErrForm)
		}
	}
	for _, s := range []string{"", " ", "\x00\t\n\f\r ", "%", "% 1 0 obj null endobj", "%\r\n", "1", "1 ", "1 %", "1 0", "1 0 ", "1 0 %\n", "-1", "0 0", "-1 -1 "} {
		checkWrong(t, s, api.ErrShort)
	}
}

// P20.3: the value, and what is behind it

func TestReadWrongValues(t *testing.T) {
	for s, code := range map[string]api.Errno{
		"": api.ErrShort, " ": api.ErrShort, "[": api.ErrShort, "[1": api.ErrShort, "<<": api.ErrShort, "<</A": api.ErrShort, "<</A>>": api.ErrForm, "<<1": api.ErrForm, "]": api.ErrForm, ">>": api.ErrForm, "<</A 1/A 2>>": api.ErrKey, "<</Length null/Length 1>>": api.ErrKey,
		" endobj": api.ErrForm, " obj": api.ErrForm, " stream": api.ErrForm, " R": api.ErrForm, " nul": api.ErrForm, " 0 0 R": api.ErrRange, " 1 65536 R": api.ErrRange, " 8388608 0 R": api.ErrRange, strings.Repeat("[", maxDepth+1): api.ErrDeep, strings.Repeat("<</A", maxDepth+1): api.ErrDeep,
	} {
		checkWrong(t, "1 0 obj"+s, code)
		if code != api.ErrShort {
			checkWrong(t, "1 0 obj"+s+" endobj", code)
			checkWrong(t, "1 0 obj"+s+" )", code)
			checkWrong(t, "1 0 obj"+s+" 2147483648", code)
		}
	}
	for s, code := range tokenErrors() {
		checkWrong(t, "1 0 obj "+s, code)
		checkWrong(t, "1 0 obj ["+s, code)
		checkWrong(t, "1 0 obj <</A "+s, code)
	}
}

// allKinds are texts of values of each kind.
func allKinds() []string {
	return []string{"null", "true", "false", "1", "-1", "/A", "(t)", "<0A>", "[]", "[1 0 R]", "<<>>", "<</A 1>>", "<</Length 0>>", "1 0 R"}
}

func TestReadWrongTokensBehindTheValue(t *testing.T) {
	for _, v := range allKinds() {
		for s, code := range tokenErrors() {
			checkWrong(t, "1 0 obj "+v+" "+s, code)
		}
		for _, s := range []string{"", " ", "%", "%endobj", "\n% endobj"} {
			checkWrong(t, "1 0 obj "+v+s, api.ErrShort)
		}
		for _, s := range otherTokens() {
			if s == "endobj" || s == "stream" && v[0] == '<' && v != "<0A>" {
				continue
			}
			wrong := "1 0 obj " + v + " " + s
			checkWrong(t, wrong, api.ErrForm)
			checkWrong(t, wrong+" endobj", api.ErrForm)
		}
	}
	// Numbers that make no link leave what is behind the first.
	checkWrong(t, "1 0 obj 2 0", api.ErrForm)
	checkWrong(t, "1 0 obj 2 0 endobj", api.ErrForm)
	checkWrong(t, "1 0 obj 2 0 obj 3 endobj", api.ErrForm)
	checkWrong(t, "1 0 obj 2 2147483648 R endobj", api.ErrRange)
	checkIs(t, "1 0 obj 2 0 R endobj", object(1, 0, link(2, 0)))
}

func TestReadOfNoStreamIsNoStream(t *testing.T) {
	for _, v := range []string{"null", "true", "1", "/A", "(t)", "<0A>", "[]", "[<</Length 1>>]", "1 0 R"} {
		checkWrong(t, "1 0 obj "+v+" stream\nx\nendstream\nendobj", api.ErrForm)
		checkWrong(t, "1 0 obj "+v+" stream", api.ErrForm)
	}
	for s, want := range map[string]api.Value{
		"<</Length 1>>": dict(pair("Length", number(1))), "<</Length null /Filter 7>>": dict(pair("Filter", number(7))), "<</DecodeParms [] /Length -1>>": dict(pair("DecodeParms", list()), pair("Length", number(-1))),
	} {
		checkIs(t, "1 0 obj "+s+" endobj", object(1, 0, want))
	}
}

func TestReadEndsAtTheFirstEnd(t *testing.T) {
	for _, behind := range []string{" endobj", "\nendobj\n", ")", "(", "<", "{", "/#", "[", " stream\n", "%", " 2 0 obj 3 endobj", " 2147483648", "<<>>", " " + strings.Repeat("w", maxName+1)} {
		for _, s := range []string{"1 0 obj 7 endobj", "1 0 obj <</Length 1>> endobj", "1 0 obj <</Length 1>> stream\nx\nendstream\nendobj"} {
			want, code := readAgain(s, 0)
			if code != api.OK || want.End != len(s) {
				t.Fatalf("%q: %d, %d", s, want.End, code)
			}
			checkRead(t, s+behind, 0, want, api.OK)
		}
	}
}

// P20.3: streams

func TestReadLineEndsAheadOfBytes(t *testing.T) {
	want := object(1, 0, stream("ab"))
	for _, between := range []string{" ", "\n", "\r\n", "", "\t%\n", "%stream\n"} {
		for _, end := range []string{"\n", "\r\n"} {
			checkIs(t, "1 0 obj<</Length 2>>"+between+"stream"+end+"ab\nendstream\nendobj", want)
		}
	}
	for _, end := range []string{"\r", " \n", " ", "\t\n", "%\n", "\x00\n", "\f\n", "\r\r\n", "%a\r\n", "\x00", "/", "(", "[", "<<"} {
		checkWrong(t, "1 0 obj<</Length 2>>stream"+end+"ab\nendstream\nendobj", api.ErrForm)
		checkWrong(t, "1 0 obj<</Length -2>>stream"+end+"ab\nendstream\nendobj", api.ErrForm)
		checkWrong(t, "1 0 obj<</Length 99999999>>stream"+end+"ab\nendstream\nendobj", api.ErrForm)
		checkWrong(t, "1 0 obj<</Length 200>>stream"+end+"ab\nendstream\nendobj", api.ErrForm)
		checkWrong(t, "1 0 obj<</Length 2>>stream"+end, api.ErrForm)
	}
	checkWrong(t, "1 0 obj<</Length 2>>stream", api.ErrForm)
	checkWrong(t, "1 0 obj<</Length 0>>stream", api.ErrForm)
	checkWrong(t, "1 0 obj<</Length 67108865>>stream", api.ErrForm)
	checkWrong(t, "1 0 obj<<>>stream", api.ErrForm)
	checkWrong(t, "1 0 obj<</Length 0>>stream\r", api.ErrForm)
	// One end of a line is passed, and no more.
	checkIs(t, "1 0 obj<</Length 2>>stream\n\n\nendstream endobj", object(1, 0, stream("\n\n")))
	checkIs(t, "1 0 obj<</Length 2>>stream\r\n\r\nendstream endobj", object(1, 0, stream("\r\n")))
	checkIs(t, "1 0 obj<</Length 2>>stream\n\r\nendstream endobj", object(1, 0, stream("\r\n")))
	checkIs(t, "1 0 obj<</Length 1>>stream\n\r\nendstream endobj", object(1, 0, stream("\r")))
	checkIs(t, "1 0 obj<</Length 1>>stream\r\n\n\nendstream endobj", object(1, 0, stream("\n")))
	checkIs(t, "1 0 obj<</Length 0>>stream\nendstream endobj", object(1, 0, stream("")))
	checkIs(t, "1 0 obj<</Length 0>>stream\r\n\r\nendstream endobj", object(1, 0, stream("")))
}

func TestReadLengths(t *testing.T) {
	begin, end := "1 0 obj<</Length ", ">>stream\nab\nendstream\nendobj"
	for _, length := range []string{"2", "+2", "002", "2%\n"} {
		checkIs(t, begin+length+end, object(1, 0, stream("ab")))
	}
	for _, length := range []string{"-1", "-2", "-2147483647", "null", "true", "false", "/A", "(2)", "<02>", "[2]", "[]", "<<>>", "<</Length 2>>", "2 0 R", "1 0 R"} {
		checkWrong(t, begin+length+end, api.ErrForm)
		checkWrong(t, begin+length+">>stream\n", api.ErrForm)
		checkWrong(t, begin+length+">>stream\r\n(", api.ErrForm)
		checkWrong(t, begin+length+"/Filter 1>>stream\n", api.ErrForm)
	}
	for _, pairs := range []string{"", "/length 2", "/L 2", "/Len 2", "/Lengt 2", "/Lengths 2", "/LENGTH 2", "/A<</Length 2>>", "/A[/Length 2]", "/A/Length", "/Filter[]"} {
		checkWrong(t, "1 0 obj<<"+pairs+end, api.ErrForm)
	}
	checkIs(t, "1 0 obj<</Leng#74h 2"+end, object(1, 0, stream("ab")))
	for _, length := range []string{"67108865", "67108866", "99999999", "2147483647", "134217728"} {
		checkWrong(t, begin+length+end, api.ErrBig)
		checkWrong(t, begin+length+"/Filter 1"+end, api.ErrBig)
		checkWrong(t, begin+length+">>stream\n", api.ErrBig)
	}
	for _, length := range []string{"67108864", "67108863", "1000", "20", "21"} {
		checkWrong(t, begin+length+end, api.ErrShort)
		checkWrong(t, begin+length+"/Filter 1"+end, api.ErrShort)
		checkWrong(t, begin+length+">>stream\n", api.ErrShort)
	}
	// Each length there is, and more: behind as many bytes the words must stand.
	const rest = "ab\nendstream\nendobj"
	for length := range len(rest) + 3 {
		s := begin + fmt.Sprint(length) + end
		switch {
		case length == 2 || length == 3:
			checkIs(t, s, object(1, 0, stream(rest[:length])))
		case length >= len(rest):
			checkWrong(t, s, api.ErrShort)
		default:
			checkWrong(t, s, api.ErrForm)
		}
	}
}

func TestReadWordsBehindBytes(t *testing.T) {
	begin := "1 0 obj<</Length 2>>stream\nab"
	want := object(1, 0, stream("ab"))
	for _, ahead := range []string{"", " ", "\n", "\r\n", "\r", "%\n", "\x00", "\n\n%endstream\n"} {
		for _, between := range []string{" ", "\n", "\r\n", "%\n", "\x00%a\r%b\n\n"} {
			checkIs(t, begin+ahead+"endstream"+between+"endobj", want)
		}
	}
	for _, s := range []string{"", " ", "\n", "%endstream endobj", "\nendstream", "\nendstream ", "endstream%\n", "\nendstream\n%endobj"} {
		checkWrong(t, begin+s, api.ErrShort)
	}
	for s, code := range tokenErrors() {
		checkWrong(t, begin+"\n"+s, code)
		checkWrong(t, begin+"\nendstream "+s, code)
	}
	for _, s := range append(otherTokens(), "endstreams", "Endstream", "endstrea", "xendstream", "end stream", "endstreamendobj", "streamend") {
		if s != "endstream" {
			checkWrong(t, begin+"\n"+s, api.ErrForm)
			checkWrong(t, begin+"\n"+s+" endobj", api.ErrForm)
			checkWrong(t, begin+"\n"+s+" endstream endobj", api.ErrForm)
		}
		if s != "endobj" {
			checkWrong(t, begin+"\nendstream "+s, api.ErrForm)
			checkWrong(t, begin+"\nendstream "+s+" endobj", api.ErrForm)
		}
	}
	checkWrong(t, begin+"\nendobj", api.ErrForm)
	checkWrong(t, begin+"\nendobj endstream", api.ErrForm)
}

func TestReadBytesOfAnyForm(t *testing.T) {
	for _, s := range []string{bytes(), "endstream", "\nendstream\nendobj\n", "1 0 obj 2 endobj", ">>", "(", "%", "% ", "\r", "\n", "\r\n", "stream\n", strings.Repeat("\x00", 1000), "\nendstream"} {
		for _, end := range []string{"\n", "\r\n"} {
			checkIs(t, fmt.Sprintf("1 0 obj<</Length %d>>stream%s%s\nendstream\nendobj", len(s), end, s), object(1, 0, stream(s)))
		}
	}
	for c := range 256 {
		checkIs(t, "1 0 obj<</Length 1>>stream\n"+one(c)+" endstream\nendobj", object(1, 0, stream(one(c))))
		checkIs(t, "1 0 obj<</Length 2>>stream\r\n"+one(c)+one(c)+"\nendstream\nendobj", object(1, 0, stream(one(c)+one(c))))
		checkReadAgain(t, "1 0 obj<</Length 0>>stream\n"+one(c)+"endstream\nendobj", 0)
		checkReadAgain(t, "1 0 obj<</Length 0>>stream\nendstream"+one(c)+"endobj", 0)
		checkReadAgain(t, "1 0 obj<</Length 0>>stream"+one(c)+"endstream endobj", 0)
		checkReadAgain(t, "1 0 obj<</Length 0>>stream\r"+one(c)+"endstream endobj", 0)
	}
}

// framed is a stream as it stands in a file: its pairs but the length, and its bytes.
func framed(pairs, coded string) string {
	return fmt.Sprintf("1 0 obj <<%s /Length %d>> stream\n%s\nendstream endobj", pairs, len(coded), coded)
}

func TestReadFilters(t *testing.T) {
	want := object(1, 0, stream("aaa"))
	const wrapped = "\x78\x01\x4b\x4c\x4c\x04\x00\x02\x49\x01\x24"
	for pairs, coded := range map[string]string{
		"": "aaa", "/Filter null": "aaa", "/Filter[]": "aaa", "/Filter [ ] /DecodeParms null": "aaa",
		"/Filter/ASCIIHexDecode": "616161>", "/Filter[/ASCIIHexDecode]": "61 61 61 >", "/Filter /RunLengthDecode": "\xfea\x80", "/Filter/ASCII#48exDecode": "616161>", "/Fil#74er/ASCIIHexDecode": "616161>",
		"/Filter[/ASCIIHexDecode/RunLengthDecode]": "FE6180>", "/Filter [/RunLengthDecode /ASCIIHexDecode]": "\x06616161>\x80", "/Filter/FlateDecode": wrapped, "/Filter[/FlateDecode]/DecodeParms null": wrapped,
	} {
		checkIs(t, framed(pairs, coded), want)
	}
	for _, filter := range []string{"1", "0", "-1", "true", "false", "(ASCIIHexDecode)", "<>", "<<>>", "<</A/ASCIIHexDecode>>", "1 0 R", "[null]", "[1]", "[[]]", "[(ASCIIHexDecode)]", "[<<>>]", "[1 0 R]", "[/ASCIIHexDecode null]", "[null/ASCIIHexDecode]", "[/ASCIIHexDecode[/ASCIIHexDecode]]", "[[/ASCIIHexDecode]]", "[/ASCIIHexDecode/ASCIIHexDecode true]",
		"/", "/X", "/asciihexdecode", "/AHx", "/LZWDecode", "[/]", "[/X]", "[/ASCIIHexDecode/X]", "[/ASCIIHexDecode/ASCIIHexDecode/ASCIIHexDecode/ASCIIHexDecode/ASCIIHexDecode]"} {
		checkWrong(t, framed("/Filter "+filter, "616161>"), api.ErrFilter)
		checkWrong(t, framed("/Filter "+filter, ""), api.ErrFilter)
		checkWrong(t, framed("/Filter "+filter+"/DecodeParms<</Columns 1/Predictor 12>>", "616161>"), api.ErrFilter)
	}
	for s, code := range map[string]api.Errno{
		framed("/Filter/ASCIIHexDecode", "61"): api.ErrShort, framed("/Filter/ASCIIHexDecode", "6x"): api.ErrForm, framed("/Filter/RunLengthDecode", "\xfea"): api.ErrShort, framed("/Filter/RunLengthDecode", "\x80\x80"): api.ErrForm,
		framed("/Filter/FlateDecode", wrapped[:10]+"\x25"): api.ErrSum, framed("/Filter/FlateDecode", wrapped[:10]): api.ErrShort, framed("/Filter/FlateDecode", "aaa"): api.ErrForm, framed("/Filter/FlateDecode", wrapped+"a"): api.ErrForm,
		framed("/Filter[/ASCIIHexDecode/RunLengthDecode]", "FE61>"): api.ErrShort, framed("/Filter[/RunLengthDecode/ASCIIHexDecode]", "\x80"): api.ErrShort,
	} {
		checkWrong(t, s, code)
	}
}

func TestReadParms(t *testing.T) {
	rows, code := coat.Encode([]string{deflateName}, 2, "abcd")
	if code != api.OK {
		t.Fatal(code)
	}
	want := object(1, 0, stream("abcd"))
	for _, parms := range []string{
		"<</Columns 2/Predictor 10>>", "<</Columns 2/Predictor 11>>", "<</Columns 2/Predictor 12>>", "<</Columns 2/Predictor 13>>", "<</Columns 2/Predictor 14>>", "<</Columns 2/Predictor 15>>",
		"<</Predictor 12/Columns 2>>", "<</Predictor +012/Columns 02>>", "<</Columns 2/Predictor 12/Colors 1/BitsPerComponent null/A[]>>",
	} {
		checkIs(t, framed("/Filter/FlateDecode/DecodeParms"+parms, rows), want)
		checkIs(t, framed("/DecodeParms"+parms+"/Filter[/FlateDecode]", rows), want)
	}
	for _, parms := range []string{
		"1", "0", "true", "/A", "(a)", "()", "[]", "[<</Columns 2/Predictor 12>>]", "[null]", "1 0 R", "<<>>", "<</Columns 2>>", "<</Predictor 12>>", "<</Columns null/Predictor 12>>", "<</Columns 2/Predictor null>>",
		"<</Columns 0/Predictor 12>>", "<</Columns -1/Predictor 12>>", "<</Columns -2147483647/Predictor 12>>", "<</Columns 2/Predictor 9>>", "<</Columns 2/Predictor 16>>", "<</Columns 2/Predictor 0>>", "<</Columns 2/Predictor 1>>", "<</Columns 2/Predictor 2>>", "<</Columns 2/Predictor -12>>", "<</Columns 2/Predictor 2147483647>>",
		"<</Columns true/Predictor 12>>", "<</Columns(2)/Predictor 12>>", "<</Columns[2]/Predictor 12>>", "<</Columns 2 0 R/Predictor 12>>", "<</Columns/A/Predictor 12>>", "<</Columns<<>>/Predictor 12>>",
		"<</Columns 2/Predictor true>>", "<</Columns 2/Predictor(12)>>", "<</Columns 2/Predictor[12]>>", "<</Columns 2/Predictor 12 0 R>>", "<</Columns 2/Predictor/A>>", "<</Columns 2/Predictor<<>>>>",
		"<</columns 2/predictor 12>>", "<</Column 2/Predictors 12>>", "<</A<</Columns 2/Predictor 12>>>>", "<</Columns 257/Predictor 9>>", "<</Columns 0/Predictor 9>>",
	} {
		checkWrong(t, framed("/Filter/FlateDecode/DecodeParms "+parms, rows), api.ErrFilter)
		checkWrong(t, framed("/Filter 7/DecodeParms "+parms, rows), api.ErrFilter)
		checkWrong(t, framed("/DecodeParms "+parms, rows), api.ErrFilter)
	}
	for _, columns := range []string{"257", "258", "65536", "2147483647"} {
		checkWrong(t, framed("/Filter/FlateDecode/DecodeParms<</Predictor 12/Columns "+columns+">>", rows), api.ErrArg)
		checkWrong(t, framed("/Filter/X/DecodeParms<</Predictor 12/Columns "+columns+">>", rows), api.ErrArg)
		checkWrong(t, framed("/DecodeParms<</Predictor 12/Columns "+columns+">>", rows), api.ErrArg)
		checkWrong(t, framed("/Filter 1/DecodeParms<</Predictor 12/Columns "+columns+">>", rows), api.ErrFilter)
	}
	for _, filter := range []string{"", "/Filter[]", "/Filter/ASCIIHexDecode", "/Filter[/FlateDecode/ASCIIHexDecode]", "/Filter/RunLengthDecode"} {
		checkWrong(t, framed(filter+"/DecodeParms<</Predictor 12/Columns 2>>", rows), api.ErrFilter)
	}
	for _, columns := range []string{"1", "3", "4", "256"} {
		checkWrong(t, framed("/Filter/FlateDecode/DecodeParms<</Predictor 12/Columns "+columns+">>", rows), api.ErrForm)
	}
	// Without columns the rows are told as they are.
	checkIs(t, framed("/Filter/FlateDecode", rows), object(1, 0, stream("\x02ab\x02\x02\x02")))
}

func TestReadFiltersBehindTheEnd(t *testing.T) {
	// What is wrong with them is told when all else was read.
	begin := "1 0 obj <</Length 2 "
	for _, pairs := range []string{"/Filter 1", "/Filter/X", "/Filter[1]", "/DecodeParms 1", "/DecodeParms<<>>", "/DecodeParms<</Columns 257/Predictor 12>>", "/Filter/ASCIIHexDecode", "/Filter/FlateDecode"} {
		for s, code := range map[string]api.Errno{
			">>stream": api.ErrForm, ">>stream\r": api.ErrForm, ">>stream\n": api.ErrShort, ">>stream\nab": api.ErrShort, ">>stream\nab\nendstream": api.ErrShort, ">>stream\nab\nendstream)": api.ErrForm, ">>stream\nab\nendobj": api.ErrForm,
			">>stream\nab\nendstream endstream": api.ErrForm, ">>stream\nabc\nendstream endobj": api.ErrForm, ">>stream\nab 2147483648": api.ErrRange, ">>stream\nab\nendstream (": api.ErrShort, ">>\nobj": api.ErrForm, ">": api.ErrForm,
		} {
			checkWrong(t, begin+pairs+s, code)
		}
		if code := checkReadAgain(t, begin+pairs+">>stream\nab\nendstream endobj", 0); code == api.OK {
			t.Errorf("%q", pairs)
		}
		// And of what is no stream they are nobody's business.
		if code := checkReadAgain(t, begin+pairs+">>endobj", 0); code != api.OK {
			t.Errorf("%q: %d", pairs, code)
		}
	}
	checkWrong(t, "1 0 obj <</Length -1/Filter 1>>stream\nab\nendstream endobj", api.ErrForm)
	checkWrong(t, "1 0 obj <</Filter 1>>stream\nab\nendstream endobj", api.ErrForm)
	checkWrong(t, "1 0 obj <</Filter 1/DecodeParms<</Columns 300/Predictor 12>>/Length 0>>stream\nendstream endobj", api.ErrFilter)
}

func TestReadTellsOtherPairs(t *testing.T) {
	for s, want := range map[string]api.Value{
		"<</B 1/Length 2/A 2/Filter[]>>":                          stream("ab", pair("A", number(2)), pair("B", number(1))),
		"<</Length 2/length 3/Lengths 4>>":                        stream("ab", pair("Lengths", number(4)), pair("length", number(3))),
		"<</Length 2/A null/DecodeParms null/Filter null>>":       stream("ab"),
		"<</A<</Length 5/Filter 6/DecodeParms 7>>/Length 2>>":     stream("ab", pair("A", dict(pair("DecodeParms", number(7)), pair("Filter", number(6)), pair("Length", number(5))))),
		"<</Columns 1/Predictor 2/Length 2>>":                     stream("ab", pair("Columns", number(1)), pair("Predictor", number(2))),
		"<</A 1/DecodeParms null/E 2/Filter[]/G 3/Length 2/M 4>>": stream("ab", pair("A", number(1)), pair("E", number(2)), pair("G", number(3)), pair("M", number(4))),
	} {
		checkIs(t, "9 9 obj"+s+"stream\nab\nendstream endobj", object(9, 9, want))
	}
}

func TestReadOfMostBytes(t *testing.T) {
	most := strings.Repeat("a", maxData)
	checkRead(t, framed("", most), 0, api.Frame{Object: object(1, 0, stream(most)), End: len(framed("", most))}, api.OK)
	checkRead(t, framed("", most+"a"), 0, api.Frame{}, api.ErrBig)
	checkRead(t, strings.TrimSuffix(framed("", most+"a"), "j"), 0, api.Frame{}, api.ErrForm)
	checkRead(t, strings.TrimSuffix(framed("", most+"a"), "endobj"), 0, api.Frame{}, api.ErrShort)
	for _, names := range lists(2)[1:] {
		told, code := frame.Print(object(1, 0, stream(most)), names, 0)
		if code != api.OK {
			t.Fatal(code)
		}
		checkRead(t, told, 0, api.Frame{Object: object(1, 0, stream(most)), End: len(told) - 1}, api.OK)
	}
	// One byte more than may come out.
	coded, _ := coat.Encode([]string{runsName}, 0, most)
	checkRead(t, framed("/Filter/RunLengthDecode", strings.TrimSuffix(coded, "\x80")+"\x00a\x80"), 0, api.Frame{}, api.ErrBig)
	// As many bytes as a file may have.
	wide := strings.Repeat(" ", maxFile-3) + "41>"
	s := framed("/Filter/ASCIIHexDecode", wide)
	checkRead(t, s, 0, api.Frame{Object: object(1, 0, stream("A")), End: len(s)}, api.OK)
	checkRead(t, framed("/Filter/ASCIIHexDecode", wide+" "), 0, api.Frame{}, api.ErrBig)
	checkRead(t, strings.Replace(s, "Length", "length", 1), 0, api.Frame{}, api.ErrForm)
}

func TestReadDeepValues(t *testing.T) {
	for within, code := range map[int]api.Errno{1: api.OK, maxDepth - 1: api.OK, maxDepth: api.OK, maxDepth + 1: api.ErrDeep} {
		s := "1 0 obj" + strings.Repeat("[", within) + strings.Repeat("]", within) + "endobj"
		want := api.Frame{}
		if code == api.OK {
			want = api.Frame{Object: object(1, 0, nested(list(), within-1)), End: len(s)}
		}
		checkRead(t, s, 0, want, code)
		s = "1 0 obj<</Length 0/A " + strings.Repeat("[", within-1) + "1" + strings.Repeat("]", within-1) + ">>stream\nendstream endobj"
		if code == api.OK {
			want = api.Frame{Object: object(1, 0, stream("", pair("A", nested(number(1), within-1)))), End: len(s)}
		}
		checkRead(t, s, 0, want, code)
	}
}

// P20.3: where frames begin and end

func TestReadAtPlaces(t *testing.T) {
	const s = " % a\n12 3 obj 45 endobj\n1 0 obj<</Length 9/A 2 0 R>>stream\n7 0 obj 8\nendstream endobj 5 6 obj[]endobj"
	for at := range len(s) + 1 {
		checkReadAgain(t, s, at)
		checkReadAgain(t, s[:at], 0)
		checkReadAgain(t, s[at:], 0)
	}
	checkRead(t, s, 0, api.Frame{Object: object(12, 3, number(45)), At: 5, End: 23}, api.OK)
	checkRead(t, s, 5, api.Frame{Object: object(12, 3, number(45)), At: 5, End: 23}, api.OK)
	checkRead(t, s, 6, api.Frame{Object: object(2, 3, number(45)), At: 6, End: 23}, api.OK)
	checkRead(t, s, 23, api.Frame{Object: object(1, 0, stream("7 0 obj 8", pair("A", link(2, 0)))), At: 24, End: 85}, api.OK)
	checkRead(t, s, 85, api.Frame{Object: object(5, 6, list()), At: 86, End: 101}, api.OK)
	checkRead(t, s, 101, api.Frame{}, api.ErrShort)
	for _, at := range []int{-1, -2, -7, math.MinInt, math.MinInt + 1, math.MinInt32} {
		checkRead(t, s, at, api.Frame{Object: object(12, 3, number(45)), At: 5, End: 23}, api.OK)
		checkRead(t, "", at, api.Frame{}, api.ErrShort)
		checkRead(t, "x", at, api.Frame{}, api.ErrForm)
	}
	for _, at := range []int{len(s), len(s) + 1, len(s) + 7, math.MaxInt32, math.MaxInt - 1, math.MaxInt} {
		checkRead(t, s, at, api.Frame{}, api.ErrShort)
		checkRead(t, "", at, api.Frame{}, api.ErrShort)
	}
}

func TestReadOneBehindTheOther(t *testing.T) {
	var s strings.Builder
	var wants []api.Object
	for i, v := range []api.Value{number(1), stream("ab"), stream("endobj"), dict(pair("Length", number(7))), stream("", pair("A", null)), link(5, 5), text("\n\nendobj\n")} {
		o := object(i+1, i, v)
		told, code := frame.Print(o, []string{hexName}[:i%2], 0)
		if code != api.OK {
			t.Fatal(code)
		}
		s.WriteString(told)
		wants = append(wants, object(o.N, o.G, value.Plain(v)))
	}
	at := 0
	for _, want := range wants {
		f, code := frame.Read(s.String(), at)
		if code != api.OK || !exactFrame(f, api.Frame{Object: want, At: f.At, End: f.End}) || f.At != at && f.At != at+1 || f.End <= f.At {
			t.Fatalf("at %d: %s, %d; wanted %s", at, short(f), code, short(want))
		}
		at = f.End
	}
	checkRead(t, s.String(), at, api.Frame{}, api.ErrShort)
}

// P20.3: texts of any form

// good are texts that are frames.
func good() []string {
	return []string{
		"3 0 obj\n7\nendobj", "3 0 obj\n<</Length 2>>\nstream\nab\nendstream\nendobj", "12 34 obj[1 2 0 R(x)]endobj", "1 65535 obj <</A/B/Length 3>> endobj", "8388607 1 obj % a\n 5 6 R%\nendobj",
		"7 8 obj<</DecodeParms<</Columns 1/Predictor 12>>/Filter[/ASCIIHexDecode/FlateDecode]/Length 21>>stream\n7801634A040000670064>\nendstream\nendobj",
		"1 1 obj<</Filter/RunLengthDecode/Length 3/K[]>>\r\nstream\r\n\xfea\x80\r\nendstream\r\nendobj", "9 0 obj<</Length 0/Filter[]>>stream\n\nendstream endobj",
	}
}

func TestGoodTexts(t *testing.T) {
	for _, s := range good() {
		want, code := readAgain(s, 0)
		if code != api.OK {
			t.Fatalf("%q: %d", s, code)
		}
		checkIs(t, s, want.Object)
	}
}

func TestABytePutInChangedOrLeftOut(t *testing.T) {
	for _, s := range good() {
		for at := range len(s) {
			checkReadAgain(t, s[:at]+s[at+1:], 0)
			checkReadAgain(t, s[:at], 0)
			for c := range 256 {
				checkReadAgain(t, s[:at]+one(c)+s[at+1:], 0)
				checkReadAgain(t, s[:at]+one(c)+s[at:], 0)
			}
		}
	}
}

// pieces are parts of frames, with what parts them from others.
func pieces() []string {
	return []string{" 1", " 0", " obj", " endobj", " null", "<<>>", "<</Length 2>>", " stream\n", "ab", " endstream", ")"}
}

// checkCodes wants that each code was told so often at least.
func checkCodes(t *testing.T, codes, least map[api.Errno]int) {
	t.Helper()
	for code, many := range least {
		if codes[code] < many {
			t.Errorf("the code %d was told %d times alone", code, codes[code])
		}
	}
}

func TestAllRowsOfFewPieces(t *testing.T) {
	codes := map[api.Errno]int{}
	// Behind what was refused, and not as there is too little of it, two pieces more are put.
	var row func(s string, left, refused int)
	row = func(s string, left, refused int) {
		code := checkReadAgain(t, s, 0)
		codes[code]++
		if code != api.ErrShort {
			refused--
		}
		if left == 0 || refused == 0 {
			return
		}
		for _, piece := range pieces() {
			row(s+piece, left-1, refused)
		}
	}
	row("", 9, 3)
	for _, begin := range []string{"1 0 obj", "1 0 obj <</Length 2>>", "1 0 obj <</Length 2>> stream\n", "1 0 obj<</Length 1>>stream\nxendstream"} {
		row(begin, 4, 5)
	}
	checkCodes(t, codes, map[api.Errno]int{api.OK: 1000, api.ErrForm: 10000, api.ErrShort: 50, api.ErrRange: 100})
}

// mostly tells the first one, or, one time of ten, any of the others.
func mostly(r *rand.Rand, first string, others ...string) string {
	if r.IntN(10) > 0 {
		return first
	}
	return oneOf(r, others...)
}

// pairsByChance are the pairs of a stream whose bytes are so many.
func pairsByChance(r *rand.Rand, length int) string {
	told := fmt.Sprint("/Length ", length)
	pairs := []string{
		mostly(r, told, "/Length 2", "/Length 7", "/Length -1", "/Length 67108864", "/Length 67108865", "", "/Length null", "/Length(2)", told+told),
		oneOf(r, "", "/Filter/ASCIIHexDecode", "/Filter[/RunLengthDecode]", "/Filter[]", mostly(r, "/Filter null", "/Filter 1", "/Filter/X", "/Filter[1]")),
		mostly(r, "", "/DecodeParms<</Columns 1/Predictor 12>>", "/DecodeParms 1", "/DecodeParms<</Columns 0/Predictor 12>>", "/DecodeParms<</Columns 300/Predictor 12>>"),
		oneOf(r, "", "/A 1", "/B<<>>"),
	}
	r.Shuffle(len(pairs), func(i, j int) { pairs[i], pairs[j] = pairs[j], pairs[i] })
	return "<<" + strings.Join(pairs, "") + ">>"
}

func TestRowsOfPiecesByChance(t *testing.T) {
	r := newRandom(1)
	codes := map[api.Errno]int{}
	for range 100000 {
		coded := oneOf(r, "ab", "6>", "616161>", "\xfea\x80", "\x80", "endstream", "")
		parts := []string{
			mostly(r, "12", "1", "8388607", "0", "8388608", "x"), " ", mostly(r, "5", "0", "65535", "65536", "-1"), " ", mostly(r, "obj", "objx", "R", ")"), oneOf(r, " ", "\n", "%\n", ""),
			mostly(r, pairsByChance(r, len(coded)), "7", "[]", "(", "1 0 R"), oneOf(r, " ", "", "\n"), mostly(r, "stream\n", "stream\r\n", "stream ", "stream\r", "endobj"),
			coded, oneOf(r, "\n", " ", "\r\n", ""), mostly(r, "endstream", "endstrea", ")", "endobj"), mostly(r, "\n", " ", "%", "%\n", ""), mostly(r, "endobj", "obj", "endstream", "("),
		}
		if r.IntN(5) == 0 {
			parts = parts[:r.IntN(len(parts))]
		}
		codes[checkReadAgain(t, strings.Join(parts, ""), 0)]++
	}
	checkCodes(t, codes, map[api.Errno]int{api.OK: 1000, api.ErrArg: 100, api.ErrRange: 1000, api.ErrForm: 1000, api.ErrShort: 1000, api.ErrBig: 100, api.ErrKey: 100, api.ErrFilter: 500})
}

func TestTextsByChance(t *testing.T) {
	r := newRandom(2)
	all := bytes()
	for range 60000 {
		checkReadAgain(t, some(r, "[]<>/()%# 01objend\n", r.IntN(16)), 0)
		checkReadAgain(t, "1 0 obj"+some(r, "[]<>/()%# 01objend\n", r.IntN(16)), r.IntN(3))
		checkReadAgain(t, some(r, all, r.IntN(12)), r.IntN(3))
		s := oneOf(r, good()...)
		for range 1 + r.IntN(3) {
			at := r.IntN(len(s))
			s = s[:at] + some(r, "[]<>/()%# 019R-\r\n", r.IntN(3)) + s[at+r.IntN(min(3, len(s)-at)):]
		}
		checkReadAgain(t, s, 0)
	}
}

// P20.4

// goodValue is a value that may be, in any order, and is no stream.
func goodValue(r *rand.Rand, deep int) api.Value {
	v := api.Value{Kind: r.IntN(8)}
	switch v.Kind {
	case api.Bool:
		v.N = r.IntN(2)
	case api.Int:
		v.N = oneOf(r, 0, 1, -1, maxInt, -maxInt, r.IntN(maxInt))
	case api.Name:
		v.S = strings.ReplaceAll(oneOf(r, "", "a", "endobj", "Length", "R", some(r, bytes(), r.IntN(10))), "\x00", "")
	case api.Text:
		v.S = oneOf(r, "", "a", "endobj", "\nendstream\nendobj\n", "1 0 obj", some(r, bytes(), r.IntN(10)), some(r, "()\\ab", r.IntN(10)))
	case api.Link:
		v.N, v.G = oneOf(r, 1, 2, 1+r.IntN(maxNum)), oneOf(r, 0, 1, r.IntN(maxGen+1))
	case api.List:
		for range r.IntN(5) * min(deep, 1) {
			v.L = append(v.L, goodValue(r, deep-1))
		}
	case api.Dict:
		v.D = goodPairs(r, deep, append(reserved(), "", "A", "AA", "B", "a", "\xff", "a b", "Type", "stream"))
	}
	return v
}

// goodPairs are pairs with some of the keys.
func goodPairs(r *rand.Rand, deep int, keys []string) []api.Pair {
	var pairs []api.Pair
	for _, i := range r.Perm(len(keys))[:r.IntN(6)*min(deep, 1)] {
		pairs = append(pairs, pair(keys[i], goodValue(r, deep-1)))
	}
	return pairs
}

// goodStream is a stream that may be printed in so many columns.
func goodStream(r *rand.Rand, columns int) api.Value {
	s := oneOf(r, "", "ab", "\nendstream\nendobj\n", "1 0 obj 2 endobj\n", "\r\n", strings.Repeat("x", r.IntN(600)), some(r, bytes(), r.IntN(600)), some(r, "ab", r.IntN(600)))
	v := stream(s[:len(s)-len(s)%max(columns, 1)], goodPairs(r, 3, []string{"", "A", "AA", "B", "Lengt", "Lengths", "Filte", "Type", "Columns", "a b", "\xff"})...)
	for _, key := range reserved() {
		if r.IntN(4) == 0 {
			v.D = append(v.D, pair(key, null))
		}
	}
	r.Shuffle(len(v.D), func(i, j int) { v.D[i], v.D[j] = v.D[j], v.D[i] })
	return v
}

func TestWhatIsPrintedIsRead(t *testing.T) {
	r := newRandom(3)
	few := lists(4)
	arounds := []string{"", "x", "\n", "1 0 obj ", "endobj", "(", "<<", "%", "% a", "stream\n", "7", "/A", "\x00", ">>", "3 0 obj\n7\nendobj\n"}
	for range 40000 {
		o := object(oneOf(r, 1, maxNum, 1+r.IntN(maxNum)), oneOf(r, 0, maxGen, r.IntN(maxGen+1)), goodValue(r, r.IntN(4)))
		names, columns := oneOf(r, few...), 0
		if r.IntN(2) == 0 {
			if allowed(names, 1) {
				columns = oneOf(r, 0, 1, 2, 3, 5, 256)
			}
			o.V = goodStream(r, columns)
		}
		told, code := checkPrintAgain(t, o, names, columns)
		if code != api.OK {
			t.Fatalf("%s, %q, %d: %d", short(o), names, columns, code)
		}
		o.V = value.Plain(o.V)
		for range 3 {
			ahead := oneOf(r, arounds...)
			want := api.Frame{Object: o, At: len(ahead), End: len(ahead) + len(told) - 1}
			checkRead(t, ahead+told+oneOf(r, arounds...), len(ahead), want, api.OK)
		}
		// What was read is printed as it was.
		checkPrint(t, o, names, columns, told, api.OK)
	}
}

func TestWhatIsReadMayBe(t *testing.T) {
	for _, s := range good() {
		f, code := frame.Read(s, 0)
		if code != api.OK {
			t.Fatal(code)
		}
		if code := value.Check(f.Object.V, true); code != api.OK || !exact(f.Object.V, value.Plain(f.Object.V)) {
			t.Errorf("%q is told as %s: %d", s, short(f), code)
		}
		if told, code := frame.Print(f.Object, nil, 0); code != api.OK {
			t.Errorf("%q is not printed: %d", s, code)
		} else {
			checkRead(t, told, 0, api.Frame{Object: f.Object, End: len(told) - 1}, api.OK)
		}
	}
}

// What holds everywhere

// share tells whether two texts stand in the same memory.
func share(a, b string) bool {
	beginA, beginB := uintptr(unsafe.Pointer(unsafe.StringData(a))), uintptr(unsafe.Pointer(unsafe.StringData(b)))
	return len(a) > 0 && len(b) > 0 && beginA < beginB+uintptr(len(b)) && beginB < beginA+uintptr(len(a))
}

// parts are all texts of a value, and all its lists.
func parts(v api.Value) (texts []string, lists [][]api.Value, pairs [][]api.Pair) {
	texts, lists, pairs = []string{v.S}, [][]api.Value{v.L}, [][]api.Pair{v.D}
	held := slices.Clone(v.L)
	for _, p := range v.D {
		texts = append(texts, p.Key)
		held = append(held, p.V)
	}
	for _, h := range held {
		t, l, p := parts(h)
		texts, lists, pairs = append(texts, t...), append(lists, l...), append(pairs, p...)
	}
	return texts, lists, pairs
}

func TestAnswersShareNoMemory(t *testing.T) {
	for _, pairs := range []string{"", "/Filter[]", "/Filter/ASCIIHexDecode", "/Filter[/ASCIIHexDecode/ASCIIHexDecode]"} {
		s := strings.Clone(framed("/Key (text) /More[[/A][/A]<</K(v)>><</K(v)>>]"+pairs, "36313E>"))
		f, code := frame.Read(s, 0)
		if code != api.OK {
			t.Fatal(code)
		}
		texts, lists, pairs := parts(f.Object.V)
		for _, text := range texts {
			if share(text, s) {
				t.Errorf("%q stands in what was handed in", text)
			}
		}
		for i := range lists {
			for j := range lists {
				if i != j && len(lists[i]) > 0 && len(lists[j]) > 0 && &lists[i][0] == &lists[j][0] {
					t.Errorf("the lists %d and %d are one", i, j)
				}
			}
		}
		before := copied(f.Object.V)
		for i := range pairs {
			_ = append(pairs[i], pair("Z", number(-1)))
			_ = append(lists[i], number(-1))
			for j := range pairs {
				if i != j && len(pairs[i]) > 0 && len(pairs[j]) > 0 && &pairs[i][0] == &pairs[j][0] {
					t.Errorf("the pairs %d and %d are one", i, j)
				}
			}
		}
		if !exact(f.Object.V, before) {
			t.Errorf("%s was changed: %s", short(before), short(f))
		}
		if again, _ := frame.Read(s, 0); !exact(again.Object.V, before) {
			t.Errorf("%s is read as %s", short(before), short(again))
		}
	}
}

func TestWhatIsHandedInIsNotChanged(t *testing.T) {
	names := []string{hexName, deflateName, "behind", "it"}
	pairs := []api.Pair{pair("Z", number(1)), pair("Filter", null), pair("A", dict(pair("Y", number(2)), pair("X", null))), pair("Length", null), pair("behind", number(3)), pair("it", number(4))}
	o := object(5, 6, stream("abcd", pairs[:4]...))
	before, beforeNames := copied(dict(pairs...)), slices.Clone(names)
	told, code := frame.Print(o, names[:2], 2)
	if code != api.OK || !exact(dict(pairs...), before) || !slices.Equal(names, beforeNames) || !exact(o.V, stream("abcd", before.D[:4]...)) {
		t.Errorf("%d: %s and %q are left", code, short(pairs), names)
	}
	for _, handed := range []string{o.V.S, names[0], names[1]} {
		if share(told, handed) {
			t.Errorf("%.40q stands in what was handed in", told)
		}
	}
	checkPrint(t, o, names[:2], 2, told, api.OK)
}

func TestCallsKnowNothingOfOneAnother(t *testing.T) {
	for range 3 {
		checkPrint(t, object(0, 0, null), nil, 0, "", api.ErrRange)
		checkPrint(t, object(1, 0, stream("a")), []string{"x"}, 0, "", api.ErrFilter)
		checkPrint(t, object(1, 0, number(7)), nil, 0, "1 0 obj\n7\nendobj\n", api.OK)
		checkRead(t, "1 0 obj", 0, api.Frame{}, api.ErrShort)
		checkRead(t, " 1 0 obj 7 endobj", 0, api.Frame{Object: object(1, 0, number(7)), At: 1, End: 17}, api.OK)
		checkRead(t, "1 0 obj<<>>stream\n", 0, api.Frame{}, api.ErrForm)
		checkRead(t, "2 3 obj null endobj", 0, api.Frame{Object: object(2, 3, null), End: 19}, api.OK)
	}
}

func TestLongTexts(t *testing.T) {
	const many = 1 << 18
	wide := strings.Repeat(" ", many) + "%" + strings.Repeat("endobj ", many) + "\n"
	s := "1" + wide + "2" + wide + "obj" + wide + "3" + wide + "endobj"
	checkRead(t, wide+s+wide, 0, api.Frame{Object: object(1, 2, number(3)), At: len(wide), End: len(wide) + len(s)}, api.OK)
	s = "1 0 obj<</Length 2>>" + wide + "stream\nab" + wide + "endstream" + wide + "endobj"
	checkRead(t, s, 0, api.Frame{Object: object(1, 0, stream("ab")), End: len(s)}, api.OK)
	s = "1 0 obj[" + strings.Repeat(" 7", many) + "]endobj"
	checkRead(t, s, 0, api.Frame{Object: object(1, 0, list(slices.Repeat([]api.Value{number(7)}, many)...)), End: len(s)}, api.OK)
	var pairs []api.Pair
	for i := range many {
		pairs = append(pairs, pair(fmt.Sprintf("%08d", i), number(i)))
	}
	o := object(1, 0, stream("ab", pairs...))
	told, code := frame.Print(o, []string{hexName}, 0)
	if code != api.OK {
		t.Fatal(code)
	}
	checkRead(t, told, 0, api.Frame{Object: o, End: len(told) - 1}, api.OK)
	checkPrint(t, object(1, 0, stream("ab", append(pairs, pair("Length", number(2)))...)), nil, 0, "", api.ErrKey)
	names := slices.Repeat([]string{hexName}, many)
	checkPrint(t, o, names, 0, "", api.ErrFilter)
	filters := "/Filter[" + strings.Repeat("/ASCIIHexDecode", many) + "]"
	checkRead(t, framed(filters, ">"), 0, api.Frame{}, api.ErrFilter)
}

package value_test

import (
	"fmt"
	"math"
	"math/rand/v2"
	"slices"
	"strings"
	"testing"
	"unsafe"

	"bindery/api"
	"bindery/value"
)

const (
	// The limits, told again.
	maxDepth = 64
	maxNum   = 8388607
	maxGen   = 65535
	maxName  = 127
	maxText  = 65535
	maxData  = 1048576
	maxInt   = 2147483647
	// mostNested is with how many parts within one another all is promised.
	mostNested = 1 << 16
)

// Short ways to make values.

var null = api.Value{}

func number(n int) api.Value              { return api.Value{Kind: api.Int, N: n} }
func boolean(n int) api.Value             { return api.Value{Kind: api.Bool, N: n} }
func name(s string) api.Value             { return api.Value{Kind: api.Name, S: s} }
func text(s string) api.Value             { return api.Value{Kind: api.Text, S: s} }
func link(n, g int) api.Value             { return api.Value{Kind: api.Link, N: n, G: g} }
func list(l ...api.Value) api.Value       { return api.Value{Kind: api.List, L: l} }
func dict(d ...api.Pair) api.Value        { return api.Value{Kind: api.Dict, D: d} }
func odd(kind int) api.Value              { return api.Value{Kind: kind} }
func pair(k string, v api.Value) api.Pair { return api.Pair{Key: k, V: v} }

func stream(s string, d ...api.Pair) api.Value {
	return api.Value{Kind: api.Stream, S: s, D: d}
}

// nested is a value within so many lists.
func nested(v api.Value, lists int) api.Value {
	for range lists {
		v = list(v)
	}
	return v
}

// keyed is a value within so many dictionaries.
func keyed(v api.Value, dicts int) api.Value {
	for range dicts {
		v = dict(pair("K", v))
	}
	return v
}

// exact tells whether two values have just the same fields; nil and empty lists are the same.
func exact(a, b api.Value) bool {
	return a.Kind == b.Kind && a.N == b.N && a.G == b.G && a.S == b.S &&
		slices.EqualFunc(a.L, b.L, exact) &&
		slices.EqualFunc(a.D, b.D, func(x, y api.Pair) bool { return x.Key == y.Key && exact(x.V, y.V) })
}

// copied is a value in memory of its own.
func copied(v api.Value) api.Value {
	c := v
	c.S = strings.Clone(v.S)
	c.L, c.D = nil, nil
	for _, e := range v.L {
		c.L = append(c.L, copied(e))
	}
	for _, p := range v.D {
		c.D = append(c.D, api.Pair{Key: strings.Clone(p.Key), V: copied(p.V)})
	}
	return c
}

// short tells a value for a message.
func short(v api.Value) string { return fmt.Sprintf("%.300s", fmt.Sprintf("%.40q", fmt.Sprint(v))) }

// Second tellings of the words.

// fields are those that values of a kind have.
var fields = map[int]string{0: "", 1: "N", 2: "N", 3: "S", 4: "S", 5: "L", 6: "D", 7: "NG", 8: "DS"}

func has(kind int, field string) bool { return strings.Contains(fields[kind], field) }

// extra tells whether a value has a field that its kind does not have.
func extra(v api.Value) bool {
	return v.N != 0 && !has(v.Kind, "N") || v.G != 0 && !has(v.Kind, "G") || v.S != "" && !has(v.Kind, "S") ||
		len(v.L) > 0 && !has(v.Kind, "L") || len(v.D) > 0 && !has(v.Kind, "D")
}

// step is a thing that is checked: a value, or a key.
type step struct {
	v      api.Value
	isKey  bool
	key    string
	twice  bool
	stream bool
	within int
}

// steps are a value and all that it holds, in the order in which they are checked.
func steps(v api.Value, stream bool, within int) []step {
	all := []step{{v: v, stream: stream, within: within}}
	for _, e := range v.L {
		all = append(all, steps(e, false, within+1)...)
	}
	for i, p := range v.D {
		twice := slices.ContainsFunc(v.D[:i], func(q api.Pair) bool { return q.Key == p.Key })
		all = append(all, step{isKey: true, key: p.Key, twice: twice})
		all = append(all, steps(p.V, false, within+1)...)
	}
	return all
}

// rule is an error, and when it is told of a thing.
type rule struct {
	code  api.Errno
	wrong func(s step) bool
}

var rules = []rule{
	{10, func(s step) bool { _, known := fields[s.v.Kind]; return !known || s.v.Kind == 8 && !s.stream }},
	{4, func(s step) bool { return extra(s.v) || s.v.Kind == 3 && strings.Contains(s.v.S, "\x00") }},
	{3, func(s step) bool { return s.v.Kind == 1 && s.v.N != 0 && s.v.N != 1 }},
	{3, func(s step) bool { return s.v.Kind == 2 && (s.v.N < -maxInt || s.v.N > maxInt) }},
	{3, func(s step) bool {
		return s.v.Kind == 7 && (s.v.N < 1 || s.v.N > maxNum || s.v.G < 0 || s.v.G > maxGen)
	}},
	{8, func(s step) bool {
		return s.v.Kind == 3 && len(s.v.S) > maxName || s.v.Kind == 4 && len(s.v.S) > maxText
	}},
	{7, func(s step) bool { return s.v.Kind == 8 && len(s.v.S) > maxData }},
	{9, func(s step) bool { return s.within >= maxDepth && (s.v.Kind == 5 || s.v.Kind == 6 || s.v.Kind == 8) }},
}

// checkAgain is a second telling of P16.2: all that is to be checked is put in a row ahead.
func checkAgain(v api.Value, stream bool) api.Errno {
	for _, s := range steps(v, stream, 0) {
		if s.isKey {
			if len(s.key) > maxName || strings.Contains(s.key, "\x00") || s.twice {
				return 11
			}
			continue
		}
		for _, r := range rules {
			if r.wrong(s) {
				return r.code
			}
		}
	}
	return 0
}

// plainAgain is a second telling of Plain: keys are sorted, and what counts of each is kept in a map.
func plainAgain(v api.Value) api.Value {
	if _, known := fields[v.Kind]; !known {
		return null
	}
	p := api.Value{Kind: v.Kind}
	if has(v.Kind, "N") {
		p.N = v.N
	}
	if has(v.Kind, "G") {
		p.G = v.G
	}
	if has(v.Kind, "S") {
		p.S = v.S
	}
	if has(v.Kind, "L") {
		for _, e := range v.L {
			p.L = append(p.L, plainAgain(e))
		}
	}
	if has(v.Kind, "D") {
		first := map[string]api.Value{}
		var keys []string
		for _, x := range v.D {
			if _, known := first[x.Key]; !known {
				first[x.Key] = plainAgain(x.V)
				keys = append(keys, x.Key)
			}
		}
		slices.Sort(keys)
		for _, k := range keys {
			if first[k].Kind != 0 {
				p.D = append(p.D, pair(k, first[k]))
			}
		}
	}
	return p
}

// getAgain is a second telling of Get: it looks through the whole of what is Plain.
func getAgain(v api.Value, key string) (api.Value, bool) {
	for _, p := range plainAgain(v).D {
		if p.Key == key {
			return p.V, true
		}
	}
	return null, false
}

// withAgain is a second telling of With: the pair is taken out of what is Plain, and put back at its place.
func withAgain(v api.Value, key string, x api.Value) api.Value {
	v, x = plainAgain(v), plainAgain(x)
	if v.Kind != 6 && v.Kind != 8 {
		return v
	}
	var d []api.Pair
	for _, p := range v.D {
		if p.Key != key {
			d = append(d, p)
		}
	}
	if x.Kind != 0 {
		at := 0
		for at < len(d) && d[at].Key < key {
			at++
		}
		d = slices.Insert(d, at, pair(key, x))
	}
	v.D = d
	return v
}

// linksAgain is a second telling of Links: what is still to be looked at stands in a row.
func linksAgain(v api.Value) []api.Ref {
	var found []api.Ref
	rest := []api.Value{plainAgain(v)}
	for len(rest) > 0 {
		next := rest[0]
		rest = rest[1:]
		if next.Kind == 7 {
			found = append(found, api.Ref{N: next.N, G: next.G})
		}
		held := slices.Clone(next.L)
		for _, p := range next.D {
			held = append(held, p.V)
		}
		rest = append(held, rest...)
	}
	return found
}

// rows are the values that a value is, in rows: in each one those that the row ahead holds; only those that hold others are asked, if so it is said.
func rows(v api.Value, holdersAlone bool) [][]api.Value {
	var all [][]api.Value
	for row := []api.Value{v}; len(row) > 0; {
		var kept, next []api.Value
		for _, x := range row {
			if holdersAlone && x.Kind != 5 && x.Kind != 6 && x.Kind != 8 {
				continue
			}
			kept = append(kept, x)
			next = append(next, x.L...)
			for _, p := range x.D {
				next = append(next, p.V)
			}
		}
		if len(kept) > 0 {
			all = append(all, kept)
		}
		row = next
	}
	return all
}

// depthAgain is a second telling of Depth: how many rows there are of those that hold others.
func depthAgain(v api.Value) int { return len(rows(v, true)) }

// sizeAgain is a second telling of Size.
func sizeAgain(v api.Value) int {
	size := 0
	for _, row := range rows(v, false) {
		size += len(row)
	}
	return size
}

func collect(v api.Value) []api.Ref { return slices.Collect(value.Links(v)) }

// checkCode holds Check against a code.
func checkCode(t *testing.T, v api.Value, stream bool, want api.Errno) {
	t.Helper()
	if got := value.Check(v, stream); got != want {
		t.Errorf("Check of %s, %v: %d, wanted %d", short(v), stream, got, want)
	}
}

// checkPlain holds Plain against a value.
func checkPlain(t *testing.T, v, want api.Value) {
	t.Helper()
	if got := value.Plain(v); !exact(got, want) {
		t.Errorf("Plain of %s: %s, wanted %s", short(v), short(got), short(want))
	}
}

// checkAll holds all that is told of one value against the second tellings, and the value against what it was.
func checkAll(t *testing.T, v api.Value) {
	t.Helper()
	was := copied(v)
	plain := plainAgain(v)
	checkCode(t, v, true, checkAgain(v, true))
	checkCode(t, v, false, checkAgain(v, false))
	checkPlain(t, v, plain)
	checkPlain(t, plain, plain)
	if !value.Same(v, plain) || !value.Same(plain, v) || !value.Same(v, v) {
		t.Errorf("%s is not the same as what it is plainly", short(v))
	}
	for _, may := range []bool{false, true} {
		if value.Check(v, may) == api.OK {
			checkCode(t, plain, may, api.OK)
		}
	}
	links := linksAgain(v)
	if got := collect(v); !slices.Equal(got, links) {
		t.Errorf("Links of %s: %v, wanted %v", short(v), got, links)
	}
	for _, r := range append([]api.Ref{{}, {N: 1}, {N: 1, G: 1}, {N: 2}, {G: 1}, {N: 7, G: 7}}, links...) {
		if got, want := value.Holds(v, r), slices.Contains(links, r); got != want {
			t.Errorf("Holds of %s, %v: %v", short(v), r, got)
		}
	}
	if got, want := value.Depth(v), depthAgain(v); got != want {
		t.Errorf("Depth of %s: %d, wanted %d", short(v), got, want)
	}
	if got, want := value.Size(v), sizeAgain(v); got != want {
		t.Errorf("Size of %s: %d, wanted %d", short(v), got, want)
	}
	checkKeys(t, v)
	if !exact(v, was) {
		t.Errorf("%s was changed: %s", short(was), short(v))
	}
}

// checkKeys holds Get and With against the second tellings, of keys that stand in a value, and others.
func checkKeys(t *testing.T, v api.Value) {
	t.Helper()
	keys := []string{"", "A", "AA", "\xff", "\x00", "none"}
	for _, p := range v.D {
		keys = append(keys, p.Key)
	}
	for _, key := range keys {
		got, found := value.Get(v, key)
		want, wantFound := getAgain(v, key)
		if found != wantFound || !exact(got, want) {
			t.Errorf("Get of %s, %q: %s, %v; wanted %s, %v", short(v), key, short(got), found, short(want), wantFound)
		}
		for _, x := range []api.Value{null, odd(9), number(5), {Kind: api.Int, N: 3, S: "more"}, dict(pair("B", null)), v} {
			got, want := value.With(v, key, x), withAgain(v, key, x)
			if !exact(got, want) {
				t.Errorf("With of %s, %q, %s: %s, wanted %s", short(v), key, short(x), short(got), short(want))
			}
			under, found := value.Get(got, key)
			if isHolderOfPairs := got.Kind == api.Dict || got.Kind == api.Stream; found != (isHolderOfPairs && plainAgain(x).Kind != 0) || found && !exact(under, plainAgain(x)) {
				t.Errorf("With of %s, %q, %s: Get: %s, %v", short(v), key, short(x), short(under), found)
			}
		}
	}
}

// P16.1

// filled is a value of a kind with fields that are not zero, those that are named.
func filled(kind int, named string) api.Value {
	v := api.Value{Kind: kind}
	if strings.Contains(named, "N") {
		v.N = 1
	}
	if strings.Contains(named, "G") {
		v.G = 1
	}
	if strings.Contains(named, "S") {
		v.S = "s"
	}
	if strings.Contains(named, "L") {
		v.L = []api.Value{number(1)}
	}
	if strings.Contains(named, "D") {
		v.D = []api.Pair{pair("K", number(1))}
	}
	return v
}

// subsets are all texts of some of the letters, in their order.
func subsets(letters string) []string {
	if letters == "" {
		return []string{""}
	}
	var all []string
	for _, rest := range subsets(letters[1:]) {
		all = append(all, rest, letters[:1]+rest)
	}
	return all
}

func TestKindsHaveTheirFields(t *testing.T) {
	for kind := range 9 {
		for _, named := range subsets("NGSLD") {
			want := api.OK
			kept := ""
			for _, field := range named {
				if has(kind, string(field)) {
					kept += string(field)
				} else {
					want = api.ErrForm
				}
			}
			if kind == api.Link && want == api.OK && !strings.Contains(named, "N") {
				want = api.ErrRange
			}
			v := filled(kind, named)
			checkCode(t, v, true, want)
			checkPlain(t, v, filled(kind, kept))
			checkAll(t, v)
		}
	}
}

func TestOtherKindsAreNone(t *testing.T) {
	for _, kind := range []int{-1, -8, 9, 10, 13, 256, 256 + 5, 1<<32 + 6, math.MinInt, math.MaxInt} {
		for _, named := range subsets("NGSLD") {
			v := filled(kind, named)
			checkCode(t, v, true, api.ErrKind)
			checkCode(t, v, false, api.ErrKind)
			checkPlain(t, v, null)
			checkAll(t, v)
			checkAll(t, list(v, number(1)))
			checkAll(t, dict(pair("A", v), pair("A", number(1)), pair("B", number(1))))
		}
	}
}

// P16.2

func TestNumbersHaveTheirRanges(t *testing.T) {
	for n, want := range map[int]api.Errno{0: 0, 1: 0, 2: 3, -1: 3, math.MaxInt: 3, math.MinInt: 3, 256: 3, 1 << 32: 3} {
		checkCode(t, boolean(n), false, want)
	}
	for n, want := range map[int]api.Errno{
		0: 0, 1: 0, -1: 0, maxInt: 0, -maxInt: 0, maxInt - 1: 0, -maxInt + 1: 0,
		maxInt + 1: 3, -maxInt - 1: 3, 1 << 32: 3, -1 << 32: 3, math.MaxInt: 3, math.MinInt: 3,
	} {
		checkCode(t, number(n), false, want)
	}
	for n, want := range map[int]api.Errno{0: 3, 1: 0, 2: 0, maxNum: 0, maxNum - 1: 0, maxNum + 1: 3, -1: 3, math.MaxInt: 3, math.MinInt: 3} {
		checkCode(t, link(n, 0), false, want)
	}
	for g, want := range map[int]api.Errno{0: 0, 1: 0, maxGen: 0, maxGen - 1: 0, maxGen + 1: 3, -1: 3, math.MaxInt: 3, math.MinInt: 3} {
		checkCode(t, link(1, g), false, want)
	}
}

func TestTextsHaveTheirLengths(t *testing.T) {
	for length, want := range map[int]api.Errno{0: 0, 1: 0, maxName: 0, maxName + 1: 8, maxText: 8} {
		checkCode(t, name(strings.Repeat("n", length)), false, want)
	}
	for length, want := range map[int]api.Errno{0: 0, 1: 0, maxName + 1: 0, maxText: 0, maxText + 1: 8, maxData + 1: 8} {
		checkCode(t, text(strings.Repeat("t", length)), false, want)
	}
	for length, want := range map[int]api.Errno{0: 0, 1: 0, maxText + 1: 0, maxData: 0, maxData + 1: 7} {
		checkCode(t, stream(strings.Repeat("s", length)), true, want)
		checkCode(t, stream(strings.Repeat("s", length)), false, api.ErrKind)
	}
}

func TestBytesOfNamesAndTexts(t *testing.T) {
	for c := range 256 {
		s := string([]byte{'a', byte(c), 'b'})
		want := api.OK
		if c == 0 {
			want = api.ErrForm
		}
		checkCode(t, name(s), false, want)
		checkCode(t, text(s), false, api.OK)
		checkCode(t, stream(s), true, api.OK)
	}
	for _, s := range []string{"\x00", "\x00a", "a\x00", strings.Repeat("a", maxName-1) + "\x00", strings.Repeat("a", maxName) + "\x00", strings.Repeat("a", 1000) + "\x00"} {
		checkCode(t, name(s), false, api.ErrForm)
		checkCode(t, text(s), false, api.OK)
	}
}

func TestStreamsStandAlone(t *testing.T) {
	s := stream("data", pair("K", number(1)))
	checkCode(t, s, true, api.OK)
	checkCode(t, s, false, api.ErrKind)
	for _, v := range []api.Value{list(s), dict(pair("A", s)), stream("", pair("A", s)), list(list(s)), dict(pair("A", list(number(1), s)))} {
		checkCode(t, v, true, api.ErrKind)
		checkCode(t, v, false, api.ErrKind)
		checkAll(t, v)
	}
}

func TestKeys(t *testing.T) {
	one := number(1)
	long := strings.Repeat("k", maxName)
	for _, c := range []struct {
		d    []api.Pair
		want api.Errno
	}{
		{nil, 0},
		{[]api.Pair{pair("", one)}, 0},
		{[]api.Pair{pair("A", one), pair("B", one), pair("", one)}, 0},
		{[]api.Pair{pair("B", one), pair("A", one)}, 0},
		{[]api.Pair{pair("A", null)}, 0},
		{[]api.Pair{pair(long, one)}, 0},
		{[]api.Pair{pair(long+"k", one)}, 11},
		{[]api.Pair{pair(strings.Repeat("k", 70000), one)}, 11},
		{[]api.Pair{pair("\x00", one)}, 11},
		{[]api.Pair{pair("a\x00", one)}, 11},
		{[]api.Pair{pair("\x00a", one)}, 11},
		{[]api.Pair{pair("\xff\x01\x80 /#", one)}, 0},
		{[]api.Pair{pair("A", one), pair("A", one)}, 11},
		{[]api.Pair{pair("A", null), pair("A", one)}, 11},
		{[]api.Pair{pair("", one), pair("", one)}, 11},
		{[]api.Pair{pair("A", one), pair("B", one), pair("A", null)}, 11},
		{[]api.Pair{pair("A", dict(pair("A", one))), pair("B", dict(pair("A", one)))}, 0},
		{[]api.Pair{pair("A", one), pair("B", dict(pair("C", one), pair("C", one)))}, 11},
		{[]api.Pair{pair("A", one), pair("a", one), pair("A ", one), pair("AA", one)}, 0},
	} {
		checkCode(t, dict(c.d...), false, c.want)
		checkCode(t, stream("s", c.d...), true, c.want)
		checkCode(t, list(one, dict(c.d...)), false, c.want)
		checkAll(t, dict(c.d...))
	}
}

func TestHowDeepValuesMayBe(t *testing.T) {
	for _, inner := range []api.Value{null, number(1), boolean(1), name("n"), text("t"), link(1, 0)} {
		checkCode(t, nested(inner, maxDepth), false, api.OK)
		checkCode(t, keyed(inner, maxDepth), false, api.OK)
		checkCode(t, nested(inner, maxDepth+1), false, api.ErrDeep)
		checkCode(t, keyed(inner, maxDepth+1), false, api.ErrDeep)
	}
	for _, inner := range []api.Value{list(), dict()} {
		checkCode(t, nested(inner, maxDepth-1), false, api.OK)
		checkCode(t, keyed(inner, maxDepth-1), false, api.OK)
		checkCode(t, nested(inner, maxDepth), false, api.ErrDeep)
		checkCode(t, keyed(inner, maxDepth), false, api.ErrDeep)
		checkCode(t, stream("", pair("A", nested(inner, maxDepth-2))), true, api.OK)
		checkCode(t, stream("", pair("A", nested(inner, maxDepth-1))), true, api.ErrDeep)
		checkCode(t, keyed(nested(inner, 32), 31), false, api.OK)
		checkCode(t, keyed(nested(inner, 32), 32), false, api.ErrDeep)
		checkCode(t, list(number(1), nested(inner, maxDepth-2), nested(inner, maxDepth-1)), false, api.ErrDeep)
	}
	for depth := maxDepth - 3; depth <= maxDepth+3; depth++ {
		checkAll(t, nested(null, depth))
		checkAll(t, keyed(null, depth))
		checkAll(t, stream("s", pair("A", nested(dict(), depth))))
	}
	// What is wrong ahead of the depth is told, of what stands within, the depth.
	checkCode(t, nested(odd(9), maxDepth), false, api.ErrKind)
	checkCode(t, nested(odd(9), maxDepth+1), false, api.ErrDeep)
	checkCode(t, nested(stream(""), maxDepth), false, api.ErrKind)
}

func TestWhichErrorOfOneValueIsFirst(t *testing.T) {
	longName, longText, bigData := strings.Repeat("n", maxName+1), strings.Repeat("t", maxText+1), strings.Repeat("d", maxData+1)
	for i, c := range []struct {
		v    api.Value
		want api.Errno
	}{
		{api.Value{Kind: 9, N: 1, S: "s", L: []api.Value{odd(9)}}, 10},
		{api.Value{Kind: -1, G: 1, D: []api.Pair{pair("\x00", null)}}, 10},
		{list(api.Value{Kind: api.Stream, N: 1, S: bigData}), 10},
		{nested(stream(bigData), maxDepth), 10},
		{api.Value{Kind: api.Bool, N: 2, S: "s"}, 4},
		{api.Value{Kind: api.Int, N: maxInt + 1, G: 1}, 4},
		{api.Value{Kind: api.Link, N: 0, L: []api.Value{null}}, 4},
		{api.Value{Kind: api.Link, N: 1, G: -1, D: []api.Pair{pair("A", null)}}, 4},
		{api.Value{Kind: api.Name, N: 1, S: longName}, 4},
		{name(longName + "\x00"), 4},
		{api.Value{Kind: api.Text, G: 1, S: longText}, 4},
		{api.Value{Kind: api.Stream, N: 1, S: bigData}, 4},
		{nested(api.Value{Kind: api.List, S: "s"}, maxDepth), 4},
		{nested(api.Value{Kind: api.Dict, L: []api.Value{null}}, maxDepth), 4},
		{nested(boolean(2), maxDepth), 3},
		{nested(name(longName), maxDepth), 8},
	} {
		if got := value.Check(c.v, true); got != c.want || checkAgain(c.v, true) != c.want {
			t.Errorf("%d: %d, wanted %d", i, got, c.want)
		}
	}
}

func TestWhichPartIsFirst(t *testing.T) {
	kind, form, outside, long := odd(9), api.Value{S: "s"}, number(maxInt+1), name(strings.Repeat("n", maxName+1))
	for i, c := range []struct {
		v    api.Value
		want api.Errno
	}{
		{list(kind, outside), 10},
		{list(outside, kind), 3},
		{list(number(1), list(number(1), form), kind), 4},
		{list(list(list(long)), kind), 8},
		{api.Value{Kind: api.List, N: 1, L: []api.Value{kind}}, 4},
		{api.Value{Kind: api.Dict, G: 1, D: []api.Pair{pair("\x00", kind)}}, 4},
		{stream(strings.Repeat("d", maxData+1), pair("\x00", kind)), 7},
		{dict(pair("\x00", kind)), 11},
		{dict(pair("A", kind), pair("\x00", null)), 10},
		{dict(pair("A", kind), pair("A", null)), 10},
		{dict(pair("A", null), pair("A", kind)), 11},
		{dict(pair("A", null), pair("B", outside), pair("A", kind)), 3},
		{dict(pair("A", dict(pair("\x00", kind))), pair("B", outside)), 11},
		{dict(pair("A", list(outside)), pair("A", kind)), 3},
		{list(dict(pair("A", null), pair("A", null)), kind), 11},
		{list(nested(list(), maxDepth-1), kind), 9},
		{list(kind, nested(list(), maxDepth-1)), 10},
		{list(nested(list(kind), maxDepth-1), outside), 9},
	} {
		if got := value.Check(c.v, true); got != c.want || checkAgain(c.v, true) != c.want {
			t.Errorf("%d: %d, wanted %d", i, got, c.want)
		}
	}
}

// P16.3

func TestPlainExample(t *testing.T) {
	checkPlain(t, dict(pair("B", number(1)), pair("A", null), pair("B", number(2))), dict(pair("B", number(1))))
}

func TestPlainKeepsWhatMayNotBe(t *testing.T) {
	for _, v := range []api.Value{
		boolean(7), number(math.MaxInt), link(-3, -4), link(0, 0), name("\x00"), name(strings.Repeat("n", 1000)), text(strings.Repeat("t", maxText+1)),
		stream(strings.Repeat("d", maxData+1)), list(stream("s", pair("A", number(1)))), dict(pair("\x00", number(1)), pair(strings.Repeat("k", 500), number(1))),
		list(null, null), list(), dict(), stream(""), nested(number(1), 100),
	} {
		checkPlain(t, v, v)
	}
}

func TestPlainOfPairs(t *testing.T) {
	one, two := number(1), number(2)
	for _, c := range []struct{ d, want []api.Pair }{
		{[]api.Pair{pair("A", null), pair("A", one)}, nil},
		{[]api.Pair{pair("A", odd(9)), pair("A", one)}, nil},
		{[]api.Pair{pair("A", one), pair("A", null)}, []api.Pair{pair("A", one)}},
		{[]api.Pair{pair("B", one), pair("A", two)}, []api.Pair{pair("A", two), pair("B", one)}},
		{[]api.Pair{pair("A", null), pair("B", one), pair("A", two), pair("B", two)}, []api.Pair{pair("B", one)}},
		{[]api.Pair{pair("A", list(null)), pair("B", dict(pair("C", null)))}, []api.Pair{pair("A", list(null)), pair("B", dict())}},
		{
			[]api.Pair{pair("b", one), pair("\xff", one), pair("aa", one), pair("\x80", one), pair("a", one), pair("", one), pair("\x00", one), pair("B", one), pair("é", one), pair("~", one), pair("a\x00", one)},
			[]api.Pair{pair("", one), pair("\x00", one), pair("B", one), pair("a", one), pair("a\x00", one), pair("aa", one), pair("b", one), pair("~", one), pair("\x80", one), pair("é", one), pair("\xff", one)},
		},
		{[]api.Pair{pair("A", dict(pair("D", two), pair("C", one), pair("D", one)))}, []api.Pair{pair("A", dict(pair("C", one), pair("D", two)))}},
		{[]api.Pair{pair("A", stream("s", pair("D", null)))}, []api.Pair{pair("A", stream("s"))}},
	} {
		checkPlain(t, dict(c.d...), dict(c.want...))
		checkPlain(t, stream("s", c.d...), stream("s", c.want...))
		checkPlain(t, list(dict(c.d...)), list(dict(c.want...)))
		checkAll(t, dict(c.d...))
		checkAll(t, stream("s", c.d...))
	}
}

func TestPlainKeepsTheFirstOfManyPairs(t *testing.T) {
	// So many pairs that an order which does not keep those of one key as they stood would be seen.
	r := newRandom(1)
	var d []api.Pair
	for i := range 3000 {
		d = append(d, pair(fmt.Sprint(r.IntN(40)), number(i)))
	}
	checkPlain(t, dict(d...), plainAgain(dict(d...)))
	checkPlain(t, stream("", d...), plainAgain(stream("", d...)))
}

func TestSame(t *testing.T) {
	kinds := []api.Value{
		null, boolean(0), boolean(1), number(0), number(1), name(""), name("a"), text(""), text("a"), list(), list(null), list(number(1)), list(null, null), list(number(1), number(2)), list(number(2), number(1)),
		dict(), dict(pair("A", number(1))), dict(pair("B", number(1))), dict(pair("A", number(2))), dict(pair("A", number(1)), pair("B", number(1))),
		link(1, 0), link(1, 1), link(2, 0), link(0, 0), stream(""), stream("a"), stream("", pair("A", number(1))), stream("a", pair("A", number(1))),
		list(list()), list(dict()), dict(pair("A", list())), dict(pair("A", list(null))), dict(pair("A", link(1, 0))),
	}
	for i, a := range kinds {
		for j, b := range kinds {
			if got := value.Same(a, b); got != (i == j) {
				t.Errorf("Same of %s and %s: %v", short(a), short(b), got)
			}
			if got := value.Same(list(a, b), list(b, a)); got != (i == j) {
				t.Errorf("Same of lists of %s and %s: %v", short(a), short(b), got)
			}
		}
	}
	for _, c := range []struct{ a, b api.Value }{
		{odd(9), null},
		{odd(-1), odd(10)},
		{list(odd(9)), list(null)},
		{api.Value{Kind: api.Int, N: 1, S: "s", G: 4}, number(1)},
		{api.Value{Kind: api.Null, N: 1, L: []api.Value{null}}, null},
		{api.Value{Kind: api.List, L: nil}, api.Value{Kind: api.List, L: []api.Value{}}},
		{api.Value{Kind: api.Dict, D: nil}, api.Value{Kind: api.Dict, D: []api.Pair{}}},
		{dict(pair("A", number(1)), pair("B", number(2))), dict(pair("B", number(2)), pair("A", number(1)))},
		{dict(pair("A", null)), dict()},
		{dict(pair("A", number(1)), pair("A", number(2))), dict(pair("A", number(1)))},
		{stream("s", pair("A", dict(pair("B", null)))), stream("s", pair("A", dict()))},
	} {
		if !value.Same(c.a, c.b) || !value.Same(c.b, c.a) {
			t.Errorf("Same of %s and %s: false", short(c.a), short(c.b))
		}
	}
}

func TestGet(t *testing.T) {
	d := []api.Pair{pair("B", number(1)), pair("A", null), pair("B", number(2)), pair("A", number(3)), pair("", text("e")), pair("\x00", list(odd(9))), pair("C", odd(9))}
	for _, v := range []api.Value{dict(d...), stream("s", d...)} {
		for key, want := range map[string]api.Value{"B": number(1), "": text("e"), "\x00": list(null)} {
			if got, found := value.Get(v, key); !found || !exact(got, want) {
				t.Errorf("Get %q: %s, %v", key, short(got), found)
			}
		}
		for _, key := range []string{"A", "C", "D", "b", "BB"} {
			if got, found := value.Get(v, key); found || !exact(got, null) {
				t.Errorf("Get %q: %s, %v", key, short(got), found)
			}
		}
	}
	for _, kind := range []int{-1, 0, 1, 2, 3, 4, 5, 7, 9} {
		v := filled(kind, "D")
		if got, found := value.Get(v, "K"); found || !exact(got, null) {
			t.Errorf("Get of kind %d: %s, %v", kind, short(got), found)
		}
	}
}

func TestWith(t *testing.T) {
	one, two, three := number(1), number(2), number(3)
	for i, c := range []struct {
		v    api.Value
		key  string
		x    api.Value
		want api.Value
	}{
		{dict(), "A", one, dict(pair("A", one))},
		{dict(pair("B", one)), "A", two, dict(pair("A", two), pair("B", one))},
		{dict(pair("B", one)), "C", two, dict(pair("B", one), pair("C", two))},
		{dict(pair("B", one), pair("A", three)), "B", two, dict(pair("A", three), pair("B", two))},
		{dict(pair("B", one), pair("B", three)), "B", two, dict(pair("B", two))},
		{dict(pair("B", one), pair("B", three)), "B", null, dict()},
		{dict(pair("B", one), pair("A", three)), "B", odd(-1), dict(pair("A", three))},
		{dict(pair("B", one)), "A", null, dict(pair("B", one))},
		{dict(pair("B", null), pair("B", one)), "A", one, dict(pair("A", one))},
		{dict(), "", dict(pair("B", null), pair("A", one)), dict(pair("", dict(pair("A", one))))},
		{dict(), "\x00", stream("s"), dict(pair("\x00", stream("s")))},
		{stream("s", pair("A", one)), "A", two, stream("s", pair("A", two))},
		{stream("s", pair("A", one)), "A", null, stream("s")},
		{api.Value{Kind: api.Dict, N: 4, S: "s", L: []api.Value{one}}, "A", api.Value{Kind: api.Int, N: 2, G: 3}, dict(pair("A", two))},
		{null, "A", one, null},
		{number(4), "A", one, number(4)},
		{list(one), "A", one, list(one)},
		{link(1, 2), "A", one, link(1, 2)},
		{odd(9), "A", one, null},
		{api.Value{Kind: api.Text, S: "t", D: []api.Pair{pair("A", one)}}, "A", two, text("t")},
	} {
		if got := value.With(c.v, c.key, c.x); !exact(got, c.want) {
			t.Errorf("%d: %s, wanted %s", i, short(got), short(c.want))
		}
	}
}

// P16.4

func TestLinks(t *testing.T) {
	for i, c := range []struct {
		v    api.Value
		want []api.Ref
	}{
		{link(1, 2), []api.Ref{{N: 1, G: 2}}},
		{link(0, 0), []api.Ref{{}}},
		{link(-1, maxGen+1), []api.Ref{{N: -1, G: maxGen + 1}}},
		{number(1), nil},
		{null, nil},
		{list(link(2, 0), link(1, 0), link(2, 0)), []api.Ref{{N: 2}, {N: 1}, {N: 2}}},
		{list(list(link(3, 0)), link(1, 0), dict(pair("B", link(5, 0)), pair("A", link(4, 0)))), []api.Ref{{N: 3}, {N: 1}, {N: 4}, {N: 5}}},
		{dict(pair("A", link(1, 0)), pair("A", link(2, 0))), []api.Ref{{N: 1}}},
		{dict(pair("A", null), pair("A", link(2, 0))), nil},
		{stream("s", pair("B", list(link(1, 1))), pair("A", link(2, 2))), []api.Ref{{N: 2, G: 2}, {N: 1, G: 1}}},
		{api.Value{Kind: api.List, D: []api.Pair{pair("A", link(1, 0))}}, nil},
		{api.Value{Kind: api.Dict, L: []api.Value{link(1, 0)}}, nil},
		{api.Value{Kind: api.Link, N: 1, L: []api.Value{link(2, 0)}}, []api.Ref{{N: 1}}},
		{api.Value{Kind: 9, L: []api.Value{link(1, 0)}}, nil},
		{list(stream("", pair("A", link(1, 0)))), []api.Ref{{N: 1}}},
	} {
		if got := collect(c.v); !slices.Equal(got, c.want) {
			t.Errorf("%d: %v, wanted %v", i, got, c.want)
		}
		checkAll(t, c.v)
	}
}

func TestLinksMayBeLeftAndBegunAgain(t *testing.T) {
	v := dict(pair("C", link(5, 0)), pair("A", list(link(1, 0), list(link(2, 0), number(1)), link(3, 0))), pair("B", link(4, 0)))
	links := value.Links(v)
	for leave := 1; leave <= 5; leave++ {
		var got []api.Ref
		for r := range links {
			if got = append(got, r); len(got) == leave {
				break
			}
		}
		for i, r := range got {
			if r.N != i+1 {
				t.Errorf("left behind %d: %v", leave, got)
			}
		}
	}
	pairs := 0
	for range links {
		for range links {
			pairs++
		}
	}
	if pairs != 25 {
		t.Error("ranged over within itself:", pairs)
	}
	if value.Links(null) == nil || value.Links(odd(9)) == nil {
		t.Error("a function that is nil")
	}
}

func TestLinksAreThoseThatWereThere(t *testing.T) {
	l := []api.Value{link(1, 0), link(2, 0)}
	d := []api.Pair{pair("A", list(l...)), pair("B", link(3, 0))}
	links := value.Links(dict(d...))
	l[0], d[1] = link(8, 0), pair("B", link(9, 0))
	l = append(l, link(7, 0))
	if got := slices.Collect(links); !slices.Equal(got, []api.Ref{{N: 1}, {N: 2}, {N: 3}}) {
		t.Error(got, l)
	}
}

func TestHolds(t *testing.T) {
	v := dict(pair("A", list(link(1, 2), link(3, 0))), pair("A", link(4, 0)))
	for r, want := range map[api.Ref]bool{{N: 1, G: 2}: true, {N: 3}: true, {N: 1}: false, {N: 2, G: 1}: false, {N: 4}: false, {}: false, {N: 3, G: 2}: false} {
		if value.Holds(v, r) != want {
			t.Error(r)
		}
	}
	if !value.Holds(link(5, 6), api.Ref{N: 5, G: 6}) || value.Holds(number(5), api.Ref{N: 5}) || value.Holds(null, api.Ref{}) || !value.Holds(link(0, 0), api.Ref{}) {
		t.Error("one value alone")
	}
}

func TestDepthAndSize(t *testing.T) {
	for i, c := range []struct {
		v           api.Value
		depth, size int
	}{
		{null, 0, 1},
		{odd(9), 0, 1},
		{number(4), 0, 1},
		{text("text"), 0, 1},
		{link(1, 1), 0, 1},
		{list(), 1, 1},
		{dict(), 1, 1},
		{stream("s"), 1, 1},
		{list(null, number(1)), 1, 3},
		{list(list(), list(list(null)), list()), 3, 6},
		{list(list(list()), list()), 3, 4},
		{dict(pair("A", null), pair("A", null), pair("B", list(number(1)))), 2, 5},
		{stream("s", pair("A", stream("t"))), 2, 2},
		{api.Value{Kind: api.List, L: []api.Value{null}, D: []api.Pair{pair("A", list())}}, 2, 3},
		{api.Value{Kind: api.Dict, L: []api.Value{list(list())}, D: []api.Pair{pair("A", null)}}, 3, 4},
		{api.Value{Kind: api.Stream, L: []api.Value{list(null), null}}, 2, 4},
		{api.Value{Kind: api.Int, L: []api.Value{list(null), null}}, 0, 4},
		{api.Value{Kind: 9, D: []api.Pair{pair("A", list()), pair("A", list(number(1)))}}, 0, 4},
		{list(api.Value{Kind: api.Name, L: []api.Value{list(list())}}), 1, 4},
		{list(odd(9), odd(-1)), 1, 3},
	} {
		if got := value.Depth(c.v); got != c.depth {
			t.Errorf("%d: Depth %d, wanted %d", i, got, c.depth)
		}
		if got := value.Size(c.v); got != c.size {
			t.Errorf("%d: Size %d, wanted %d", i, got, c.size)
		}
		checkAll(t, c.v)
	}
}

// P16.5, and all of them, of values of any form

func newRandom(seed uint64) *rand.Rand { return rand.New(rand.NewPCG(seed, 16)) }

// oneOf tells any of some.
func oneOf[T any](r *rand.Rand, some ...T) T { return some[r.IntN(len(some))] }

// anyValue is a value of any form, within which values stand at most so deep.
func anyValue(r *rand.Rand, deep int) api.Value {
	v := api.Value{Kind: oneOf(r, 0, 1, 2, 2, 3, 4, 5, 5, 6, 6, 6, 7, 7, 8, r.IntN(12)-1)}
	wild := r.IntN(8) == 0
	if has(v.Kind, "N") || wild {
		v.N = oneOf(r, 0, 1, 1, 1, 2, r.IntN(9)-1, maxInt, -maxInt-1, maxNum, maxNum+1)
	}
	if has(v.Kind, "G") || wild {
		v.G = oneOf(r, 0, 0, 1, 1, r.IntN(4)-1, maxGen, maxGen+1)
	}
	if has(v.Kind, "S") || wild {
		v.S = oneOf(r, "", "a", "b", "a\x00", "some", strings.Repeat("n", maxName), strings.Repeat("n", maxName+1))
	}
	if deep > 0 && (has(v.Kind, "L") || wild) {
		for range r.IntN(4) {
			v.L = append(v.L, anyValue(r, deep-1))
		}
	}
	if deep > 0 && (has(v.Kind, "D") || wild) {
		for range r.IntN(5) {
			v.D = append(v.D, pair(oneOf(r, "", "A", "AA", "B", "a", "b", "\xff", "\x00", "C", "D", "E", "F", "G"), anyValue(r, deep-1)))
		}
	}
	return v
}

// goodValue is a value that may be, of any order.
func goodValue(r *rand.Rand, deep int, mayBeStream bool) api.Value {
	kind := r.IntN(8)
	if mayBeStream && r.IntN(3) == 0 {
		kind = api.Stream
	}
	v := api.Value{Kind: kind}
	switch kind {
	case api.Bool:
		v.N = r.IntN(2)
	case api.Int:
		v.N = oneOf(r, 0, 1, -1, maxInt, -maxInt, r.IntN(maxInt))
	case api.Name, api.Text:
		v.S = oneOf(r, "", "a", "/", "name")
	case api.Link:
		v.N, v.G = 1+r.IntN(maxNum), r.IntN(maxGen+1)
	case api.List:
		for range r.IntN(4) * min(deep, 1) {
			v.L = append(v.L, goodValue(r, deep-1, false))
		}
	case api.Stream, api.Dict:
		for _, i := range r.Perm(8)[:r.IntN(5)*min(deep, 1)] {
			v.D = append(v.D, pair([]string{"", "A", "AA", "B", "a", "\xff", "\x01", "Z"}[i], goodValue(r, deep-1, false)))
		}
	}
	if kind == api.Stream {
		v.S = oneOf(r, "", "data", "\x00")
	}
	return v
}

func TestAnyValues(t *testing.T) {
	r := newRandom(2)
	codes := map[api.Errno]int{}
	for range 40000 {
		v := anyValue(r, r.IntN(5))
		codes[value.Check(v, true)]++
		checkAll(t, v)
	}
	for _, code := range []api.Errno{0, 3, 4, 8, 10, 11} {
		if codes[code] < 50 {
			t.Errorf("the code %d was told %d times alone", code, codes[code])
		}
	}
}

func TestWhatMayBe(t *testing.T) {
	r := newRandom(3)
	for range 20000 {
		v := goodValue(r, r.IntN(6), true)
		checkCode(t, v, true, api.OK)
		checkCode(t, value.Plain(v), true, api.OK)
		if v.Kind == api.Stream {
			checkCode(t, v, false, api.ErrKind)
		} else {
			checkCode(t, v, false, api.OK)
		}
		checkAll(t, v)
		other := goodValue(r, r.IntN(3), true)
		if got, want := value.Same(v, other), exact(plainAgain(v), plainAgain(other)); got != want {
			t.Errorf("Same of %s and %s: %v", short(v), short(other), got)
		}
	}
}

func TestAllSmallDicts(t *testing.T) {
	values := []api.Value{null, number(1), number(2), odd(9), dict(pair("A", null)), link(1, 0), list(link(1, 1), null)}
	var pairs []api.Pair
	for _, key := range []string{"A", "B", ""} {
		for _, v := range values {
			pairs = append(pairs, pair(key, v))
		}
	}
	for _, a := range pairs {
		checkAll(t, dict(a))
		for _, b := range pairs {
			checkAll(t, dict(a, b))
			checkAll(t, stream("s", b, a))
			for _, c := range pairs {
				d := dict(a, b, c)
				checkPlain(t, d, plainAgain(d))
				checkCode(t, d, false, checkAgain(d, false))
			}
		}
	}
}

func TestAllSmallValues(t *testing.T) {
	for kind := -1; kind <= 9; kind++ {
		for _, n := range []int{-1, 0, 1, 2, maxNum + 1, maxInt, maxInt + 1} {
			for _, g := range []int{-1, 0, 1, maxGen + 1} {
				for _, s := range []string{"", "a", "\x00"} {
					v := api.Value{Kind: kind, N: n, G: g, S: s}
					checkAll(t, v)
					checkAll(t, list(v))
					checkAll(t, dict(pair("A", v)))
				}
			}
		}
	}
}

// What all calls hold

func TestManyNested(t *testing.T) {
	for _, v := range []api.Value{nested(link(7, 8), mostNested-1), keyed(link(7, 8), mostNested-1), stream("s", pair("A", nested(keyed(link(7, 8), mostNested/2), mostNested/2-2)))} {
		checkCode(t, v, true, api.ErrDeep)
		plain := value.Plain(v)
		if !value.Same(v, plain) || value.Same(v, list(v)) {
			t.Error("Same")
		}
		if got := value.Depth(plain); got != mostNested-1 {
			t.Error("Depth", got)
		}
		if got := value.Size(v); got != mostNested {
			t.Error("Size", got)
		}
		if got := collect(v); !slices.Equal(got, []api.Ref{{N: 7, G: 8}}) || !value.Holds(v, got[0]) {
			t.Error("Links", got)
		}
		if got := value.Depth(value.With(dict(), "A", v)); got != mostNested {
			t.Error("With", got)
		}
		if got, found := value.Get(dict(pair("A", v)), "A"); !found || value.Depth(got) != mostNested-1 {
			t.Error("Get", found)
		}
	}
}

func TestManyElementsAndPairs(t *testing.T) {
	const many = 200000
	var l []api.Value
	var d []api.Pair
	for i := range many {
		l = append(l, link(many-i, 0))
		d = append(d, pair(fmt.Sprint(many-i), link(i+1, 0)))
	}
	v := dict(append(d, pair("list", list(l...)))...)
	checkCode(t, v, false, api.OK)
	checkCode(t, dict(append(slices.Clone(v.D), pair("1", null))...), false, api.ErrKey)
	checkPlain(t, v, plainAgain(v))
	if got := value.Size(v); got != 2*many+2 {
		t.Error(got)
	}
	if got := collect(v); len(got) != 2*many || got[0].N != many || got[2*many-1].N != 1 {
		t.Error(len(got))
	}
	alike := slices.Repeat([]api.Pair{pair("same", number(1))}, many)
	checkCode(t, dict(alike...), false, api.ErrKey)
	checkPlain(t, dict(alike...), dict(pair("same", number(1))))
}

func TestNilAndEmptyAreTheSame(t *testing.T) {
	for kind := -1; kind <= 9; kind++ {
		withNil := api.Value{Kind: kind, N: 1}
		empty := api.Value{Kind: kind, N: 1, L: []api.Value{}, D: []api.Pair{}}
		room := api.Value{Kind: kind, N: 1, L: make([]api.Value, 0, 3), D: make([]api.Pair, 0, 3)}
		for _, v := range []api.Value{empty, room} {
			if value.Check(v, true) != value.Check(withNil, true) || !exact(value.Plain(v), value.Plain(withNil)) || !value.Same(v, withNil) ||
				value.Depth(v) != value.Depth(withNil) || value.Size(v) != value.Size(withNil) {
				t.Errorf("kind %d", kind)
			}
		}
	}
}

// spread calls what it is given for each text and each list of a value, by where it begins and how many bytes it has.
func spread(v api.Value, tell func(begin, length uintptr)) {
	tell(uintptr(unsafe.Pointer(unsafe.StringData(v.S))), uintptr(len(v.S)))
	tell(uintptr(unsafe.Pointer(unsafe.SliceData(v.L))), uintptr(len(v.L))*unsafe.Sizeof(api.Value{}))
	tell(uintptr(unsafe.Pointer(unsafe.SliceData(v.D))), uintptr(len(v.D))*unsafe.Sizeof(api.Pair{}))
	for _, e := range v.L {
		spread(e, tell)
	}
	for _, p := range v.D {
		tell(uintptr(unsafe.Pointer(unsafe.StringData(p.Key))), uintptr(len(p.Key)))
		spread(p.V, tell)
	}
}

// part is a stretch of memory.
type part struct{ begin, length uintptr }

func parts(v api.Value) []part {
	var all []part
	spread(v, func(begin, length uintptr) {
		if length > 0 {
			all = append(all, part{begin, length})
		}
	})
	return all
}

// overlaps tells whether a stretch of memory lies in one of some.
func overlaps(p part, some []part) bool {
	return slices.ContainsFunc(some, func(q part) bool { return p.begin < q.begin+q.length && q.begin < p.begin+p.length })
}

// checkOwn holds an answer's memory against that of what was handed in, and its parts against one another.
func checkOwn(t *testing.T, what string, answer api.Value, handed ...api.Value) {
	t.Helper()
	own := parts(answer)
	if len(own) == 0 {
		t.Errorf("%s: nothing is told", what)
	}
	for i, p := range own {
		if overlaps(p, own[:i]) {
			t.Errorf("%s: parts of the answer share memory", what)
		}
		for _, h := range handed {
			if overlaps(p, parts(h)) {
				t.Errorf("%s: the answer shares memory with what was handed in", what)
			}
		}
	}
}

func TestAnswersShareNoMemory(t *testing.T) {
	shared := []api.Value{text("some text"), name("some name"), null}
	d := []api.Pair{pair("Two", list(shared...)), pair("One", text("another text")), pair("Two", null), pair("Three", dict(pair("Key", list(shared...))))}
	x := list(text("third text"), dict(pair("Some", list(shared...))))
	for _, v := range []api.Value{dict(d...), stream("some data", d...), list(dict(d...), dict(d...), list(shared...))} {
		was := copied(v)
		checkOwn(t, "Plain", value.Plain(v), v)
		checkOwn(t, "With", value.With(v, "Two", x), v, x)
		checkOwn(t, "With null", value.With(v, "Two", null), v)
		spoil(value.Plain(v))
		spoil(value.With(v, "New", x))
		if !exact(v, was) {
			t.Errorf("%s was changed: %s", short(was), short(v))
		}
		if got, found := value.Get(v, "Two"); found {
			checkOwn(t, "Get", got, v)
			spoil(got)
		}
		if !exact(v, was) {
			t.Errorf("%s was changed: %s", short(was), short(v))
		}
	}
	key := strings.Clone("Four")
	with := value.With(dict(), key, number(1))
	if unsafe.StringData(with.D[0].Key) == unsafe.StringData(key) {
		t.Error("the key is the one that was handed in")
	}
	plain := text("plain text")
	checkOwn(t, "a text", value.Plain(plain), plain)
}

// spoil writes over all lists of a value.
func spoil(v api.Value) {
	for i := range v.L {
		spoil(v.L[i])
		v.L[i] = odd(99)
	}
	for i := range v.D {
		spoil(v.D[i].V)
		v.D[i] = pair("spoilt", odd(99))
	}
}

func TestRoomBehindListsIsLeftAlone(t *testing.T) {
	l := []api.Value{number(1), number(2), number(3)}
	d := []api.Pair{pair("B", number(1)), pair("A", number(2)), pair("C", number(3)), pair("D", number(4))}
	value.Plain(list(l[:2]...))
	value.With(dict(d[:2]...), "0", number(9))
	value.With(api.Value{Kind: api.Dict, D: d[:2]}, "E", number(9))
	value.Plain(api.Value{Kind: api.Dict, D: d[:3]})
	if !exact(list(l...), list(number(1), number(2), number(3))) || !exact(dict(d...), dict(pair("B", number(1)), pair("A", number(2)), pair("C", number(3)), pair("D", number(4)))) {
		t.Error(l, d)
	}
}

func TestCallsKnowNothingOfOneAnother(t *testing.T) {
	for range 3 {
		checkCode(t, dict(pair("A", null), pair("A", null)), false, api.ErrKey)
		checkCode(t, dict(pair("A", null)), false, api.OK)
		checkCode(t, nested(null, maxDepth+1), false, api.ErrDeep)
		checkCode(t, nested(null, maxDepth), false, api.OK)
	}
}

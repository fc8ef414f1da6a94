package octet_test

import (
	"math"
	"regexp"
	"slices"
	"strings"
	"testing"

	"bindery/octet"
)

// Places far from every text, at which sums of places would turn round.
var farPlaces = []int{math.MinInt, math.MinInt + 1, math.MaxInt - 1, math.MaxInt}

// texts are all texts of at most so many bytes, each one of the letters.
func texts(letters string, most int) []string {
	all := []string{""}
	longest := all
	for range most {
		var longer []string
		for _, s := range longest {
			for i := range len(letters) {
				longer = append(longer, s+letters[i:i+1])
			}
		}
		all = append(all, longer...)
		longest = longer
	}
	return all
}

// P1.1

func TestKindOfEachByte(t *testing.T) {
	for c := range 256 {
		want := octet.Regular
		switch {
		case strings.IndexByte("\x00\t\n\f\r ", byte(c)) >= 0:
			want = octet.White
		case strings.IndexByte("()<>[]{}/%", byte(c)) >= 0:
			want = octet.Delim
		}
		if got := octet.Kind(byte(c)); got != want {
			t.Errorf("Kind(%d) = %d, want %d", c, got, want)
		}
	}
}

func TestKindsHaveTheirNumbers(t *testing.T) {
	if octet.White != 0 || octet.Delim != 1 || octet.Regular != 2 {
		t.Error("kinds", octet.White, octet.Delim, octet.Regular)
	}
}

func TestDigit(t *testing.T) {
	const digits = "0123456789ABCDEF"
	for n := -600; n <= 600; n++ {
		want := byte(0)
		if n >= 0 && n < 16 {
			want = digits[n]
		}
		if got := octet.Digit(n); got != want {
			t.Errorf("Digit(%d) = %d, want %d", n, got, want)
		}
	}
	// 2 to 32 and 5 is 5, if its high half is lost.
	for _, n := range append(farPlaces, 1<<32+5, -1<<32+5) {
		if got := octet.Digit(n); got != 0 {
			t.Errorf("Digit(%d) = %d, want 0", n, got)
		}
	}
}

func TestHexOfEachByte(t *testing.T) {
	for c := range 256 {
		want := -1
		if i := strings.IndexByte("0123456789ABCDEF", byte(c)); i >= 0 {
			want = i
		} else if i := strings.IndexByte("0123456789abcdef", byte(c)); i >= 0 {
			want = i
		}
		if got := octet.Hex(byte(c)); got != want {
			t.Errorf("Hex(%d) = %d, want %d", c, got, want)
		}
	}
}

func TestHexTakesDigitBack(t *testing.T) {
	for n := range 16 {
		if got := octet.Hex(octet.Digit(n)); got != n {
			t.Errorf("Hex(Digit(%d)) = %d", n, got)
		}
	}
}

// P1.2

func TestSpan(t *testing.T) {
	cases := []struct {
		s     string
		at    int
		kinds []int
		want  int
	}{
		{"ab /c", 0, []int{octet.Regular}, 2},
		{"ab /c", 0, []int{octet.Regular, octet.White}, 3},
		{"ab /c", 0, []int{octet.White, octet.Regular}, 3},
		{"ab /c", 0, []int{octet.Regular, octet.White, octet.Delim}, 5},
		{"ab /c", 0, []int{octet.White}, 0},
		{"ab /c", 0, []int{octet.Delim}, 0},
		{"ab /c", 1, []int{octet.Regular}, 1},
		{"ab /c", 2, []int{octet.White}, 1},
		{"ab /c", 2, []int{octet.White, octet.Delim}, 2},
		{"ab /c", 3, []int{octet.Delim}, 1},
		{"ab /c", 4, []int{octet.Regular}, 1},
		{"\x00\t\n\f\r ", 0, []int{octet.White}, 6},
		{"()<>[]{}/%", 0, []int{octet.Delim}, 10},
		{"\x0b\x7f\x80\xff#", 0, []int{octet.Regular}, 5},
	}
	for _, c := range cases {
		if got := octet.Span(c.s, c.at, c.kinds...); got != c.want {
			t.Errorf("Span(%q, %d, %v) = %d, want %d", c.s, c.at, c.kinds, got, c.want)
		}
	}
}

func TestSpanOfNoKindAndOfStrangeKinds(t *testing.T) {
	if got := octet.Span("ab", 0); got != 0 {
		t.Error("of no kind", got)
	}
	if got := octet.Span("ab", 0, -1, 3, math.MaxInt, math.MinInt); got != 0 {
		t.Error("of kinds that are none", got)
	}
	if got := octet.Span("ab (", 0, 7, octet.Regular, -1, octet.Regular); got != 2 {
		t.Error("of kinds that are none, and one twice", got)
	}
}

func TestSpanOutsideTheText(t *testing.T) {
	for _, at := range append([]int{-2, -1, 2, 3}, farPlaces...) {
		if got := octet.Span("ab", at, octet.Regular); got != 0 {
			t.Errorf("Span at %d = %d, want 0", at, got)
		}
	}
	for _, at := range []int{-1, 0, 1} {
		if got := octet.Span("", at, octet.White, octet.Delim, octet.Regular); got != 0 {
			t.Errorf("Span of nothing at %d = %d, want 0", at, got)
		}
	}
}

func TestSpanChangesNoKinds(t *testing.T) {
	kinds := []int{octet.Regular, octet.White}
	octet.Span("ab /c", 0, kinds...)
	if !slices.Equal(kinds, []int{octet.Regular, octet.White}) {
		t.Error("kinds", kinds)
	}
}

// P1.3

func TestEnds(t *testing.T) {
	cases := []struct {
		s    string
		at   int
		want int
	}{
		{"\r\n", 0, 2}, {"\r\n", 1, 1}, {"\n\r", 0, 1}, {"\n\r", 1, 1},
		{"\r", 0, 1}, {"\n", 0, 1}, {"\r\r\n", 0, 1}, {"\r\r\n", 1, 2},
		{"\n\n", 0, 1}, {"a\r\nb", 0, 0}, {"a\r\nb", 1, 2}, {"a\r\nb", 2, 1}, {"a\r\nb", 3, 0},
		{"\x0b\f\x00 ", 0, 0}, {"\x0b\f\x00 ", 1, 0}, {"\x0b\f\x00 ", 2, 0}, {"\x0b\f\x00 ", 3, 0},
	}
	for _, c := range cases {
		if got := octet.Ends(c.s, c.at); got != c.want {
			t.Errorf("Ends(%q, %d) = %d, want %d", c.s, c.at, got, c.want)
		}
	}
}

func TestEndsOutsideTheText(t *testing.T) {
	for _, at := range append([]int{-2, -1, 2, 3}, farPlaces...) {
		if got := octet.Ends("\r\n", at); got != 0 {
			t.Errorf("Ends at %d = %d, want 0", at, got)
		}
	}
	if got := octet.Ends("", 0); got != 0 {
		t.Error("Ends of nothing", got)
	}
}

func TestEndsOfEachByte(t *testing.T) {
	for c := range 256 {
		want := 0
		if c == 10 || c == 13 {
			want = 1
		}
		if got := octet.Ends(string([]byte{byte(c)}), 0); got != want {
			t.Errorf("Ends of the byte %d = %d, want %d", c, got, want)
		}
	}
}

// lineEnds are the ends of lines of a text, each with where it begins and where it ends.
func lineEnds(s string) [][]int {
	return regexp.MustCompile("\r\n|\r|\n").FindAllStringIndex(s, -1)
}

// linesByWords are the places at which lines begin, told from the ends of lines.
func linesByWords(s string) []int {
	var places []int
	if s != "" {
		places = append(places, 0)
	}
	for _, end := range lineEnds(s) {
		if end[1] < len(s) {
			places = append(places, end[1])
		}
	}
	return places
}

func TestLines(t *testing.T) {
	cases := []struct {
		s    string
		want []int
	}{
		{"", nil},
		{"a", []int{0}},
		{"\n", []int{0}},
		{"\r\n", []int{0}},
		{"\n\r", []int{0, 1}},
		{"\r\r\n", []int{0, 1}},
		{"\n\n\n", []int{0, 1, 2}},
		{"a\r\nb\r\n", []int{0, 3}},
		{"a\rb\nc", []int{0, 2, 4}},
		{"a\x0bb\fc\x00d", []int{0}},
	}
	for _, c := range cases {
		if got := slices.Collect(octet.Lines(c.s)); !slices.Equal(got, c.want) {
			t.Errorf("Lines(%q) = %v, want %v", c.s, got, c.want)
		}
	}
}

func TestLinesOfAllShortTexts(t *testing.T) {
	for _, s := range texts("a\r\n", 7) {
		if got, want := slices.Collect(octet.Lines(s)), linesByWords(s); !slices.Equal(got, want) {
			t.Errorf("Lines(%q) = %v, want %v", s, got, want)
		}
	}
}

func TestLinesMayBeLeftAndBegunAgain(t *testing.T) {
	lines := octet.Lines("a\nb\nc\nd")
	for leave := 1; leave <= 4; leave++ {
		var got []int
		for at := range lines {
			if got = append(got, at); len(got) == leave {
				break
			}
		}
		if want := []int{0, 2, 4, 6}[:leave]; !slices.Equal(got, want) {
			t.Errorf("left behind %d: %v, want %v", leave, got, want)
		}
	}
	pairs := 0
	for range lines {
		for range lines {
			pairs++
		}
	}
	if pairs != 16 {
		t.Error("ranged over within itself:", pairs)
	}
}

func TestLinesOfNothingIsAFunction(t *testing.T) {
	lines := octet.Lines("")
	if lines == nil {
		t.Fatal("nil")
	}
	for at := range lines {
		t.Error("a line at", at)
	}
}

func TestLine(t *testing.T) {
	cases := []struct {
		s    string
		from int
		word string
		want int
	}{
		{"xref\nxref\n", 0, "xref", 0},
		{"xref\nxref\n", 1, "xref", 5},
		{"xref\nxref\n", 5, "xref", 5},
		{"xref\nxref\n", 6, "xref", -1},
		{"startxref\nxref", 0, "xref", 10},
		{"a xref\r\nxre", 0, "xref", -1},
		{"a\r\nxrefs", 0, "xref", 3},
		{"a\r\nb", 2, "", 3},
		{"a\r\nb", 3, "", 3},
		{"a\r\nb", 4, "", -1},
		{"a\nb\nc", 0, "b\nc", 2},
		{"a\nb\nc", 0, "b\nc\n", -1},
		{"a\nb", 0, "\n", -1},
		{"\n\nb", 0, "\n", 0},
		{"\n\nb", 1, "\n", 1},
		{"a\r\nb", 0, "\n", -1},
		{"a\n", 0, "", 0},
		{"a\n", 1, "", -1},
		{"a\n", 2, "", -1},
		{"", 0, "", -1},
		{"", -1, "", -1},
	}
	for _, c := range cases {
		if got := octet.Line(c.s, c.from, c.word); got != c.want {
			t.Errorf("Line(%q, %d, %q) = %d, want %d", c.s, c.from, c.word, got, c.want)
		}
	}
}

func TestLineOutsideTheText(t *testing.T) {
	for _, from := range farPlaces {
		want := -1
		if from < 0 {
			want = 0
		}
		if got := octet.Line("ab\nab", from, "ab"); got != want {
			t.Errorf("Line from %d = %d, want %d", from, got, want)
		}
	}
}

// lineByWords is the first of the lines not below a place at which a word stands.
func lineByWords(s string, from int, word string) int {
	for _, at := range linesByWords(s) {
		if at >= from && strings.HasPrefix(s[at:], word) {
			return at
		}
	}
	return -1
}

func TestLineOfAllShortTexts(t *testing.T) {
	words := texts("a\r\n", 2)
	for _, s := range texts("a\r\n", 6) {
		for from := -2; from <= len(s)+2; from++ {
			for _, word := range words {
				if got, want := octet.Line(s, from, word), lineByWords(s, from, word); got != want {
					t.Errorf("Line(%q, %d, %q) = %d, want %d", s, from, word, got, want)
				}
			}
		}
	}
}

// P1.4

func TestEachByteIsOfOneKind(t *testing.T) {
	for c := range 256 {
		kinds := 0
		for kind := -1; kind <= 3; kind++ {
			kinds += octet.Span(string([]byte{byte(c)}), 0, kind)
		}
		if kinds != 1 {
			t.Errorf("the byte %d is of %d kinds", c, kinds)
		}
	}
}

func TestOneEndStandsBetweenTwoLines(t *testing.T) {
	for _, s := range texts("a\r\n", 7) {
		lines := slices.Collect(octet.Lines(s))
		for i := 1; i < len(lines); i++ {
			line := s[lines[i-1]:lines[i]]
			ends := lineEnds(line)
			if len(ends) != 1 || ends[0][1] != len(line) {
				t.Errorf("of %q the line %q", s, line)
				continue
			}
			begin, end := lines[i-1]+ends[0][0], lines[i]
			if got := octet.Ends(s, begin); got != end-begin {
				t.Errorf("of %q the end at %d has %d bytes", s, begin, got)
			}
		}
	}
}

package fields_test

import (
	"math"
	"math/big"
	"math/rand/v2"
	"slices"
	"strings"
	"testing"

	"bindery/api"
	"bindery/fields"
)

// noWidths are numbers that are no widths: those just beyond, and such as would be some, were their high halves lost.
var noWidths = []int{-1, 9, -2, 10, -8, 16, 255, 256, 1<<32 + 3, -1<<32 + 3, math.MinInt, math.MaxInt}

// numbers are those around 0, around each power of 2, and the greatest, none below 0.
func numbers() []int {
	all := []int{math.MaxInt - 1, math.MaxInt, 0x0102030405060708, 0x7F80FF0001FE8000, 0x0100000000000000}
	for n := range 1000 {
		all = append(all, n)
	}
	for bit := 10; bit < 63; bit++ {
		for i := -2; i <= 2; i++ {
			all = append(all, 1<<bit+i)
		}
	}
	return all
}

// belowNought are numbers below 0, among them such as have the low bytes of one that fits.
func belowNought() []int {
	return []int{-1, -2, -255, -256, -257, -1 << 8, -1 << 16, -1 << 31, -1 << 32, -1<<32 + 1, -1 << 56, math.MinInt + 1, math.MinInt}
}

// putAgain tells again what Put answers.
func putAgain(n, width int) (string, api.Errno) {
	switch {
	case width < 0 || width > 8:
		return "", api.ErrArg
	case n < 0 || big.NewInt(int64(n)).BitLen() > 8*width:
		return "", api.ErrRange
	}
	return string(big.NewInt(int64(n)).FillBytes(make([]byte, width))), api.OK
}

// getAgain tells again what Get answers.
func getAgain(s string) (int, api.Errno) {
	n := new(big.Int).SetBytes([]byte(s))
	switch {
	case len(s) > 8:
		return 0, api.ErrArg
	case !n.IsInt64():
		return 0, api.ErrRange
	}
	return int(n.Int64()), api.OK
}

// texts are all texts of so many bytes that are made of a few bytes.
func texts(length int) []string {
	all := []string{""}
	for range length {
		var longer []string
		for _, s := range all {
			for _, c := range []string{"\x00", "\x01", "\x7f", "\x80", "\xff"} {
				longer = append(longer, s+c)
			}
		}
		all = longer
	}
	return all
}

func checkPut(t *testing.T, n, width int, want string, code api.Errno) {
	t.Helper()
	if got, gotCode := fields.Put(n, width); got != want || gotCode != code {
		t.Errorf("Put(%d, %d) = %q, %d, want %q, %d", n, width, got, gotCode, want, code)
	}
}

func checkGet(t *testing.T, s string, want int, code api.Errno) {
	t.Helper()
	if got, gotCode := fields.Get(s); got != want || gotCode != code {
		t.Errorf("Get(%.20q) = %d, %d, want %d, %d", s, got, gotCode, want, code)
	}
}

func checkRow(t *testing.T, ns, widths []int, want string, code api.Errno) {
	t.Helper()
	if got, gotCode := fields.Row(ns, widths); got != want || gotCode != code {
		t.Errorf("Row(%v, %v) = %q, %d, want %q, %d", ns, widths, got, gotCode, want, code)
	}
}

func checkCut(t *testing.T, s string, widths, want []int, code api.Errno) {
	t.Helper()
	got, gotCode := fields.Cut(s, widths)
	if !slices.Equal(got, want) || gotCode != code {
		t.Errorf("Cut(%.20q, %v) = %v, %d, want %v, %d", s, widths, got, gotCode, want, code)
	}
}

// P3.1

func TestWidest(t *testing.T) {
	if fields.Widest != 8 {
		t.Error("Widest", fields.Widest)
	}
}

func TestPut(t *testing.T) {
	cases := []struct {
		n, width int
		want     string
		code     api.Errno
	}{
		{258, 3, "\x00\x01\x02", api.OK},
		{0, 0, "", api.OK},
		{0, 1, "\x00", api.OK},
		{0, 8, "\x00\x00\x00\x00\x00\x00\x00\x00", api.OK},
		{1, 0, "", api.ErrRange},
		{256, 0, "", api.ErrRange},
		{math.MaxInt, 0, "", api.ErrRange},
		{255, 1, "\xff", api.OK},
		{256, 1, "", api.ErrRange},
		{256, 2, "\x01\x00", api.OK},
		{65535, 2, "\xff\xff", api.OK},
		{65536, 2, "", api.ErrRange},
		{65536, 3, "\x01\x00\x00", api.OK},
		{1<<56 - 1, 7, "\xff\xff\xff\xff\xff\xff\xff", api.OK},
		{1 << 56, 7, "", api.ErrRange},
		{1 << 56, 8, "\x01\x00\x00\x00\x00\x00\x00\x00", api.OK},
		{0x0102030405060708, 8, "\x01\x02\x03\x04\x05\x06\x07\x08", api.OK},
		{0x0102030405060708, 7, "", api.ErrRange},
		{math.MaxInt, 8, "\x7f\xff\xff\xff\xff\xff\xff\xff", api.OK},
		{math.MaxInt, 7, "", api.ErrRange},
		{-1, 8, "", api.ErrRange},
		{-1, 1, "", api.ErrRange},
		{-1, 0, "", api.ErrRange},
		{-256, 1, "", api.ErrRange},
		{math.MinInt, 8, "", api.ErrRange},
		{math.MinInt, 0, "", api.ErrRange},
	}
	for _, c := range cases {
		checkPut(t, c.n, c.width, c.want, c.code)
	}
}

func TestPutRefusesWidthsAheadOfNumbers(t *testing.T) {
	for _, width := range noWidths {
		for _, n := range []int{0, 7, 258, -1, math.MinInt, math.MaxInt} {
			checkPut(t, n, width, "", api.ErrArg)
		}
	}
}

func TestPutOfManyNumbers(t *testing.T) {
	for _, n := range append(numbers(), belowNought()...) {
		for width := -1; width <= 9; width++ {
			want, code := putAgain(n, width)
			checkPut(t, n, width, want, code)
		}
	}
}

func TestGet(t *testing.T) {
	cases := []struct {
		s    string
		want int
		code api.Errno
	}{
		{"", 0, api.OK},
		{"\x00", 0, api.OK},
		{"\x00\x01\x02", 258, api.OK},
		{"\x02\x01", 513, api.OK},
		{"\x80", 128, api.OK},
		{"\xff", 255, api.OK},
		{"\xff\xff\xff\xff", 1<<32 - 1, api.OK},
		{"\xc3\xa9", 0xC3A9, api.OK},
		{"0", 48, api.OK},
		{"\xff\xff\xff\xff\xff\xff\xff", 1<<56 - 1, api.OK},
		{"\x00\x00\x00\x00\x00\x00\x00\x00", 0, api.OK},
		{"\x00\xff\xff\xff\xff\xff\xff\xff", 1<<56 - 1, api.OK},
		{"\x01\x02\x03\x04\x05\x06\x07\x08", 0x0102030405060708, api.OK},
		{"\x7f\xff\xff\xff\xff\xff\xff\xfe", math.MaxInt - 1, api.OK},
		{"\x7f\xff\xff\xff\xff\xff\xff\xff", math.MaxInt, api.OK},
		{"\x80\x00\x00\x00\x00\x00\x00\x00", 0, api.ErrRange},
		{"\x80\x00\x00\x00\x00\x00\x00\x01", 0, api.ErrRange},
		{"\xff\xff\xff\xff\xff\xff\xff\xff", 0, api.ErrRange},
		{"\x00\x00\x00\x00\x00\x00\x00\x00\x00", 0, api.ErrArg},
		{"\x00\x00\x00\x00\x00\x00\x00\x00\x07", 0, api.ErrArg},
		{"\x00\x80\x00\x00\x00\x00\x00\x00\x00", 0, api.ErrArg},
		{"\xff\xff\xff\xff\xff\xff\xff\xff\xff", 0, api.ErrArg},
		{strings.Repeat("\x00", 1<<20), 0, api.ErrArg},
	}
	for _, c := range cases {
		checkGet(t, c.s, c.want, c.code)
	}
}

func TestGetOfAllTextsOfFewBytes(t *testing.T) {
	for length := range 8 {
		for _, s := range texts(length) {
			want, code := getAgain(s)
			checkGet(t, s, want, code)
		}
	}
}

func TestGetOfEachByteAtEachPlace(t *testing.T) {
	for length := 1; length <= 9; length++ {
		for at := range length {
			for c := range 256 {
				for _, around := range []byte{0, 0xFF} {
					bytes := slices.Repeat([]byte{around}, length)
					bytes[at] = byte(c)
					want, code := getAgain(string(bytes))
					checkGet(t, string(bytes), want, code)
				}
			}
		}
	}
}

func TestNeed(t *testing.T) {
	cases := []struct {
		ns   []int
		want int
	}{
		{nil, 0},
		{[]int{}, 0},
		{[]int{0}, 0},
		{[]int{0, 0, 0}, 0},
		{[]int{1}, 1},
		{[]int{255}, 1},
		{[]int{256}, 2},
		{[]int{255, 256}, 2},
		{[]int{256, 255}, 2},
		{[]int{65536, 0, 1}, 3},
		{[]int{0, 65536, 1}, 3},
		{[]int{0, 1, 65536}, 3},
		{[]int{128, 128}, 1},
		{[]int{1 << 56, 1<<56 - 1}, 8},
		{[]int{1<<56 - 1, 1}, 7},
		{[]int{math.MaxInt}, 8},
		{[]int{math.MaxInt, math.MaxInt}, 8},
		{[]int{-1}, -1},
		{[]int{math.MinInt}, -1},
		{[]int{-1, 300}, -1},
		{[]int{300, -1}, -1},
		{[]int{1, -256, math.MaxInt}, -1},
		{[]int{math.MaxInt, 0, math.MinInt}, -1},
		{append(slices.Repeat([]int{7}, 100000), 1<<40, 3), 6},
		{append(slices.Repeat([]int{7}, 100000), -1), -1},
	}
	for _, c := range cases {
		if got := fields.Need(c.ns...); got != c.want {
			t.Errorf("Need(%v) = %d, want %d", c.ns[max(0, len(c.ns)-4):], got, c.want)
		}
	}
}

func TestNeedIsTheLeastWidthThatFits(t *testing.T) {
	for _, n := range numbers() {
		need := fields.Need(n)
		for width := range 9 {
			_, code := fields.Put(n, width)
			if fits := code == api.OK; fits != (width >= need) {
				t.Errorf("Need(%d) = %d, and Put in %d is %d", n, need, width, code)
			}
		}
		if want := (big.NewInt(int64(n)).BitLen() + 7) / 8; need != want {
			t.Errorf("Need(%d) = %d, want %d", n, need, want)
		}
	}
}

func TestNeedOfSeveralIsTheGreatestOfEach(t *testing.T) {
	all := numbers()
	for i, a := range all {
		b, c := all[(i*7+3)%len(all)], all[(i*31+11)%len(all)]
		want := max(fields.Need(a), fields.Need(b), fields.Need(c))
		if got := fields.Need(a, b, c); got != want {
			t.Errorf("Need(%d, %d, %d) = %d, want %d", a, b, c, got, want)
		}
	}
}

// P3.2

func TestRow(t *testing.T) {
	cases := []struct {
		ns, widths []int
		want       string
		code       api.Errno
	}{
		{nil, nil, "", api.OK},
		{[]int{}, nil, "", api.OK},
		{[]int{0}, []int{0}, "", api.OK},
		{[]int{258}, []int{3}, "\x00\x01\x02", api.OK},
		{[]int{1, 258, 7}, []int{1, 4, 2}, "\x01\x00\x00\x01\x02\x00\x07", api.OK},
		{[]int{1, 0, 2}, []int{1, 0, 1}, "\x01\x02", api.OK},
		{[]int{math.MaxInt, 0, 255}, []int{8, 8, 1}, "\x7f\xff\xff\xff\xff\xff\xff\xff\x00\x00\x00\x00\x00\x00\x00\x00\xff", api.OK},

		{[]int{1}, nil, "", api.ErrArg},
		{nil, []int{1}, "", api.ErrArg},
		{nil, []int{0}, "", api.ErrArg},
		{[]int{1, 2}, []int{1}, "", api.ErrArg},
		{[]int{1}, []int{1, 0}, "", api.ErrArg},
		{[]int{-1, 2}, []int{1}, "", api.ErrArg},
		{[]int{256}, []int{1, 2}, "", api.ErrArg},

		{[]int{-1}, []int{8}, "", api.ErrRange},
		{[]int{1}, []int{0}, "", api.ErrRange},
		{[]int{0, 256}, []int{0, 1}, "", api.ErrRange},
		{[]int{1, 2, 3}, []int{1, 9, 1}, "", api.ErrArg},
		{[]int{1, 2, 3}, []int{1, 1, -1}, "", api.ErrArg},
	}
	for _, c := range cases {
		checkRow(t, c.ns, c.widths, c.want, c.code)
	}
}

func TestRowTellsTheFirstErrorFromTheLeft(t *testing.T) {
	checkRow(t, []int{256, 1}, []int{1, 9}, "", api.ErrRange)
	checkRow(t, []int{1, 256}, []int{9, 1}, "", api.ErrArg)
	checkRow(t, []int{-1, 1}, []int{8, -1}, "", api.ErrRange)
	checkRow(t, []int{1, -1}, []int{-1, 8}, "", api.ErrArg)
	checkRow(t, []int{-1}, []int{9}, "", api.ErrArg)
	checkRow(t, []int{1, 2, 3, 1 << 16, -5, 6}, []int{1, 1, 1, 2, 10, -1}, "", api.ErrRange)
	checkRow(t, []int{1, 2, 3, -5, 1 << 16, 6}, []int{1, 1, 1, 10, 2, 1}, "", api.ErrArg)
}

func TestRowOfSixteenAndMore(t *testing.T) {
	for length := range 40 {
		ns, widths := slices.Repeat([]int{258}, length), slices.Repeat([]int{2}, length)
		want, code := strings.Repeat("\x01\x02", length), api.OK
		if length > 16 {
			want, code = "", api.ErrArg
		}
		checkRow(t, ns, widths, want, code)
	}
	checkRow(t, slices.Repeat([]int{-1}, 16), slices.Repeat([]int{1}, 16), "", api.ErrRange)
	checkRow(t, slices.Repeat([]int{-1}, 17), slices.Repeat([]int{1}, 17), "", api.ErrArg)
	checkRow(t, slices.Repeat([]int{0}, 17), slices.Repeat([]int{0}, 17), "", api.ErrArg)
	checkRow(t, make([]int, 16), make([]int, 17), "", api.ErrArg)
	checkRow(t, make([]int, 17), make([]int, 16), "", api.ErrArg)
	checkRow(t, slices.Repeat([]int{math.MaxInt}, 16), slices.Repeat([]int{8}, 16), strings.Repeat("\x7f\xff\xff\xff\xff\xff\xff\xff", 16), api.OK)
}

func TestCut(t *testing.T) {
	cases := []struct {
		s            string
		widths, want []int
		code         api.Errno
	}{
		{"", nil, nil, api.OK},
		{"", []int{}, nil, api.OK},
		{"", []int{0}, []int{0}, api.OK},
		{"", []int{0, 0, 0}, []int{0, 0, 0}, api.OK},
		{"\x00\x01\x02", []int{3}, []int{258}, api.OK},
		{"\x01\x00\x00\x01\x02\x00\x07", []int{1, 4, 2}, []int{1, 258, 7}, api.OK},
		{"\x01\x02", []int{1, 0, 1}, []int{1, 0, 2}, api.OK},
		{"\xc3\xa9\xff", []int{1, 2}, []int{0xC3, 0xA9FF}, api.OK},
		{"\x7f\xff\xff\xff\xff\xff\xff\xff\xff", []int{8, 1}, []int{math.MaxInt, 255}, api.OK},
		{"\xff\xff\xff\xff\xff\xff\xff\x01", []int{7, 1}, []int{1<<56 - 1, 1}, api.OK},

		{"\x01", nil, nil, api.ErrForm},
		{"\x01", []int{0}, nil, api.ErrForm},
		{"", []int{1}, nil, api.ErrForm},
		{"\x01\x02", []int{1, 2}, nil, api.ErrForm},
		{"\x01\x02\x03\x04", []int{1, 2}, nil, api.ErrForm},
		{"\x00\x00\x00", []int{1, 1}, nil, api.ErrForm},

		{"\x80\x00\x00\x00\x00\x00\x00\x00", []int{8}, nil, api.ErrRange},
		{"\x01\xff\xff\xff\xff\xff\xff\xff\xff", []int{1, 8}, nil, api.ErrRange},
		{"\xff\xff\xff\xff\xff\xff\xff\xff\x01", []int{8, 1}, nil, api.ErrRange},
	}
	for _, c := range cases {
		checkCut(t, c.s, c.widths, c.want, c.code)
	}
}

func TestCutRefusesWidthsAheadOfBytes(t *testing.T) {
	for _, width := range noWidths {
		// As long as the widths are together, and not; a wrong width ahead, and behind; with bytes that Get refuses.
		for _, widths := range [][]int{{width}, {width, 1}, {1, width}, {8, width}, {1, width, 3, -width}} {
			for _, length := range []int{0, 1, 2, 8, 9, 10, 11, 17} {
				checkCut(t, strings.Repeat("\x00", length), widths, nil, api.ErrArg)
				checkCut(t, strings.Repeat("\xff", length), widths, nil, api.ErrArg)
			}
		}
	}
	checkCut(t, "\x01", []int{2, -1}, nil, api.ErrArg)
	checkCut(t, "", []int{-1, 1}, nil, api.ErrArg)
	checkCut(t, "", []int{math.MinInt, math.MinInt}, nil, api.ErrArg)
	checkCut(t, strings.Repeat("\x00", 9), []int{9}, nil, api.ErrArg)
}

func TestCutRefusesAWrongLengthAheadOfNumbers(t *testing.T) {
	great := "\x80\x00\x00\x00\x00\x00\x00\x00"
	checkCut(t, great, []int{8, 1}, nil, api.ErrForm)
	checkCut(t, great+"\x01", []int{8}, nil, api.ErrForm)
	checkCut(t, great+"\x01\x02", []int{8, 1}, nil, api.ErrForm)
	checkCut(t, strings.Repeat("\xff", 1<<20), []int{8, 8}, nil, api.ErrForm)
}

func TestCutOfSixteenAndMore(t *testing.T) {
	for length := range 40 {
		s, widths := strings.Repeat("\x01\x02", length), slices.Repeat([]int{2}, length)
		want, code := slices.Repeat([]int{258}, length), api.OK
		if length > 16 {
			want, code = nil, api.ErrArg
		}
		checkCut(t, s, widths, want, code)
	}
	checkCut(t, "", make([]int, 16), make([]int, 16), api.OK)
	checkCut(t, "", make([]int, 17), nil, api.ErrArg)
	checkCut(t, "\x01", make([]int, 17), nil, api.ErrArg)
	checkCut(t, strings.Repeat("\x7f\xff\xff\xff\xff\xff\xff\xff", 16), slices.Repeat([]int{8}, 16), slices.Repeat([]int{math.MaxInt}, 16), api.OK)
	checkCut(t, strings.Repeat("\xff", 136), slices.Repeat([]int{8}, 17), nil, api.ErrArg)
}

func TestWhatIsHandedInIsNotChanged(t *testing.T) {
	ns, widths := []int{300, 1, 258, 0}, []int{2, 1, 3, 0}
	fields.Need(ns...)
	row, _ := fields.Row(ns, widths)
	fields.Cut(row, widths)
	fields.Row(ns, widths[:3])
	fields.Cut(row, widths[:3])
	if !slices.Equal(ns, []int{300, 1, 258, 0}) || !slices.Equal(widths, []int{2, 1, 3, 0}) {
		t.Error("changed to", ns, widths)
	}
}

func TestWhatIsCutIsTheCallersOwn(t *testing.T) {
	widths := []int{1, 1}
	first, _ := fields.Cut("\x01\x02", widths)
	second, _ := fields.Cut("\x01\x02", widths)
	if len(first) != 2 {
		t.Fatal("cut into", first)
	}
	first[0], first[1] = 70, 71
	if !slices.Equal(second, []int{1, 2}) || !slices.Equal(widths, []int{1, 1}) {
		t.Error("changed with another answer:", second, widths)
	}
	checkCut(t, "\x01\x02", widths, []int{1, 2}, api.OK)
}

// P3.3

func TestWhatIsPutIsGot(t *testing.T) {
	for _, n := range numbers() {
		for width := fields.Need(n); width <= 8; width++ {
			s, code := fields.Put(n, width)
			if code != api.OK || len(s) != width {
				t.Errorf("Put(%d, %d) = %q, %d", n, width, s, code)
			}
			checkGet(t, s, n, api.OK)
		}
	}
}

func TestWhatIsGotIsPut(t *testing.T) {
	for length := range 9 {
		for _, s := range texts(min(length, 6)) {
			s = strings.Repeat("\x13", length-len(s)) + s
			n, code := fields.Get(s)
			if code != api.OK {
				t.Errorf("Get(%q) is refused by %d", s, code)
			}
			checkPut(t, n, length, s, api.OK)
		}
	}
}

func TestWhatIsARowIsCutIntoItsNumbers(t *testing.T) {
	chance, all := rand.New(rand.NewPCG(3, 1)), numbers()
	for range 5000 {
		ns, widths := make([]int, chance.IntN(17)), []int{}
		for i := range ns {
			ns[i] = all[chance.IntN(len(all))]
			need := fields.Need(ns[i])
			widths = append(widths, need+chance.IntN(9-need))
		}
		row, code := fields.Row(ns, widths)
		want := ""
		for i, n := range ns {
			field, _ := putAgain(n, widths[i])
			want += field
		}
		if row != want || code != api.OK {
			t.Fatalf("Row(%v, %v) = %q, %d, want %q", ns, widths, row, code, want)
		}
		checkCut(t, row, widths, ns, api.OK)
	}
}

func TestWhatIsCutIsARow(t *testing.T) {
	chance := rand.New(rand.NewPCG(3, 2))
	cut, refused := 0, 0
	for range 5000 {
		widths, bytes := make([]int, chance.IntN(17)), []byte{}
		for i := range widths {
			widths[i] = chance.IntN(9)
			for range widths[i] {
				bytes = append(bytes, byte(chance.Uint32()))
			}
		}
		ns, code := fields.Cut(string(bytes), widths)
		if code != api.OK {
			refused++
			checkCut(t, string(bytes), widths, nil, api.ErrRange)
			continue
		}
		cut++
		checkRow(t, ns, widths, string(bytes), api.OK)
	}
	if cut < 1000 || refused < 1000 {
		t.Error("so many are cut, and refused:", cut, refused)
	}
}

package digits_test

import (
	"fmt"
	"math"
	"math/big"
	"regexp"
	"strings"
	"testing"

	"bindery/api"
	"bindery/digits"
)

// reader is one of the calls that read a text as a number.
type reader func(string) (int, api.Errno)

// reading is a text, and what it is read as.
type reading struct {
	s    string
	want int
	code api.Errno
}

// check holds what is read against what ought to be.
func check(t *testing.T, name string, read reader, s string, want int, code api.Errno) {
	t.Helper()
	if len(s) > 60 {
		name += " (cut short)"
	}
	if got, gotCode := read(s); got != want || gotCode != code {
		t.Errorf("%s(%.60q) = %d, %d, want %d, %d", name, s, got, gotCode, want, code)
	}
}

func checkAll(t *testing.T, name string, read reader, readings []reading) {
	t.Helper()
	for _, r := range readings {
		check(t, name, read, r.s, r.want, r.code)
	}
}

// numbers are those around 0, around powers of 2 and of 10, and at the ends of an int, each with its negative.
func numbers() []int {
	all := []int{math.MinInt, math.MinInt + 1, math.MaxInt - 1, math.MaxInt}
	around := func(n int) {
		for i := -2; i <= 2; i++ {
			all = append(all, n+i, -n-i)
		}
	}
	for n := range 2000 {
		around(n)
	}
	for bit := range 62 {
		around(1 << bit)
	}
	for n, i := 1, 0; i < 19; n, i = n*10, i+1 {
		around(n)
	}
	return all
}

// texts are all texts of at most so many bytes, each one of the letters.
func texts(letters string, most int) []string {
	all := []string{""}
	longest := all
	for range most {
		var longer []string
		for _, s := range longest {
			for i := range len(letters) {
				longer = append(longer, s+letters[i:i+1])
			}
		}
		all = append(all, longer...)
		longest = longer
	}
	return all
}

// bigAndStrange are texts at which sums would turn round, and such as are told as numbers elsewhere.
func bigAndStrange() []string {
	all := []string{
		"007", "00", "-0", "+0", "-00", "-007", "+007", "+7", "--7", "++7", "+-7", "-+7", "7-", "7+", "-", "+", "",
		" 7", "7 ", "- 7", "7\n", "\t7", "7\x00", "\x007", "1_000", "1,000", "1.0", "1.", ".1", "1e3", "0x10", "0b1", "0o7", "x", "NaN", "Inf",
		"\u0663", "7\u0663", "\uff17", "\u2212" + "7", "\ufeff7", "\xff", "7\xff", "\xb2", "\xb1\xb2",
		"2147483648x", "99999999999999999999x", "-99999999999999999999x", "99999999999999999999-", "99999999999999999999 ",
	}
	for _, of := range []uint{31, 32, 63, 64, 65, 128} {
		border := new(big.Int).Lsh(big.NewInt(1), of)
		for i := int64(-2); i <= 2; i++ {
			n := new(big.Int).Add(border, big.NewInt(i))
			all = append(all, n.String(), "-"+n.String(), "+"+n.String(), "0"+n.String(), "-0"+n.String())
		}
	}
	return all
}

var (
	putForm   = regexp.MustCompile(`^(0|-?[1-9][0-9]*)\z`)
	looseForm = regexp.MustCompile(`^[+-]?[0-9]+\z`)
	fixedForm = regexp.MustCompile(`^[0-9]+\z`)
	ahead     = regexp.MustCompile(`^[0-9]*`)
)

// inRange is a number that is from -MaxInt to MaxInt, or ErrRange.
func inRange(n *big.Int) (int, api.Errno) {
	if n.CmpAbs(big.NewInt(1<<31-1)) > 0 {
		return 0, api.ErrRange
	}
	return int(n.Int64()), api.OK
}

// readByForm tells again what is read of a text that must have a form.
func readByForm(s string, form *regexp.Regexp) (int, api.Errno) {
	if !form.MatchString(s) {
		return 0, api.ErrForm
	}
	n, _ := new(big.Int).SetString(s, 10)
	return inRange(n)
}

// readAgain tells again what Read answers.
func readAgain(s string) (int, api.Errno) {
	if n, known := new(big.Int).SetString(s, 10); known && !n.IsInt64() {
		return 0, api.ErrForm
	}
	return readByForm(s, putForm)
}

func looseAgain(s string) (int, api.Errno) { return readByForm(s, looseForm) }

func fixedAgain(s string) (int, api.Errno) { return readByForm(s, fixedForm) }

// checkAgain holds all three readers, and Count, against their second telling.
func checkAgain(t *testing.T, s string) {
	t.Helper()
	n, code := readAgain(s)
	check(t, "Read", digits.Read, s, n, code)
	n, code = looseAgain(s)
	check(t, "Loose", digits.Loose, s, n, code)
	n, code = fixedAgain(s)
	check(t, "Fixed", digits.Fixed, s, n, code)
	if got, want := digits.Count(s), len(ahead.FindString(s)); got != want {
		t.Errorf("Count(%q) = %d, want %d", s, got, want)
	}
}

// P2.1

func TestPut(t *testing.T) {
	cases := map[int]string{
		0: "0", 1: "1", -1: "-1", 9: "9", 10: "10", -10: "-10", 100: "100", 1234567890: "1234567890",
		1<<31 - 1: "2147483647", 1 << 31: "2147483648", -1<<31 + 1: "-2147483647", -1 << 31: "-2147483648",
		math.MaxInt: "9223372036854775807", math.MinInt: "-9223372036854775808", math.MinInt + 1: "-9223372036854775807",
	}
	for n, want := range cases {
		if got := digits.Put(n); got != want {
			t.Errorf("Put(%d) = %q, want %q", n, got, want)
		}
	}
}

func TestPutOfManyNumbers(t *testing.T) {
	for _, n := range numbers() {
		if got, want := digits.Put(n), fmt.Sprintf("%d", n); got != want {
			t.Errorf("Put(%d) = %q, want %q", n, got, want)
		}
	}
}

func TestPad(t *testing.T) {
	cases := []struct {
		n, width int
		want     string
		code     api.Errno
	}{
		{7, 3, "007", api.OK},
		{7, 1, "7", api.OK},
		{0, 1, "0", api.OK},
		{0, 2, "00", api.OK},
		{0, 20, "00000000000000000000", api.OK},
		{999, 3, "999", api.OK},
		{1000, 3, "", api.ErrRange},
		{10, 1, "", api.ErrRange},
		{9, 1, "9", api.OK},
		{1 << 31, 10, "2147483648", api.OK},
		{math.MaxInt, 20, "09223372036854775807", api.OK},
		{math.MaxInt, 19, "9223372036854775807", api.OK},
		{math.MaxInt, 18, "", api.ErrRange},
		{math.MaxInt, 1, "", api.ErrRange},
		{-1, 1, "", api.ErrRange},
		{-1, 2, "", api.ErrRange},
		{-7, 3, "", api.ErrRange},
		{-7, 20, "", api.ErrRange},
		{math.MinInt, 20, "", api.ErrRange},
		{math.MinInt + 1, 20, "", api.ErrRange},
	}
	for _, c := range cases {
		if got, code := digits.Pad(c.n, c.width); got != c.want || code != c.code {
			t.Errorf("Pad(%d, %d) = %q, %d, want %q, %d", c.n, c.width, got, code, c.want, c.code)
		}
	}
}

func TestPadRefusesWidthsAheadOfNumbers(t *testing.T) {
	widths := []int{0, -1, -2, -20, 21, 22, 64, math.MinInt, math.MaxInt, 1<<32 + 3, -1<<32 + 3}
	for _, width := range widths {
		for _, n := range []int{7, 0, 1000, -1, math.MinInt, math.MaxInt} {
			if got, code := digits.Pad(n, width); got != "" || code != api.ErrArg {
				t.Errorf("Pad(%d, %d) = %q, %d, want ErrArg", n, width, got, code)
			}
		}
	}
}

func TestPadOfManyNumbers(t *testing.T) {
	for _, n := range numbers() {
		for width := 1; width <= 20; width++ {
			want, code := fmt.Sprintf("%0*d", width, n), api.OK
			if n < 0 || len(want) > width {
				want, code = "", api.ErrRange
			}
			if got, gotCode := digits.Pad(n, width); got != want || gotCode != code {
				t.Errorf("Pad(%d, %d) = %q, %d, want %q, %d", n, width, got, gotCode, want, code)
			}
		}
	}
}

// P2.2

func TestRead(t *testing.T) {
	checkAll(t, "Read", digits.Read, []reading{
		{"0", 0, api.OK}, {"7", 7, api.OK}, {"-7", -7, api.OK}, {"10", 10, api.OK}, {"-100", -100, api.OK},
		{"2147483647", 2147483647, api.OK}, {"-2147483647", -2147483647, api.OK},
		{"2147483648", 0, api.ErrRange}, {"-2147483648", 0, api.ErrRange},
		{"4294967297", 0, api.ErrRange}, {"-4294967295", 0, api.ErrRange},
		{"9223372036854775807", 0, api.ErrRange}, {"-9223372036854775808", 0, api.ErrRange},
		{"9223372036854775808", 0, api.ErrForm}, {"-9223372036854775809", 0, api.ErrForm},
		{"18446744073709551617", 0, api.ErrForm}, {"99999999999999999999", 0, api.ErrForm},
		{"007", 0, api.ErrForm}, {"00", 0, api.ErrForm}, {"-0", 0, api.ErrForm}, {"-07", 0, api.ErrForm},
		{"+7", 0, api.ErrForm}, {"+0", 0, api.ErrForm}, {"", 0, api.ErrForm}, {"-", 0, api.ErrForm}, {"+", 0, api.ErrForm},
		{"--7", 0, api.ErrForm}, {" 7", 0, api.ErrForm}, {"7 ", 0, api.ErrForm}, {"7\n", 0, api.ErrForm}, {"7x", 0, api.ErrForm},
		{"1_000", 0, api.ErrForm}, {"0x7", 0, api.ErrForm}, {"1e3", 0, api.ErrForm}, {"\u0663", 0, api.ErrForm},
		{"02147483648", 0, api.ErrForm}, {"+2147483648", 0, api.ErrForm}, {"2147483648x", 0, api.ErrForm},
	})
}

func TestLoose(t *testing.T) {
	checkAll(t, "Loose", digits.Loose, []reading{
		{"0", 0, api.OK}, {"7", 7, api.OK}, {"-7", -7, api.OK}, {"+7", 7, api.OK},
		{"007", 7, api.OK}, {"+007", 7, api.OK}, {"-007", -7, api.OK}, {"00", 0, api.OK}, {"-0", 0, api.OK}, {"+0", 0, api.OK},
		{"2147483647", 2147483647, api.OK}, {"-2147483647", -2147483647, api.OK}, {"+2147483647", 2147483647, api.OK},
		{"-0002147483647", -2147483647, api.OK}, {"+00000000000000000000002147483647", 2147483647, api.OK},
		{"2147483648", 0, api.ErrRange}, {"-2147483648", 0, api.ErrRange}, {"+2147483648", 0, api.ErrRange}, {"-0002147483648", 0, api.ErrRange},
		{"4294967297", 0, api.ErrRange}, {"9223372036854775807", 0, api.ErrRange}, {"-9223372036854775808", 0, api.ErrRange},
		{"9223372036854775808", 0, api.ErrRange}, {"-9223372036854775809", 0, api.ErrRange},
		{"18446744073709551617", 0, api.ErrRange}, {"-99999999999999999999", 0, api.ErrRange},
		{"", 0, api.ErrForm}, {"-", 0, api.ErrForm}, {"+", 0, api.ErrForm},
		{"--7", 0, api.ErrForm}, {"++7", 0, api.ErrForm}, {"+-7", 0, api.ErrForm}, {"-+7", 0, api.ErrForm}, {"7-", 0, api.ErrForm}, {"7+7", 0, api.ErrForm},
		{" 7", 0, api.ErrForm}, {"- 7", 0, api.ErrForm}, {"7 ", 0, api.ErrForm}, {"7\n", 0, api.ErrForm}, {"x7", 0, api.ErrForm}, {"7x", 0, api.ErrForm},
		{"1_000", 0, api.ErrForm}, {"0x7", 0, api.ErrForm}, {"1.0", 0, api.ErrForm}, {"\u0663", 0, api.ErrForm},
		{"99999999999999999999x", 0, api.ErrForm}, {"-99999999999999999999-", 0, api.ErrForm},
	})
}

func TestFixed(t *testing.T) {
	checkAll(t, "Fixed", digits.Fixed, []reading{
		{"0", 0, api.OK}, {"7", 7, api.OK}, {"007", 7, api.OK}, {"00", 0, api.OK}, {"0000000016", 16, api.OK}, {"65535", 65535, api.OK},
		{"2147483647", 2147483647, api.OK}, {"00000000000000000000002147483647", 2147483647, api.OK},
		{"2147483648", 0, api.ErrRange}, {"0002147483648", 0, api.ErrRange}, {"4294967297", 0, api.ErrRange},
		{"9223372036854775807", 0, api.ErrRange}, {"9223372036854775808", 0, api.ErrRange},
		{"18446744073709551616", 0, api.ErrRange}, {"18446744073709551617", 0, api.ErrRange},
		{"", 0, api.ErrForm}, {"-", 0, api.ErrForm}, {"+", 0, api.ErrForm}, {"-7", 0, api.ErrForm}, {"+7", 0, api.ErrForm}, {"-0", 0, api.ErrForm}, {"+0", 0, api.ErrForm},
		{" 7", 0, api.ErrForm}, {"7 ", 0, api.ErrForm}, {"7\n", 0, api.ErrForm}, {"7x7", 0, api.ErrForm}, {"7-7", 0, api.ErrForm},
		{"1_000", 0, api.ErrForm}, {"0x7", 0, api.ErrForm}, {"\uff17", 0, api.ErrForm}, {"7\xff", 0, api.ErrForm},
		{"99999999999999999999x", 0, api.ErrForm}, {"-99999999999999999999", 0, api.ErrForm}, {"+2147483648", 0, api.ErrForm},
	})
}

func TestReadersOfAllShortTexts(t *testing.T) {
	for _, s := range texts("0179+- x", 5) {
		checkAgain(t, s)
	}
}

func TestReadersOfBigAndStrangeTexts(t *testing.T) {
	for _, s := range bigAndStrange() {
		checkAgain(t, s)
	}
}

func TestReadersOfEachByte(t *testing.T) {
	for c := range 256 {
		letter := string([]byte{byte(c)})
		for _, s := range []string{letter, letter + "7", "7" + letter, "7" + letter + "7", "-" + letter, "+" + letter + "7"} {
			checkAgain(t, s)
		}
	}
}

func TestReadersOfLongTexts(t *testing.T) {
	noughts, nines := strings.Repeat("0", 1<<20), strings.Repeat("9", 1<<20)
	for end, want := range map[string]int{"": 0, "7": 7, "2147483647": 2147483647} {
		s := noughts + end
		check(t, "Read", digits.Read, s, 0, api.ErrForm)
		check(t, "Loose", digits.Loose, s, want, api.OK)
		check(t, "Loose", digits.Loose, "-"+s, -want, api.OK)
		check(t, "Fixed", digits.Fixed, s, want, api.OK)
	}
	for _, s := range []string{nines, noughts + "2147483648", "1" + noughts} {
		check(t, "Read", digits.Read, s, 0, api.ErrForm)
		check(t, "Loose", digits.Loose, s, 0, api.ErrRange)
		check(t, "Loose", digits.Loose, "-"+s, 0, api.ErrRange)
		check(t, "Fixed", digits.Fixed, s, 0, api.ErrRange)
	}
	for _, read := range []reader{digits.Read, digits.Loose, digits.Fixed} {
		check(t, "a reader", read, nines+"x", 0, api.ErrForm)
	}
}

// P2.3

func TestCount(t *testing.T) {
	cases := map[string]int{
		"": 0, "7": 1, "007": 3, "0": 1, "123abc": 3, "12 34": 2, "x12": 0, " 12": 0, "-12": 0, "+12": 0,
		"1-2": 1, "0123456789": 10, "9/": 1, "9:": 1, "/9": 0, ":9": 0, "12\u06631": 2, "\u0663": 0, "1\xff2": 1, "1\x002": 1,
		"99999999999999999999999": 23,
	}
	for s, want := range cases {
		if got := digits.Count(s); got != want {
			t.Errorf("Count(%q) = %d, want %d", s, got, want)
		}
	}
	if got := digits.Count(strings.Repeat("5", 1<<20) + "x"); got != 1<<20 {
		t.Error("Count of many digits", got)
	}
}

// P2.4

func TestWhatIsPutIsRead(t *testing.T) {
	for _, n := range numbers() {
		want, code := inRange(big.NewInt(int64(n)))
		check(t, "Read", digits.Read, digits.Put(n), want, code)
		check(t, "Loose", digits.Loose, digits.Put(n), want, code)
	}
}

func TestWhatIsReadIsPut(t *testing.T) {
	for _, s := range texts("019-+", 6) {
		if n, code := digits.Read(s); code == api.OK && digits.Put(n) != s {
			t.Errorf("Put(Read(%q)) = %q", s, digits.Put(n))
		}
	}
}

func TestWhatIsPaddedIsFixed(t *testing.T) {
	for _, n := range numbers() {
		want, wantCode := inRange(big.NewInt(int64(n)))
		for width := 1; width <= 20; width++ {
			s, code := digits.Pad(n, width)
			if code != api.OK {
				continue
			}
			if len(s) != width || digits.Count(s) != width {
				t.Errorf("Pad(%d, %d) = %q", n, width, s)
			}
			check(t, "Fixed", digits.Fixed, s, want, wantCode)
		}
	}
}

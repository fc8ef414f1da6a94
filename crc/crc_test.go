package crc_test

import (
	"hash/crc32"
	"math"
	"math/rand/v2"
	"slices"
	"strings"
	"testing"

	"bindery/api"
	"bindery/crc"
)

// greatest is the greatest sum.
const greatest = 1<<32 - 1

// noSums are numbers that are no sums: those just beyond, and such as would be some, were their high halves lost.
var noSums = []int{-1, -2, -3421780262, -greatest, 1 << 32, 1<<32 + 1, 1<<32 + 3421780262, 1<<33 - 1, -1 << 32, 1 << 62, math.MaxInt, math.MinInt, math.MinInt + 1}

// edges are sums at the edges, and around each power of 2.
func edges() []int {
	all := []int{0, 1, 2, greatest - 2, greatest - 1, greatest, 3421780262, 3988292384, 0x12345678, 0x87654321}
	for bit := 2; bit < 32; bit++ {
		all = append(all, 1<<bit-1, 1<<bit, 1<<bit+1)
	}
	return all
}

// halve tells again what one halving makes of a number, where the bit that falls off is held against it.
func halve(n uint64) uint64 {
	if n%2 == 1 {
		return n/2 ^ 3988292384
	}
	return n / 2
}

// sumAgain tells again what Sum answers, bit by bit.
func sumAgain(s string) int {
	n := uint64(greatest)
	for _, c := range []byte(s) {
		low := n%256 ^ uint64(c)
		n = n - n%256 + low
		for range 8 {
			n = halve(n)
		}
	}
	return int(greatest - n)
}

// joinAgain tells again what Join answers of sums and a length that is not great.
func joinAgain(a, b, n int) int {
	sum := uint64(a)
	for range 8 * n {
		sum = halve(sum)
	}
	return int(sum ^ uint64(b))
}

// joinByParts tells again what Join answers of a great length, which is taken in as many halvings as each of its bits stands for: a row of what they make of each bit is made anew from the row for half as many.
func joinByParts(a, b, n int) int {
	var row [32]uint64
	for i := range row {
		row[i] = uint64(joinAgain(1<<i, 0, 1))
	}
	through := func(sum uint64) uint64 {
		made := uint64(0)
		for i := range row {
			made ^= row[i] * (sum >> i & 1)
		}
		return made
	}
	sum := uint64(a)
	for bit := range 63 {
		if n>>bit&1 == 1 {
			sum = through(sum)
		}
		next := row
		for i := range row {
			next[i] = through(row[i])
		}
		row = next
	}
	return int(sum ^ uint64(b))
}

// some tells a text of any bytes.
func some(r *rand.Rand, length int) string {
	s := make([]byte, length)
	for i := range s {
		s[i] = byte(r.IntN(256))
	}
	return string(s)
}

// cut cuts a text into parts at any places, some of them empty.
func cut(r *rand.Rand, s string) []string {
	var parts []string
	for len(s) > 0 || r.IntN(3) > 0 {
		n := min(len(s), r.IntN(9))
		parts, s = append(parts, s[:n]), s[n:]
	}
	return parts
}

func checkMore(t *testing.T, sum int, s string, want int, code api.Errno) {
	t.Helper()
	if got, gotCode := crc.More(sum, s); got != want || gotCode != code {
		t.Errorf("More(%d, %.40q) = %d, %d, want %d, %d", sum, s, got, gotCode, want, code)
	}
}

func checkJoin(t *testing.T, a, b, n, want int, code api.Errno) {
	t.Helper()
	if got, gotCode := crc.Join(a, b, n); got != want || gotCode != code {
		t.Errorf("Join(%d, %d, %d) = %d, %d, want %d, %d", a, b, n, got, gotCode, want, code)
	}
}

// P4.1

func TestSumOfNothing(t *testing.T) {
	for _, parts := range [][]string{nil, {}, {""}, {"", ""}, {"", "", ""}} {
		if got := crc.Sum(parts...); got != 0 {
			t.Errorf("Sum(%q) = %d, want 0", parts, got)
		}
	}
	if got := crc.Sum(); got != 0 {
		t.Errorf("Sum() = %d, want 0", got)
	}
}

func TestSumOfKnownTexts(t *testing.T) {
	for _, c := range []struct {
		s    string
		want int
	}{
		{"123456789", 3421780262},
		{"123456789", 0xCBF43926},
		{"\x00", 0xD202EF8D},
		{"\x00\x00\x00\x00", 0x2144DF1C},
		{"\xff\xff\xff\xff", greatest},
		{"a", 0xE8B7BE43},
		{"abc", 0x352441C2},
		{"The quick brown fox jumps over the lazy dog", 0x414FA339},
		{strings.Repeat("\x00", 32), 0x190A55AD},
		{strings.Repeat("\xff", 32), 0xFF6CAB0B},
	} {
		if got := crc.Sum(c.s); got != c.want {
			t.Errorf("Sum(%q) = %d, want %d", c.s, got, c.want)
		}
	}
}

func TestSumOfEachByteAtEachPlace(t *testing.T) {
	for length := 1; length <= 6; length++ {
		for place := range length {
			for c := range 256 {
				s := []byte(strings.Repeat("\x5a", length))
				s[place] = byte(c)
				if got, want := crc.Sum(string(s)), sumAgain(string(s)); got != want {
					t.Fatalf("Sum(%q) = %d, want %d", s, got, want)
				}
			}
		}
	}
}

func TestSumOfTwoBytes(t *testing.T) {
	for c := range 1 << 16 {
		s := string([]byte{byte(c >> 8), byte(c)})
		if got, want := crc.Sum(s), sumAgain(s); got != want {
			t.Fatalf("Sum(%q) = %d, want %d", s, got, want)
		}
	}
}

func TestSumOfAnyTextsInAnyParts(t *testing.T) {
	r := rand.New(rand.NewPCG(4, 1))
	for range 20000 {
		s := some(r, r.IntN(60))
		want := sumAgain(s)
		if got := crc.Sum(s); got != want {
			t.Fatalf("Sum(%q) = %d, want %d", s, got, want)
		}
		parts := cut(r, s)
		before := slices.Clone(parts)
		if got := crc.Sum(parts...); got != want {
			t.Fatalf("Sum(%q) = %d, want %d", parts, got, want)
		}
		if !slices.Equal(parts, before) {
			t.Fatalf("Sum changed %q to %q", before, parts)
		}
	}
}

func TestSumOfPartsInTheirOrder(t *testing.T) {
	if got, want := crc.Sum("1234", "", "56", "789", ""), 3421780262; got != want {
		t.Errorf("Sum in parts = %d, want %d", got, want)
	}
	if got, want := crc.Sum("56789", "1234"), sumAgain("567891234"); got != want {
		t.Errorf("Sum in parts = %d, want %d", got, want)
	}
	bytes := make([]string, 256)
	whole := ""
	for c := range bytes {
		bytes[c] = string([]byte{byte(c)})
		whole += bytes[c]
	}
	if got, want := crc.Sum(bytes...), sumAgain(whole); got != want {
		t.Errorf("Sum of all bytes, each a part = %d, want %d", got, want)
	}
}

func TestSumOfLongTexts(t *testing.T) {
	r := rand.New(rand.NewPCG(4, 2))
	long := some(r, 1<<20+7)
	for _, s := range []string{long, strings.Repeat("\x00", 1<<24), strings.Repeat("\xff", 1<<20), strings.Repeat("é\n", 1<<18)} {
		if got, want := crc.Sum(s), int(crc32.ChecksumIEEE([]byte(s))); got != want {
			t.Errorf("Sum of %d bytes = %d, want %d", len(s), got, want)
		}
	}
	parts := make([]string, 1<<16)
	for i := range parts {
		parts[i] = long[16*i : 16*i+16]
	}
	if got, want := crc.Sum(parts...), int(crc32.ChecksumIEEE([]byte(long[:1<<20]))); got != want {
		t.Errorf("Sum of %d parts = %d, want %d", len(parts), got, want)
	}
}

// P4.2

func TestMoreOfNoSum(t *testing.T) {
	for _, sum := range noSums {
		for _, s := range []string{"", "a", "123456789"} {
			checkMore(t, sum, s, 0, api.ErrRange)
		}
	}
}

func TestMoreOfNoMore(t *testing.T) {
	for _, sum := range edges() {
		checkMore(t, sum, "", sum, api.OK)
	}
}

func TestMoreOfEachSum(t *testing.T) {
	// Each sum is that of a text of four bytes: the one with which the sum of none becomes it.
	r := rand.New(rand.NewPCG(4, 3))
	sums := edges()
	for range 300 {
		sums = append(sums, int(r.Uint32()))
	}
	for _, sum := range sums {
		ahead := textOf(sum)
		if got := crc.Sum(ahead); got != sum {
			t.Fatalf("Sum(%q) = %d, want %d", ahead, got, sum)
		}
		for _, s := range []string{"", "\x00", "\xff", "123456789", some(r, r.IntN(40))} {
			checkMore(t, sum, s, sumAgain(ahead+s), api.OK)
		}
	}
}

// textOf tells the text of four bytes whose sum it is: the halvings are gone back, since of each bit that fell off the highest bit of what came of it tells.
func textOf(sum int) string {
	n := uint32(greatest - sum)
	for range 32 {
		off := n >> 31
		n = (n^3988292384*off)<<1 | off
	}
	n = ^n
	return string([]byte{byte(n), byte(n >> 8), byte(n >> 16), byte(n >> 24)})
}

func TestMoreByteByByte(t *testing.T) {
	sum, s := 0, "123456789"
	for i := range len(s) {
		got, code := crc.More(sum, s[i:i+1])
		if want := sumAgain(s[:i+1]); got != want || code != api.OK {
			t.Fatalf("More(%d, %q) = %d, %d, want %d", sum, s[i:i+1], got, code, want)
		}
		sum = got
	}
	if sum != 3421780262 {
		t.Errorf("byte by byte: %d, want 3421780262", sum)
	}
}

func TestJoinOfNoSums(t *testing.T) {
	for _, no := range noSums {
		for _, n := range []int{-1, 0, 1, 9, math.MaxInt, math.MinInt} {
			checkJoin(t, no, 0, n, 0, api.ErrRange)
			checkJoin(t, 0, no, n, 0, api.ErrRange)
			checkJoin(t, no, no, n, 0, api.ErrRange)
			checkJoin(t, greatest, no, n, 0, api.ErrRange)
			checkJoin(t, no, greatest, n, 0, api.ErrRange)
		}
	}
}

func TestJoinBelowNought(t *testing.T) {
	for _, n := range []int{-1, -2, -8, -1 << 31, -1 << 32, -1 << 60, -1 << 61, math.MinInt + 1, math.MinInt} {
		checkJoin(t, 0, 0, n, 0, api.ErrRange)
		checkJoin(t, 3421780262, 1, n, 0, api.ErrRange)
		checkJoin(t, greatest, greatest, n, 0, api.ErrRange)
	}
}

func TestJoinOfNoBytes(t *testing.T) {
	for _, a := range edges() {
		checkJoin(t, a, 0, 0, a, api.OK)
		checkJoin(t, 0, a, 0, a, api.OK)
		checkJoin(t, a, a, 0, 0, api.OK)
		checkJoin(t, a, greatest, 0, greatest-a, api.OK)
	}
}

func TestJoinOfNought(t *testing.T) {
	for _, b := range edges() {
		for _, n := range []int{0, 1, 2, 1000, 1 << 40, math.MaxInt} {
			checkJoin(t, 0, b, n, b, api.OK)
		}
	}
}

func TestJoinOfFewBytes(t *testing.T) {
	r := rand.New(rand.NewPCG(4, 4))
	for _, a := range edges() {
		for n := range 40 {
			b := int(r.Uint32())
			checkJoin(t, a, b, n, joinAgain(a, b, n), api.OK)
		}
	}
	for range 300 {
		a, b, n := int(r.Uint32()), int(r.Uint32()), r.IntN(5000)
		checkJoin(t, a, b, n, joinAgain(a, b, n), api.OK)
	}
}

func TestJoinOfGreatLengths(t *testing.T) {
	r := rand.New(rand.NewPCG(4, 5))
	lengths := []int{math.MaxInt, math.MaxInt - 1, 1<<61 - 1, 1<<60 - 1, api.MaxInt, api.MaxFile}
	for bit := range 63 {
		lengths = append(lengths, 1<<bit, 1<<bit+1, 1<<bit-1)
	}
	for range 200 {
		lengths = append(lengths, int(r.Uint64()>>(1+r.IntN(62))))
	}
	for _, n := range lengths {
		for _, a := range []int{1, greatest, 3421780262, int(r.Uint32())} {
			b := int(r.Uint32())
			checkJoin(t, a, b, n, joinByParts(a, b, n), api.OK)
		}
	}
	// 2 to 32, less 1, halvings lead each number to itself, and so do that many bytes.
	for _, a := range edges() {
		checkJoin(t, a, 0, greatest, a, api.OK)
		checkJoin(t, a, 7, 1<<61, joinByParts(a, 7, 1<<61), api.OK)
	}
}

// P4.3

func TestJoinIsTheSumOfBoth(t *testing.T) {
	r := rand.New(rand.NewPCG(4, 6))
	texts := []string{"", "a", "123456789", strings.Repeat("\x00", 50), strings.Repeat("\xff", 50), some(r, 300)}
	for _, s := range texts {
		want := crc.Sum(s)
		for i := range len(s) + 1 {
			checkJoin(t, crc.Sum(s[:i]), crc.Sum(s[i:]), len(s)-i, want, api.OK)
			checkMore(t, crc.Sum(s[:i]), s[i:], want, api.OK)
		}
	}
	long := some(r, 3<<20)
	for _, at := range []int{0, 1, 65535, 1 << 20, 2<<20 + 5, len(long) - 1, len(long)} {
		checkJoin(t, crc.Sum(long[:at]), crc.Sum(long[at:]), len(long)-at, crc.Sum(long), api.OK)
	}
}

func TestJoinOfManyTexts(t *testing.T) {
	r := rand.New(rand.NewPCG(4, 7))
	for range 200 {
		s, sum := some(r, r.IntN(200)), 0
		for _, part := range cut(r, s) {
			joined, code := crc.Join(sum, crc.Sum(part), len(part))
			if code != api.OK {
				t.Fatalf("Join answers %d", code)
			}
			sum = joined
		}
		if want := crc.Sum(s); sum != want {
			t.Fatalf("joined of parts of %q: %d, want %d", s, sum, want)
		}
	}
}

// turn turns the bits of a burst that begins at a bit of a text; bits of a byte are counted from the lowest one on, or from the highest one on.
func turn(s string, at int, burst uint64, fromHighest bool) string {
	turned := []byte(s)
	for i := range 32 {
		bit := (at + i) % 8
		if fromHighest {
			bit = 7 - bit
		}
		if burst>>i&1 == 1 {
			turned[(at+i)/8] ^= 1 << bit
		}
	}
	return string(turned)
}

func TestBurstsAreFound(t *testing.T) {
	r := rand.New(rand.NewPCG(4, 8))
	for _, s := range []string{some(r, 12), strings.Repeat("\x00", 12), strings.Repeat("\xff", 12)} {
		sum := crc.Sum(s)
		for at := range 8*len(s) - 31 {
			for length := 1; length <= 32; length++ {
				ends := uint64(1) | 1<<(length-1)
				bursts := []uint64{ends, 1<<length - 1}
				for range 6 {
					bursts = append(bursts, ends|r.Uint64()%(1<<length))
				}
				for i, burst := range bursts {
					// Bits follow one another as the sum takes them, each byte's lowest ahead; told the other way round, a burst is sure to be found if it lies in four bytes.
					fromHighest := i%2 == 1 && at%8+length <= 32
					if turned := turn(s, at, burst, fromHighest); crc.Sum(turned) == sum {
						t.Fatalf("Sum of %q is as that of %q", turned, s)
					}
				}
			}
		}
	}
}

func TestAllBurstsOfOneAndOfTwoBytesAreFound(t *testing.T) {
	s := "123456789abc"
	sum := crc.Sum(s)
	for burst := uint64(1); burst < 1<<16; burst++ {
		for _, fromHighest := range []bool{false, true} {
			if turned := turn(s, 17, burst, fromHighest); crc.Sum(turned) == sum {
				t.Fatalf("Sum of %q is as that of %q", turned, s)
			}
		}
	}
}

func TestOneTurnedBitIsFoundInALongText(t *testing.T) {
	s := strings.Repeat("objects 12 0 R\n", 300)
	sum := crc.Sum(s)
	for at := range 8 * len(s) {
		turned := []byte(s)
		turned[at/8] ^= 1 << (at % 8)
		if crc.Sum(string(turned)) == sum {
			t.Fatalf("the sum does not tell that bit %d is turned", at)
		}
	}
}

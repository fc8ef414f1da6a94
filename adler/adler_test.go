package adler_test

import (
	"hash/adler32"
	"math"
	"math/big"
	"math/rand/v2"
	"strings"
	"testing"

	"bindery/adler"
	"bindery/api"
)

const (
	base     = 65521
	greatest = 65520*65536 + 65520
)

// noSums are numbers that are no sums: those just beyond, such as have a half that is too great, and such as would be some, were their high halves or their signs lost.
var noSums = []int{
	-1, -2, -65520, -65521, -65536, -65537, -300286872, -greatest, -1 << 32, -1<<32 + 1, -1<<48 + 1, math.MinInt, math.MinInt + 1, math.MinInt + 65536,
	65521, 65522, 65535, 65536 + 65521, 65536 + 65535, 40000*65536 + 65521, 65519*65536 + 65535,
	65520*65536 + 65521, 65520*65536 + 65535, 65521 * 65536, 65521*65536 + 1, 65521*65536 + 65520, 65521*65536 + 65521, 65535 * 65536, 65535*65536 + 65520, 1<<32 - 1,
	1 << 32, 1<<32 + 1, 1<<32 + 300286872, 1<<33 + 65536, 1 << 48, 1<<48 + 1, 1 << 62, math.MaxInt, math.MaxInt - 65535,
}

// farLengths are lengths around Base, around powers of 2, and at which a product would turn round.
func farLengths() []int {
	all := []int{0, 1, 2, 3, base - 2, base - 1, base, base + 1, 2*base - 1, 2 * base, 2*base + 1, base * base, base*base - 1, base*base + 1,
		api.MaxInt, api.MaxInt - 1, math.MaxInt, math.MaxInt - 1, math.MaxInt / base, math.MaxInt/base + 1, math.MaxInt / base * base, math.MaxInt/base*base + 1}
	for bit := 2; bit < 63; bit++ {
		all = append(all, 1<<bit-1, 1<<bit, 1<<bit+1)
	}
	return all
}

// of puts halves together.
func of(high, low int) int { return high*65536 + low }

// edges are sums with each half at the edges, and between.
func edges() []int {
	halves := []int{0, 1, 2, 255, 256, 4582, 32768, 32769, 65264, 65265, 65266, 65518, 65519, 65520}
	var all []int
	for _, high := range halves {
		for _, low := range halves {
			all = append(all, of(high, low))
		}
	}
	return all
}

// within is a number from 0 to Base less 1 that differs from another one by some times Base.
func within(n *big.Int) int {
	return int(new(big.Int).Mod(n, big.NewInt(base)).Int64())
}

// moreAgain tells again what More answers of a sum: of the low half, and each byte times how many bytes are from it on.
func moreAgain(sum int, s string) int {
	high, low := sum/65536, sum%65536
	bytes, weighed := 0, new(big.Int)
	for i := range len(s) {
		bytes += int(s[i])
		weighed.Add(weighed, big.NewInt(int64(s[i])*int64(len(s)-i)))
	}
	lows := new(big.Int).Mul(big.NewInt(int64(len(s))), big.NewInt(int64(low)))
	weighed.Add(weighed, lows).Add(weighed, big.NewInt(int64(high)))
	return of(within(weighed), within(big.NewInt(int64(low+bytes))))
}

// sumAgain tells again what Sum answers, step by step as the words say.
func sumAgain(s string) int {
	high, low := 0, 1
	for _, c := range []byte(s) {
		low += int(c)
		for low >= base {
			low -= base
		}
		high += low
		for high >= base {
			high -= base
		}
	}
	return of(high, low)
}

// joinAgain tells again what Join answers of sums.
func joinAgain(x, y, n int) int {
	low := big.NewInt(int64(x%65536 + y%65536 - 1))
	high := new(big.Int).Mul(big.NewInt(int64(n)), big.NewInt(int64(x%65536-1)))
	high.Add(high, big.NewInt(int64(x/65536+y/65536)))
	return of(within(high), within(low))
}

// some tells a text of any bytes.
func some(r *rand.Rand, length int) string {
	s := make([]byte, length)
	for i := range s {
		s[i] = byte(r.IntN(256))
	}
	return string(s)
}

// anySum tells any sum.
func anySum(r *rand.Rand) int { return of(r.IntN(base), r.IntN(base)) }

func checkSum(t *testing.T, s string, want int) {
	t.Helper()
	if got := adler.Sum(s); got != want {
		t.Errorf("Sum(%.40q) of %d bytes = %d, want %d", s, len(s), got, want)
	}
}

func checkMore(t *testing.T, sum int, s string, want int, code api.Errno) {
	t.Helper()
	if got, gotCode := adler.More(sum, s); got != want || gotCode != code {
		t.Errorf("More(%d, %.40q) of %d bytes = %d, %d, want %d, %d", sum, s, len(s), got, gotCode, want, code)
	}
}

func checkJoin(t *testing.T, x, y, n, want int, code api.Errno) {
	t.Helper()
	if got, gotCode := adler.Join(x, y, n); got != want || gotCode != code {
		t.Errorf("Join(%d, %d, %d) = %d, %d, want %d, %d", x, y, n, got, gotCode, want, code)
	}
}

// P5.1

func TestBase(t *testing.T) {
	if adler.Base != 65521 {
		t.Error("Base", adler.Base)
	}
}

func TestSumOfKnownTexts(t *testing.T) {
	checkSum(t, "", 1)
	checkSum(t, "Wikipedia", 300286872)
	checkSum(t, "Wikipedia", 0x11E60398)
	checkSum(t, "a", 98*65536+98)
	checkSum(t, "ab", (98+196)*65536+196)
	checkSum(t, "ba", (99+196)*65536+196)
	checkSum(t, "abc", 0x024D0127)
	checkSum(t, "123456789", 0x091E01DE)
	checkSum(t, "message digest", 0x29750586)
	checkSum(t, "\x00", 65536+1)
	checkSum(t, "\x00\x00\x00", 3*65536+1)
	checkSum(t, "\xff", 256*65536+256)
	checkSum(t, "\x80", 129*65536+129)
}

func TestSumOfOneAndOfTwoBytes(t *testing.T) {
	for c := range 256 {
		checkSum(t, string([]byte{byte(c)}), of(c+1, c+1))
		for d := range 256 {
			checkSum(t, string([]byte{byte(c), byte(d)}), of(2*c+d+2, c+d+1))
		}
	}
}

func TestSumOfEachByteAtEachPlace(t *testing.T) {
	for length := 1; length <= 9; length++ {
		for place := range length {
			for c := range 256 {
				s := []byte(strings.Repeat("\xa5", length))
				s[place] = byte(c)
				checkSum(t, string(s), sumAgain(string(s)))
			}
		}
	}
}

func TestSumOfAnyTexts(t *testing.T) {
	r := rand.New(rand.NewPCG(5, 1))
	for range 5000 {
		s := some(r, r.IntN(1000))
		want := sumAgain(s)
		checkSum(t, s, want)
		if again := moreAgain(1, s); again != want {
			t.Fatalf("the second tellings differ of %q: %d, %d", s, again, want)
		}
		if again := int(adler32.Checksum([]byte(s))); again != want {
			t.Fatalf("the second tellings differ of %q: %d, %d", s, again, want)
		}
	}
}

func TestSumAtWhichHalvesAreBase(t *testing.T) {
	// 65520 bytes 0 bring the high half to Base less 1, one more to 0; of the low half bytes 255 do, 256 times and a byte 240.
	for n := 65518; n <= 65524; n++ {
		checkSum(t, strings.Repeat("\x00", n), of(n%base, 1))
	}
	lows := strings.Repeat("\xff", 256)
	for last, low := range map[string]int{"\xee": 65519, "\xef": 65520, "\xf0": 0, "\xf1": 1} {
		s := lows + last
		checkSum(t, s, sumAgain(s))
		if got := adler.Sum(s) % 65536; got != low {
			t.Errorf("the low half behind %q is %d, want %d", last, got, low)
		}
		checkSum(t, s+"\x00\x00", sumAgain(s+"\x00\x00"))
	}
	// Here the low half is 0, and the high one stays as it is.
	ahead := adler.Sum(lows + "\xf0")
	checkMore(t, ahead, strings.Repeat("\x00", 100000), ahead, api.OK)
}

func TestSumOfLongTexts(t *testing.T) {
	r := rand.New(rand.NewPCG(5, 2))
	texts := []string{
		strings.Repeat("\xff", 1<<24), strings.Repeat("\x00", 1<<24), strings.Repeat("\x01", 1<<22), strings.Repeat("\xff\x00", 1<<20),
		strings.Repeat("objects 12 0 R\n", 1<<17), some(r, 1<<22+7), strings.Repeat("\xc3\xa9", 1<<19),
	}
	// Around these lengths sums that are taken within Base late, or never, turn round or come out wrong.
	for _, n := range []int{255, 256, 257, 258, 5551, 5552, 5553, 5554, 11104, 65520, 65521, 65522, 65536, 131042} {
		texts = append(texts, strings.Repeat("\xff", n))
	}
	for _, s := range texts {
		checkSum(t, s, int(adler32.Checksum([]byte(s))))
		checkSum(t, s, sumAgain(s))
	}
}

func TestSumIsASum(t *testing.T) {
	s := strings.Repeat("\xfe\xff", 3000)
	for n := range len(s) {
		sum := adler.Sum(s[:n])
		if sum < 0 || sum/65536 >= base || sum%65536 >= base {
			t.Errorf("Sum of %d bytes is no sum: %d", n, sum)
		}
	}
}

// P5.2

func TestMoreOfNoSum(t *testing.T) {
	for _, sum := range noSums {
		for _, s := range []string{"", "a", "Wikipedia", "\x00"} {
			checkMore(t, sum, s, 0, api.ErrRange)
		}
	}
}

func TestMoreOfEachHalf(t *testing.T) {
	// Each number that fits into 16 bits, and those just beyond, as the one half, and some as the other one.
	others := []int{-1, 0, 1, 300, 65519, 65520, 65521, 65535}
	for half := -2; half <= 65538; half++ {
		for _, other := range others {
			checkMoreOfHalves(t, half, other)
		}
	}
	for low := range 65536 {
		for _, high := range others {
			checkMoreOfHalves(t, high, low)
		}
	}
}

// checkMoreOfHalves holds More of a number that halves make, and of no text, against whether they are halves of a sum; a low one that is none of 16 bits is passed over, since it would be seen in the high one.
func checkMoreOfHalves(t *testing.T, high, low int) {
	t.Helper()
	if low < 0 || low > 65535 {
		return
	}
	want, code := of(high, low), api.OK
	if high < 0 || high >= base || low >= base {
		want, code = 0, api.ErrRange
	}
	checkMore(t, of(high, low), "", want, code)
}

func TestMoreAtTheEdges(t *testing.T) {
	checkMore(t, 0, "", 0, api.OK)
	checkMore(t, 0, "\x00\x00\x00", 0, api.OK)
	checkMore(t, 0, "a", of(97, 97), api.OK)
	checkMore(t, 1, "", 1, api.OK)
	checkMore(t, 1, "Wikipedia", 300286872, api.OK)
	checkMore(t, greatest, "", greatest, api.OK)
	checkMore(t, greatest, "\x00", of(65519, 65520), api.OK)
	checkMore(t, greatest, "\x01", of(65520, 0), api.OK)
	checkMore(t, greatest, "\x02", of(0, 1), api.OK)
	checkMore(t, greatest, "\xff", of(253, 254), api.OK)
	checkMore(t, 65520, "\x00", of(65520, 65520), api.OK)
	checkMore(t, 65520, "\x01", 0, api.OK)
	checkMore(t, of(65520, 0), "\x01", of(0, 1), api.OK)
}

func TestMoreOfAnySums(t *testing.T) {
	r := rand.New(rand.NewPCG(5, 3))
	for _, sum := range edges() {
		for _, s := range []string{"", "\x00", "\x01", "\xff", "Wikipedia", some(r, r.IntN(600)), strings.Repeat("\xff", 700)} {
			checkMore(t, sum, s, moreAgain(sum, s), api.OK)
		}
	}
	for range 3000 {
		sum, s := anySum(r), some(r, r.IntN(700))
		checkMore(t, sum, s, moreAgain(sum, s), api.OK)
	}
	long := strings.Repeat("\xff\xfe", 1<<20)
	for _, sum := range []int{0, 1, 65520, greatest, of(65520, 0)} {
		checkMore(t, sum, long, moreAgain(sum, long), api.OK)
	}
}

func TestMoreWhereverATextIsCut(t *testing.T) {
	r := rand.New(rand.NewPCG(5, 4))
	for _, s := range []string{"Wikipedia", strings.Repeat("\xff", 600), some(r, 1000)} {
		want := sumAgain(s)
		for at := range len(s) + 1 {
			checkMore(t, adler.Sum(s[:at]), s[at:], want, api.OK)
		}
	}
}

func TestMoreByteByByte(t *testing.T) {
	sum, s := 1, "Wikipedia"+strings.Repeat("\xff\x00\x80", 700)
	for i := range len(s) {
		got, code := adler.More(sum, s[i:i+1])
		if want := sumAgain(s[:i+1]); got != want || code != api.OK {
			t.Fatalf("More(%d, %q) = %d, %d, want %d", sum, s[i:i+1], got, code, want)
		}
		sum = got
	}
}

func TestJoinOfNoSums(t *testing.T) {
	for _, no := range noSums {
		for _, n := range []int{-1, 0, 1, 9, base, math.MaxInt, math.MinInt} {
			checkJoin(t, no, 1, n, 0, api.ErrRange)
			checkJoin(t, 1, no, n, 0, api.ErrRange)
			checkJoin(t, no, no, n, 0, api.ErrRange)
			checkJoin(t, greatest, no, n, 0, api.ErrRange)
			checkJoin(t, no, greatest, n, 0, api.ErrRange)
		}
	}
}

func TestJoinBelowNought(t *testing.T) {
	for _, n := range []int{-1, -2, -65520, -65521, -65522, -1 << 31, -1 << 32, -1 << 60, math.MinInt + 1, math.MinInt} {
		for _, sum := range []int{0, 1, 300286872, greatest} {
			checkJoin(t, sum, 1, n, 0, api.ErrRange)
			checkJoin(t, 1, sum, n, 0, api.ErrRange)
			checkJoin(t, sum, sum, n, 0, api.ErrRange)
		}
	}
}

func TestJoinAtTheEdges(t *testing.T) {
	// Where both low halves are 0, 1 less than that is Base less 1; where the first one is, n is taken off the high half.
	checkJoin(t, 0, 0, 0, 65520, api.OK)
	checkJoin(t, 0, 0, 1, of(65520, 65520), api.OK)
	checkJoin(t, 0, 0, base-1, of(1, 65520), api.OK)
	checkJoin(t, 0, 0, base, of(0, 65520), api.OK)
	checkJoin(t, 0, 0, base+1, of(65520, 65520), api.OK)
	checkJoin(t, 0, 1, 2, of(65519, 0), api.OK)
	checkJoin(t, 1, 0, 5, 0, api.OK)
	checkJoin(t, 1, 1, math.MaxInt, 1, api.OK)
	checkJoin(t, 2, 1, base-1, of(65520, 2), api.OK)
	checkJoin(t, 2, 1, base, of(0, 2), api.OK)
	checkJoin(t, greatest, greatest, 0, of(65519, 65518), api.OK)
	checkJoin(t, greatest, greatest, 1, of(65517, 65518), api.OK)
	checkJoin(t, of(65520, 1), of(1, 1), 7, 1, api.OK)
	checkJoin(t, of(65520, 1), of(0, 65520), 7, of(65520, 65520), api.OK)
}

func TestJoinOfNothing(t *testing.T) {
	// 1 is the sum of nothing: put behind, it changes no sum, and put ahead, neither.
	for _, sum := range edges() {
		checkJoin(t, sum, 1, 0, sum, api.OK)
		for _, n := range farLengths() {
			checkJoin(t, 1, sum, n, sum, api.OK)
		}
	}
}

func TestJoinOfAnySumsAndLengths(t *testing.T) {
	r := rand.New(rand.NewPCG(5, 5))
	lengths := farLengths()
	for range 100 {
		lengths = append(lengths, int(r.Uint64()>>(1+r.IntN(62))))
	}
	for _, x := range edges() {
		for _, n := range lengths {
			y := anySum(r)
			checkJoin(t, x, y, n, joinAgain(x, y, n), api.OK)
			checkJoin(t, y, x, n, joinAgain(y, x, n), api.OK)
		}
		for _, y := range edges() {
			n := lengths[r.IntN(len(lengths))]
			checkJoin(t, x, y, n, joinAgain(x, y, n), api.OK)
		}
	}
}

// P5.3

func TestJoinIsTheSumOfBothWhereverATextIsCut(t *testing.T) {
	r := rand.New(rand.NewPCG(5, 6))
	texts := []string{"", "a", "Wikipedia", strings.Repeat("\x00", 300), strings.Repeat("\xff", 600), some(r, 700)}
	for _, s := range texts {
		want := sumAgain(s)
		for at := range len(s) + 1 {
			checkJoin(t, adler.Sum(s[:at]), adler.Sum(s[at:]), len(s)-at, want, api.OK)
		}
	}
	long := some(r, 3<<20)
	for _, at := range []int{0, 1, base - 1, base, base + 1, 65536, 1 << 20, 2<<20 + 5, len(long) - base, len(long) - 1, len(long)} {
		checkJoin(t, adler.Sum(long[:at]), adler.Sum(long[at:]), len(long)-at, int(adler32.Checksum([]byte(long))), api.OK)
	}
}

func TestJoinOfManyTexts(t *testing.T) {
	r := rand.New(rand.NewPCG(5, 7))
	for range 300 {
		whole, sum := "", 1
		for range r.IntN(20) {
			part := some(r, r.IntN(60))
			joined, code := adler.Join(sum, adler.Sum(part), len(part))
			if code != api.OK {
				t.Fatalf("Join answers %d", code)
			}
			whole, sum = whole+part, joined
		}
		if want := sumAgain(whole); sum != want {
			t.Fatalf("joined of parts of %q: %d, want %d", whole, sum, want)
		}
	}
}

func TestAnotherByteIsFound(t *testing.T) {
	r := rand.New(rand.NewPCG(5, 8))
	for _, s := range []string{"Wikipedia", strings.Repeat("\x00", 40), strings.Repeat("\xff", 40), some(r, 300), strings.Repeat("\xff", 256) + "\xf0" + some(r, 20)} {
		sum := adler.Sum(s)
		for place := range len(s) {
			for c := range 256 {
				other := []byte(s)
				other[place] = byte(c)
				if same := other[place] == s[place]; same != (adler.Sum(string(other)) == sum) {
					t.Fatalf("Sum of %q, and with the byte %d at %d", s, c, place)
				}
			}
		}
	}
}

func TestAnotherByteIsFoundInALongText(t *testing.T) {
	s := []byte(strings.Repeat("\xff", 200000))
	sum := adler.Sum(string(s))
	for place := 0; place < len(s); place += 4999 {
		for _, c := range []byte{0, 1, 0x7F, 0x80, 0xFE} {
			s[place] = c
			if adler.Sum(string(s)) == sum {
				t.Fatalf("the sum does not tell the byte %d at %d", c, place)
			}
		}
		s[place] = 0xFF
	}
}

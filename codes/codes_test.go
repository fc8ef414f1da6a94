package codes_test

import (
	"math"
	"math/rand/v2"
	"slices"
	"strings"
	"testing"

	"bindery/api"
	"bindery/bitrow"
	"bindery/codes"
)

// noLengths are numbers that are no lengths: those just beyond, and such as would be some, were their high bits or their signs lost.
var noLengths = []int{
	-1, -2, -15, -16, -1 << 32, -1<<32 + 1, math.MinInt32, math.MinInt, math.MinInt + 1,
	16, 17, 31, 32, 63, 64, 255, 256, 257, 1 << 16, 1<<16 + 1, 1 << 32, 1<<32 + 1, math.MaxInt32, math.MaxInt,
}

// bitsOf tells so many bits of a number, the highest ahead, as digits.
func bitsOf(number, width int) string {
	s := ""
	for range width {
		s = string(rune('0'+number%2)) + s
		number /= 2
	}
	return s
}

// rowOf tells all bits of bytes, of each byte the lowest ahead, as digits.
func rowOf(s string) string {
	var row strings.Builder
	for i := range len(s) {
		for place := range 8 {
			row.WriteByte('0' + s[i]>>place&1)
		}
	}
	return row.String()
}

// bytesOf tells the bytes in which a row of bits stands; those that lack are 0.
func bytesOf(row string) string {
	s := make([]byte, (len(row)+7)/8)
	for i := range len(row) {
		s[i/8] |= (row[i] - '0') << (i % 8)
	}
	return string(s)
}

// readerOf is a reader that has just these bits left: those that fill up the first byte are read already. It tells how many they are.
func readerOf(row string) (*bitrow.Reader, int) {
	ahead := (8 - len(row)%8) % 8
	r := bitrow.New(bytesOf(strings.Repeat("1", ahead) + row))
	r.Get(ahead)
	return r, ahead
}

// repeated is a list of so many alike lengths.
func repeated(length, times int) []int {
	return slices.Repeat([]int{length}, times)
}

// fixedSymbols are the lengths of the fixed codes of deflated bytes.
func fixedSymbols() []int {
	return slices.Concat(repeated(8, 144), repeated(9, 112), repeated(7, 24), repeated(8, 8))
}

// stairs are the lengths from 1 up to one.
func stairs(last int) []int {
	var lengths []int
	for length := 1; length <= last; length++ {
		lengths = append(lengths, length)
	}
	return lengths
}

// forAll goes through all lists of so many numbers from 0 to the greatest one.
func forAll(many, greatest int, do func(lengths []int)) {
	lengths := make([]int, many)
	for {
		do(lengths)
		at := 0
		for at < many && lengths[at] == greatest {
			lengths[at] = 0
			at++
		}
		if at == many {
			return
		}
		lengths[at]++
	}
}

// someComplete tells lengths that are complete, of so many codes, in any order, with some symbols without codes among them.
func someComplete(random *rand.Rand, many int) []int {
	lengths := []int{0}
	for len(lengths) < many {
		at := random.IntN(len(lengths))
		if lengths[at] == codes.Longest {
			continue
		}
		lengths[at]++
		lengths = append(lengths, lengths[at])
	}
	lengths = append(lengths, make([]int, random.IntN(codes.Many-many+1))...)
	random.Shuffle(len(lengths), func(i, j int) { lengths[i], lengths[j] = lengths[j], lengths[i] })
	return lengths
}

// someFitting tells lengths of which there are not too many: complete ones, or such as lack some, or have some that are longer.
func someFitting(random *rand.Rand) []int {
	lengths := someComplete(random, 2+random.IntN(1<<random.IntN(9)))
	if random.IntN(3) == 0 {
		return lengths
	}
	for range random.IntN(1 << random.IntN(8)) {
		at := random.IntN(len(lengths))
		if random.IntN(2) == 0 {
			lengths[at] = 0
		} else if lengths[at] > 0 {
			lengths[at] = min(codes.Longest, lengths[at]+random.IntN(4))
		}
	}
	return lengths
}

// taken tells how many of the 2 to 15 rows of 15 bits begin with the codes of such lengths.
func taken(lengths []int) int {
	sum := 0
	for _, length := range lengths {
		if length > 0 {
			sum += 1 << (15 - length)
		}
	}
	return sum
}

// fitAgain tells again what Codes and New are to answer.
func fitAgain(lengths []int) api.Errno {
	if len(lengths) > 320 {
		return api.ErrArg
	}
	for _, length := range lengths {
		if length < 0 || length > 15 {
			return api.ErrRange
		}
	}
	if taken(lengths) > 1<<15 {
		return api.ErrBig
	}
	return api.OK
}

// checkAgain tells again what Check is to answer.
func checkAgain(lengths []int) api.Errno {
	code := fitAgain(lengths)
	if code == api.ErrArg || code == api.ErrRange {
		return code
	}
	if taken(lengths) == 0 {
		return api.ErrNone
	}
	if code == api.OK && taken(lengths) < 1<<15 {
		return api.ErrShort
	}
	return code
}

// codesAgain tells again what Codes is to answer: a code is the number of codes of its length that begin with the codes ahead of it.
func codesAgain(lengths []int) []int {
	numbers := make([]int, len(lengths))
	for symbol, length := range lengths {
		for other, shorter := range lengths {
			if shorter > 0 && (shorter < length || shorter == length && other < symbol) {
				numbers[symbol] += 1 << (length - shorter)
			}
		}
	}
	return numbers
}

// book is a second telling of a tree: of each code its symbol, of each symbol its code, and how many bits the longest one has.
type book struct {
	symbols map[string]int
	codes   []string
	longest int
}

// bookOf is the book of codes of such lengths.
func bookOf(lengths []int) book {
	b := book{symbols: map[string]int{}}
	for symbol, number := range codesAgain(lengths) {
		code := bitsOf(number, lengths[symbol])
		b.codes = append(b.codes, code)
		b.longest = max(b.longest, len(code))
		if code != "" {
			b.symbols[code] = symbol
		}
	}
	return b
}

// read tells again what Read answers of a row of bits, and how many it reads.
func (b book) read(row string) (int, int, api.Errno) {
	for many := 0; ; many++ {
		if symbol, ok := b.symbols[row[:many]]; ok {
			return symbol, many, api.OK
		}
		if many == b.longest {
			return 0, many, api.ErrForm
		}
		if many == len(row) {
			return 0, many, api.ErrShort
		}
	}
}

func checkCheck(t *testing.T, lengths []int, want api.Errno) {
	t.Helper()
	before := slices.Clone(lengths)
	if got := codes.Check(lengths); got != want {
		t.Fatalf("Check(%.200v) = %d, want %d", lengths, got, want)
	}
	if !slices.Equal(lengths, before) {
		t.Fatalf("Check changed %.200v to %.200v", before, lengths)
	}
}

func checkCodes(t *testing.T, lengths, want []int, wantCode api.Errno) {
	t.Helper()
	before := slices.Clone(lengths)
	if got, code := codes.Codes(lengths); !slices.Equal(got, want) || code != wantCode {
		t.Fatalf("Codes(%.200v) = %.200v, %d, want %.200v, %d", lengths, got, code, want, wantCode)
	}
	if !slices.Equal(lengths, before) {
		t.Fatalf("Codes changed %.200v to %.200v", before, lengths)
	}
}

// checkNoTree checks that New refuses lengths.
func checkNoTree(t *testing.T, lengths []int, want api.Errno) {
	t.Helper()
	if tree, code := codes.New(lengths); tree != nil || code != want {
		t.Fatalf("New(%.200v) = %v, %d, want nil, %d", lengths, tree, code, want)
	}
}

// checkLengths checks what all three answer of lengths.
func checkLengths(t *testing.T, lengths []int) {
	t.Helper()
	checkCheck(t, lengths, checkAgain(lengths))
	if code := fitAgain(lengths); code != api.OK {
		checkCodes(t, lengths, nil, code)
		checkNoTree(t, lengths, code)
		return
	}
	checkCodes(t, lengths, codesAgain(lengths), api.OK)
}

func newTree(t *testing.T, lengths []int) *codes.Tree {
	t.Helper()
	before := slices.Clone(lengths)
	tree, code := codes.New(lengths)
	if tree == nil || code != api.OK {
		t.Fatalf("New(%.200v) = %v, %d, want a tree", lengths, tree, code)
	}
	if !slices.Equal(lengths, before) {
		t.Fatalf("New changed %.200v to %.200v", before, lengths)
	}
	return tree
}

func checkRead(t *testing.T, tree *codes.Tree, r *bitrow.Reader, want int, wantCode api.Errno, wantAt int) {
	t.Helper()
	if got, code := tree.Read(r); got != want || code != wantCode {
		t.Fatalf("Read = %d, %d, want %d, %d", got, code, want, wantCode)
	}
	if at := r.At(); at != wantAt {
		t.Fatalf("At behind Read = %d, want %d", at, wantAt)
	}
}

// checkReads checks what is read of a row of bits from its beginning on, behind errors too.
func checkReads(t *testing.T, tree *codes.Tree, b book, row string) {
	t.Helper()
	r, at := readerOf(row)
	for errors := 0; errors < 3; {
		symbol, many, code := b.read(row)
		row = row[many:]
		at += many
		checkRead(t, tree, r, symbol, code, at)
		if code == api.ErrShort || many == 0 {
			errors++
		}
	}
}

func checkWrite(t *testing.T, tree *codes.Tree, w *bitrow.Writer, symbol int, want api.Errno) {
	t.Helper()
	if got := tree.Write(w, symbol); got != want {
		t.Fatalf("Write(%d) = %d, want %d", symbol, got, want)
	}
}

func checkRow(t *testing.T, w *bitrow.Writer, want string) {
	t.Helper()
	if w.Len() != len(want) || w.Text() != bytesOf(want) {
		t.Fatalf("%d bits are put, %.100s, want %d, %.100s", w.Len(), rowOf(w.Text()), len(want), want)
	}
}

// P9.1

func TestLimits(t *testing.T) {
	if codes.Longest != 15 || codes.Many != 320 {
		t.Fatalf("Longest and Many are %d and %d", codes.Longest, codes.Many)
	}
}

func TestCheckOfLengthsThatAreComplete(t *testing.T) {
	for _, lengths := range [][]int{
		{1, 1},
		{2, 1, 3, 3},
		{0, 1, 0, 0, 1, 0},
		{2, 2, 2, 2},
		{3, 3, 3, 3, 3, 2, 4, 4},
		repeated(5, 32),
		repeated(8, 256),
		slices.Concat(repeated(8, 192), repeated(9, 128)),
		append(stairs(15), 15),
		append([]int{15}, stairs(15)...),
		fixedSymbols(),
		slices.Concat([]int{1, 1}, repeated(0, 318)),
		slices.Concat(repeated(0, 318), []int{1, 1}),
	} {
		checkCheck(t, lengths, api.OK)
	}
}

func TestCheckOfTooManyLengths(t *testing.T) {
	for _, many := range []int{321, 322, 512, 640, 641, 65536 + 2, 1 << 20} {
		for _, length := range []int{0, 1, 9, 15, -1, 16, math.MinInt, math.MaxInt} {
			lengths := repeated(length, many)
			checkCheck(t, lengths, api.ErrArg)
			checkCodes(t, lengths, nil, api.ErrArg)
			checkNoTree(t, lengths, api.ErrArg)
		}
	}
	// What would be complete, were it not for the lengths behind.
	checkLengths(t, slices.Concat([]int{1, 1}, repeated(0, 319)))
}

func TestCheckOfJustAsManyLengths(t *testing.T) {
	for length := range 16 {
		for _, many := range []int{319, 320} {
			checkLengths(t, repeated(length, many))
		}
	}
}

func TestCheckOfLengthsThatAreNone(t *testing.T) {
	// Complete ones, all 0, too many, and too few, so that each other error would apply, too.
	for _, lengths := range [][]int{{2, 1, 3, 3}, repeated(0, 5), repeated(1, 5), {9, 9}, repeated(0, 320), repeated(1, 320)} {
		for _, length := range noLengths {
			for at := range lengths {
				wrong := slices.Clone(lengths)
				wrong[at] = length
				checkCheck(t, wrong, api.ErrRange)
				checkCodes(t, wrong, nil, api.ErrRange)
				checkNoTree(t, wrong, api.ErrRange)
			}
		}
	}
	for _, length := range noLengths {
		checkLengths(t, []int{length})
		checkLengths(t, []int{length, length})
	}
}

func TestCheckOfNoCodes(t *testing.T) {
	checkCheck(t, nil, api.ErrNone)
	for _, many := range []int{0, 1, 2, 3, 19, 286, 319, 320} {
		checkCheck(t, make([]int, many), api.ErrNone)
	}
}

func TestCheckOfCodesBeyondOne(t *testing.T) {
	for _, lengths := range [][]int{
		{1, 1, 1}, {1, 1, 15}, {15, 1, 1}, {2, 1, 3, 3, 15}, {1, 2, 2, 2}, {2, 2, 2, 1, 1},
		repeated(1, 320), repeated(8, 257), repeated(8, 320), repeated(5, 33),
		append(stairs(14), 15, 15, 15), append(stairs(15), 15, 15), append(stairs(15), 14),
		append(fixedSymbols(), 15),
	} {
		checkCheck(t, lengths, api.ErrBig)
		checkCodes(t, lengths, nil, api.ErrBig)
		checkNoTree(t, lengths, api.ErrBig)
	}
	// As many of length 1 as would come round to none, or to one, were the sum held in few bits.
	for many := 3; many <= 320; many++ {
		checkLengths(t, repeated(1, many))
	}
}

func TestCheckOfCodesBelowOne(t *testing.T) {
	for _, lengths := range [][]int{
		{1}, {0, 1, 0}, {2}, {15}, {15, 15}, {1, 2}, {1, 2, 3}, {2, 2, 2}, {2, 3, 3, 3},
		repeated(8, 255), repeated(9, 320), repeated(15, 320), repeated(5, 31),
		stairs(14), stairs(15), fixedSymbols()[:287], fixedSymbols()[1:],
	} {
		checkCheck(t, lengths, api.ErrShort)
	}
	for length := 1; length <= 15; length++ {
		checkCheck(t, []int{length}, api.ErrShort)
	}
}

func TestEachLengthByEachOther(t *testing.T) {
	// As many of one length as there are, and one fewer and one more, beside one of any length.
	for length := 1; length <= 15; length++ {
		for many := min(320, 1<<length) - 3; many <= min(320, 1<<length)+1; many++ {
			if many < 0 {
				continue
			}
			lengths := repeated(length, many)
			checkLengths(t, lengths)
			for other := range 16 {
				checkLengths(t, append(slices.Clone(lengths), other))
				checkLengths(t, append([]int{other}, lengths...))
			}
		}
	}
}

func TestAllShortLists(t *testing.T) {
	for many, greatest := range []int{15, 15, 15, 15, 7, 5, 4, 3} {
		forAll(many, greatest, func(lengths []int) { checkLengths(t, lengths) })
	}
}

func TestAnyLists(t *testing.T) {
	random := rand.New(rand.NewPCG(9, 1))
	for range 1500 {
		lengths := someComplete(random, 2+random.IntN(319))
		checkCheck(t, lengths, api.OK)
		checkLengths(t, lengths)
		for range 5 {
			wrong := slices.Clone(lengths)
			for range 1 + random.IntN(3) {
				wrong[random.IntN(len(wrong))] = random.IntN(16)
			}
			checkCheck(t, wrong, checkAgain(wrong))
		}
	}
}

// P9.2

func TestCodes(t *testing.T) {
	checkCodes(t, []int{2, 1, 3, 3}, []int{2, 0, 6, 7}, api.OK)
	checkCodes(t, []int{3, 3, 3, 3, 3, 2, 4, 4}, []int{2, 3, 4, 5, 6, 0, 14, 15}, api.OK)
	checkCodes(t, []int{1, 1}, []int{0, 1}, api.OK)
	checkCodes(t, repeated(5, 32), []int{
		0, 1, 2, 3, 4, 5, 6, 7, 8, 9, 10, 11, 12, 13, 14, 15, 16, 17, 18, 19, 20, 21, 22, 23, 24, 25, 26, 27, 28, 29, 30, 31,
	}, api.OK)
}

func TestCodesOfFixedLengths(t *testing.T) {
	got, code := codes.Codes(fixedSymbols())
	if len(got) != 288 || code != api.OK {
		t.Fatalf("Codes tells %d codes, %d", len(got), code)
	}
	for symbol, number := range got {
		want := 0x30 + symbol
		switch {
		case symbol >= 280:
			want = 0xc0 + symbol - 280
		case symbol >= 256:
			want = symbol - 256
		case symbol >= 144:
			want = 0x190 + symbol - 144
		}
		if number != want {
			t.Fatalf("the code of %d is %d, want %d", symbol, number, want)
		}
	}
}

func TestCodesOfLengthsWithoutSymbols(t *testing.T) {
	// Lengths without symbols count all the same.
	checkCodes(t, []int{1, 4, 4}, []int{0, 8, 9}, api.OK)
	checkCodes(t, []int{15, 1}, []int{1 << 14, 0}, api.OK)
	checkCodes(t, []int{15, 3, 15, 3}, []int{2 << 12, 0, 2<<12 + 1, 1}, api.OK)
	checkCodes(t, []int{15}, []int{0}, api.OK)
	checkCodes(t, []int{0, 7, 0, 7}, []int{0, 0, 0, 1}, api.OK)
}

func TestCodesThatAreNotComplete(t *testing.T) {
	checkCodes(t, nil, nil, api.OK)
	checkCodes(t, []int{}, nil, api.OK)
	checkCodes(t, []int{0}, []int{0}, api.OK)
	checkCodes(t, repeated(0, 320), repeated(0, 320), api.OK)
	checkCodes(t, []int{1}, []int{0}, api.OK)
	checkCodes(t, []int{0, 0, 1}, []int{0, 0, 0}, api.OK)
	checkCodes(t, []int{2, 0, 2, 1}, []int{2, 0, 3, 0}, api.OK)
	checkCodes(t, []int{3, 2}, []int{2, 0}, api.OK)
	checkCodes(t, stairs(15), []int{
		0, 2, 6, 14, 30, 62, 126, 254, 510, 1022, 2046, 4094, 8190, 16382, 32766,
	}, api.OK)
}

func TestCodesOfAnyFittingLists(t *testing.T) {
	random := rand.New(rand.NewPCG(9, 2))
	for range 3000 {
		lengths := someFitting(random)
		checkCodes(t, lengths, codesAgain(lengths), api.OK)
	}
}

func TestCodesAreNewMemory(t *testing.T) {
	lengths := []int{2, 1, 3, 3}
	first, _ := codes.Codes(lengths)
	second, _ := codes.Codes(lengths)
	clear(first)
	if !slices.Equal(second, []int{2, 0, 6, 7}) || !slices.Equal(lengths, []int{2, 1, 3, 3}) {
		t.Fatalf("behind a change of the first answer, the second is %v, and the lengths %v", second, lengths)
	}
	clear(lengths)
	if !slices.Equal(second, []int{2, 0, 6, 7}) {
		t.Fatalf("behind a change of the lengths, the codes are %v", second)
	}
}

func TestWhatStandsBehindALengthsEnd(t *testing.T) {
	all := []int{2, 1, 3, 3, 1, 99, -1, 1}
	lengths := all[:4]
	checkCheck(t, lengths, api.OK)
	checkCodes(t, lengths, []int{2, 0, 6, 7}, api.OK)
	tree := newTree(t, lengths)
	var w bitrow.Writer
	checkWrite(t, tree, &w, 4, api.ErrNone)
	checkWrite(t, tree, &w, 3, api.OK)
	checkRow(t, &w, "111")
	if want := []int{2, 1, 3, 3, 1, 99, -1, 1}; !slices.Equal(all, want) {
		t.Fatalf("the list is %v now", all)
	}
}

// P9.3

func TestNewOfLengthsThatFit(t *testing.T) {
	for _, lengths := range [][]int{nil, {}, {0}, {1}, {15}, {1, 1}, {2, 1, 3, 3}, repeated(0, 320), repeated(15, 320), fixedSymbols(), stairs(15)} {
		newTree(t, lengths)
	}
}

func TestWrite(t *testing.T) {
	tree := newTree(t, []int{2, 1, 3, 3})
	var w bitrow.Writer
	row := ""
	for i, code := range []string{"10", "0", "110", "111"} {
		checkWrite(t, tree, &w, i, api.OK)
		row += code
		checkRow(t, &w, row)
	}
	if got := w.Text(); got != "\xd9\x01" {
		t.Fatalf("Text = %q, want 217 and 1", got)
	}
}

func TestRead(t *testing.T) {
	tree := newTree(t, []int{2, 1, 3, 3})
	r := bitrow.New("\xd9\x01")
	checkRead(t, tree, r, 0, api.OK, 2)
	checkRead(t, tree, r, 1, api.OK, 3)
	checkRead(t, tree, r, 2, api.OK, 6)
	checkRead(t, tree, r, 3, api.OK, 9)
	for i := range 7 {
		checkRead(t, tree, r, 1, api.OK, 10+i)
	}
	checkRead(t, tree, r, 0, api.ErrShort, 16)
}

func TestWriteOfEachSymbolBehindEachBit(t *testing.T) {
	random := rand.New(rand.NewPCG(9, 3))
	lists := [][]int{{1}, {1, 1}, stairs(15), append(stairs(15), 15), fixedSymbols(), repeated(5, 30), repeated(15, 320), someComplete(random, 320)}
	for _, lengths := range lists {
		tree, b := newTree(t, lengths), bookOf(lengths)
		for symbol, code := range b.codes {
			for ahead := range 9 {
				var w bitrow.Writer
				w.Put(1<<ahead-1, ahead)
				row := strings.Repeat("1", ahead)
				checkWrite(t, tree, &w, symbol, wantOfWrite(code))
				checkRow(t, &w, row+code)
			}
		}
	}
}

// wantOfWrite tells again what Write answers of a symbol with such a code.
func wantOfWrite(code string) api.Errno {
	if code == "" {
		return api.ErrNone
	}
	return api.OK
}

func TestWriteOfSymbolsWithoutCodes(t *testing.T) {
	for _, lengths := range [][]int{nil, {0}, repeated(0, 320), {0, 1, 0, 2, 0}, {2, 1, 3, 3}, fixedSymbols(), repeated(15, 320)} {
		tree, b := newTree(t, lengths), bookOf(lengths)
		symbols := []int{
			-1, -2, -len(lengths), -1 << 32, -1<<32 + 1, math.MinInt, math.MinInt + 1, math.MinInt + len(lengths), math.MinInt32,
			len(lengths), len(lengths) + 1, 2*len(lengths) + 1, 320, 321, 1 << 16, 1<<16 + 1, 1 << 32, 1<<32 + 1, math.MaxInt32, math.MaxInt,
		}
		for symbol, code := range b.codes {
			if code == "" {
				symbols = append(symbols, symbol)
			}
		}
		var w bitrow.Writer
		w.Put(5, 3)
		for _, symbol := range symbols {
			checkWrite(t, tree, &w, symbol, api.ErrNone)
			checkRow(t, &w, "101")
		}
		row := "101"
		for symbol, code := range b.codes {
			checkWrite(t, tree, &w, symbol, wantOfWrite(code))
			row += code
		}
		checkRow(t, &w, row)
	}
}

func TestReadsOfAllShortTrees(t *testing.T) {
	for many, greatest := range []int{0, 5, 4, 4, 3} {
		forAll(many, greatest, func(lengths []int) {
			if fitAgain(lengths) != api.OK {
				return
			}
			tree, b := newTree(t, lengths), bookOf(lengths)
			for width := range 8 {
				for number := range 1 << width {
					checkReads(t, tree, b, bitsOf(number, width))
				}
			}
		})
	}
}

func TestReadOfBitsThatAreNoCode(t *testing.T) {
	// As many are read as the longest code has, also where fewer would tell.
	for length := 1; length <= 15; length++ {
		tree := newTree(t, []int{0, length})
		for on := range length {
			row := strings.Repeat("0", on) + "1" + strings.Repeat("0", length-on-1)
			r, at := readerOf(row + row)
			checkRead(t, tree, r, 0, api.ErrForm, at+length)
			checkRead(t, tree, r, 0, api.ErrForm, at+2*length)
			checkRead(t, tree, r, 0, api.ErrShort, at+2*length)
		}
		r, at := readerOf(strings.Repeat("0", 2*length) + "1" + strings.Repeat("0", length))
		checkRead(t, tree, r, 1, api.OK, at+length)
		checkRead(t, tree, r, 1, api.OK, at+2*length)
		checkRead(t, tree, r, 0, api.ErrForm, at+3*length)
		if length == 1 {
			checkRead(t, tree, r, 1, api.OK, at+4)
		}
		// Of a longer code the bit that is left is not all.
		checkRead(t, tree, r, 0, api.ErrShort, at+3*length+1)
	}
}

func TestReadOfStairs(t *testing.T) {
	// All bits on are no code; with one bit off, they are the code of so many bits.
	for last := 1; last <= 15; last++ {
		tree := newTree(t, stairs(last))
		for on := range last + 3 {
			r, at := readerOf(strings.Repeat("1", on))
			if on < last {
				checkRead(t, tree, r, 0, api.ErrShort, at+on)
				checkRead(t, tree, r, 0, api.ErrShort, at+on)
				r, at = readerOf(strings.Repeat("1", on) + "0")
				checkRead(t, tree, r, on, api.OK, at+on+1)
				continue
			}
			checkRead(t, tree, r, 0, api.ErrForm, at+last)
		}
	}
}

func TestReadOfEachCodeCutOff(t *testing.T) {
	random := rand.New(rand.NewPCG(9, 4))
	for _, lengths := range [][]int{append(stairs(15), 15), fixedSymbols(), repeated(5, 30), repeated(15, 320), someComplete(random, 320), someFitting(random)} {
		tree, b := newTree(t, lengths), bookOf(lengths)
		for symbol, code := range b.codes {
			if code == "" {
				continue
			}
			for left := range len(code) {
				r, at := readerOf(code[:left])
				checkRead(t, tree, r, 0, api.ErrShort, at+left)
			}
			r, at := readerOf(code)
			checkRead(t, tree, r, symbol, api.OK, at+len(code))
			checkRead(t, tree, r, 0, api.ErrShort, at+len(code))
		}
	}
}

func TestATreeWithoutCodes(t *testing.T) {
	for _, lengths := range [][]int{nil, {}, {0}, {0, 0}, repeated(0, 320)} {
		tree := newTree(t, lengths)
		for _, row := range []string{"", "0", "1", "10101010", "1111111111111111"} {
			r, at := readerOf(row)
			// Nothing is read of it, also where no bit is left.
			checkRead(t, tree, r, 0, api.ErrForm, at)
			checkRead(t, tree, r, 0, api.ErrForm, at)
			r.Get(len(row))
			checkRead(t, tree, r, 0, api.ErrForm, at+len(row))
		}
	}
}

func TestReadsOfAnyTrees(t *testing.T) {
	random := rand.New(rand.NewPCG(9, 5))
	for range 1000 {
		lengths := someFitting(random)
		tree, b := newTree(t, lengths), bookOf(lengths)
		for range 4 {
			var row strings.Builder
			for range random.IntN(200) {
				row.WriteByte('0' + byte(random.IntN(2)))
			}
			checkReads(t, tree, b, row.String())
		}
	}
}

func TestATreeKeepsNoLengths(t *testing.T) {
	lengths := []int{2, 1, 3, 3}
	tree := newTree(t, lengths)
	for at := range lengths {
		lengths[at] = 4
	}
	var w bitrow.Writer
	for symbol := range 4 {
		checkWrite(t, tree, &w, symbol, api.OK)
	}
	checkRow(t, &w, "100110111")
	checkReads(t, tree, bookOf([]int{2, 1, 3, 3}), "100110111010")
}

func TestTreesKnowNothingOfOneAnother(t *testing.T) {
	lists := [][]int{{2, 1, 3, 3}, {1, 2, 3, 3}, {0, 1, 1}, {2, 2, 2, 2}}
	var trees []*codes.Tree
	for _, lengths := range lists {
		trees = append(trees, newTree(t, lengths))
	}
	row := "1011001110001011101001"
	// Each goes on with a reader and a writer of its own, and with one that all have, in turn.
	common, place := readerOf(row)
	var written bitrow.Writer
	left, all := row, ""
	for range 3 {
		for i, tree := range trees {
			b := bookOf(lists[i])
			checkReads(t, tree, b, row)
			symbol, many, code := b.read(left)
			left = left[many:]
			place += many
			checkRead(t, tree, common, symbol, code, place)
			checkWrite(t, tree, &written, 2, api.OK)
			all += b.codes[2]
			checkRow(t, &written, all)
		}
	}
}

func TestATreeOnTwoReaders(t *testing.T) {
	tree := newTree(t, []int{2, 1, 3, 3})
	a, b := bitrow.New("\xd9"), bitrow.New("\xff")
	checkRead(t, tree, a, 0, api.OK, 2)
	checkRead(t, tree, b, 3, api.OK, 3)
	checkRead(t, tree, a, 1, api.OK, 3)
	checkRead(t, tree, b, 3, api.OK, 6)
	checkRead(t, tree, b, 0, api.ErrShort, 8)
	checkRead(t, tree, a, 2, api.OK, 6)
}

func TestWhatIsNil(t *testing.T) {
	var none *codes.Tree
	r := bitrow.New("\xd9\x01")
	r.Get(2)
	var w bitrow.Writer
	w.Put(2, 2)
	checkRead(t, none, r, 0, api.ErrNil, 2)
	checkRead(t, none, nil, 0, api.ErrNil, 0)
	for _, tree := range []*codes.Tree{none, newTree(t, []int{2, 1, 3, 3}), newTree(t, []int{0, 1}), newTree(t, nil)} {
		// Also where there is no code.
		for _, symbol := range []int{0, 1, 2, 3, 4, -1, math.MinInt, math.MaxInt} {
			checkWrite(t, none, &w, symbol, api.ErrNil)
			checkWrite(t, tree, nil, symbol, api.ErrNil)
		}
		checkRead(t, tree, nil, 0, api.ErrNil, 0)
	}
	checkRow(t, &w, "01")
	r.Get(14)
	checkRead(t, none, r, 0, api.ErrNil, 16)
}

// P9.4

// checkBeginnings checks that no code begins with another one.
func checkBeginnings(t *testing.T, lengths []int) {
	t.Helper()
	numbers, code := codes.Codes(lengths)
	if code != api.OK {
		t.Fatalf("Codes(%.200v) is refused: %d", lengths, code)
	}
	var rows []string
	for symbol, number := range numbers {
		if number < 0 || number >= 1<<lengths[symbol] {
			t.Fatalf("the code %d does not fit in %d bits", number, lengths[symbol])
		}
		if lengths[symbol] > 0 {
			rows = append(rows, bitsOf(number, lengths[symbol]))
		}
	}
	// In this order each row that another one begins with stands just ahead of such a one.
	slices.Sort(rows)
	for i := 1; i < len(rows); i++ {
		if strings.HasPrefix(rows[i], rows[i-1]) {
			t.Fatalf("of %.200v, the code %s begins with %s", lengths, rows[i], rows[i-1])
		}
	}
}

func TestNoCodeBeginsWithAnotherOne(t *testing.T) {
	for many, greatest := range []int{0, 15, 15, 8, 5, 4} {
		forAll(many, greatest, func(lengths []int) {
			if fitAgain(lengths) == api.OK {
				checkBeginnings(t, lengths)
			}
		})
	}
	random := rand.New(rand.NewPCG(9, 6))
	for range 2000 {
		checkBeginnings(t, someFitting(random))
	}
}

// symbolsOf tells the symbols that have codes.
func symbolsOf(lengths []int) []int {
	var symbols []int
	for symbol, length := range lengths {
		if length > 0 {
			symbols = append(symbols, symbol)
		}
	}
	return symbols
}

// checkRoundTrip writes so many of the symbols that have codes, and reads them.
func checkRoundTrip(t *testing.T, random *rand.Rand, lengths []int, many int) {
	t.Helper()
	tree, known := newTree(t, lengths), symbolsOf(lengths)
	if len(known) == 0 {
		return
	}
	var w bitrow.Writer
	var written []int
	for range many {
		symbol := known[random.IntN(len(known))]
		written = append(written, symbol)
		checkWrite(t, tree, &w, symbol, api.OK)
	}
	// A tree of the same lengths reads the same.
	again := newTree(t, lengths)
	r, at := bitrow.New(w.Text()), 0
	for i, symbol := range written {
		at += lengths[symbol]
		if i%2 == 0 {
			checkRead(t, tree, r, symbol, api.OK, at)
		} else {
			checkRead(t, again, r, symbol, api.OK, at)
		}
	}
	if at != w.Len() {
		t.Fatalf("%d bits are written, %d read", w.Len(), at)
	}
}

func TestWhatIsWrittenIsRead(t *testing.T) {
	random := rand.New(rand.NewPCG(9, 7))
	for _, lengths := range [][]int{{1}, {15}, {1, 1}, {2, 1, 3, 3}, stairs(15), append(stairs(15), 15), fixedSymbols(), repeated(5, 30), repeated(15, 320)} {
		checkRoundTrip(t, random, lengths, 1000)
	}
	for range 500 {
		checkRoundTrip(t, random, someFitting(random), random.IntN(500))
	}
	checkRoundTrip(t, random, someComplete(random, 320), api.MaxData)
}

func TestCompleteCodesReadAnyBits(t *testing.T) {
	random := rand.New(rand.NewPCG(9, 8))
	for range 300 {
		lengths := someComplete(random, 2+random.IntN(319))
		tree := newTree(t, lengths)
		s := make([]byte, random.IntN(300))
		for i := range s {
			s[i] = byte(random.IntN(256))
		}
		r := bitrow.New(string(s))
		var w bitrow.Writer
		for {
			symbol, code := tree.Read(r)
			if code == api.ErrShort && r.At() == 8*len(s) {
				break
			}
			if code != api.OK {
				t.Fatalf("Read of complete codes = %d at %d of %d bits", code, r.At(), 8*len(s))
			}
			checkWrite(t, tree, &w, symbol, api.OK)
		}
		// What is read is written just so.
		if got, all := rowOf(w.Text())[:w.Len()], rowOf(string(s)); !strings.HasPrefix(all, got) {
			t.Fatalf("%.60q is read, and written as %.100s", s, got)
		}
	}
}

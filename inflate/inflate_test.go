package inflate_test

import (
	"bytes"
	"compress/flate"
	"io"
	"math"
	"math/rand/v2"
	"slices"
	"strings"
	"testing"

	"bindery/api"
	"bindery/inflate"
)

// room is more than any text of these tests comes to.
const room = 1 << 30

// The first bits of blocks: whether one is the last, and its kind.
const (
	moreStored, lastStored = "000", "100"
	moreFixed, lastFixed   = "010", "110"
	moreOwn, lastOwn       = "001", "101"
	moreWrong, lastWrong   = "011", "111"
)

// order is the order in which the lengths of lengths stand.
var order = []int{16, 17, 18, 0, 8, 7, 9, 6, 10, 5, 11, 4, 12, 3, 13, 2, 14, 1, 15}

// low tells so many bits of a number as digits, the lowest ahead.
func low(n, width int) string {
	row := make([]byte, width)
	for i := range row {
		row[i] = '0' + byte(n>>i&1)
	}
	return string(row)
}

// high tells so many bits of a number as digits, the highest ahead.
func high(n, width int) string {
	row := []byte(low(n, width))
	slices.Reverse(row)
	return string(row)
}

// rowOf tells all bits of bytes as digits, of each byte the lowest ahead.
func rowOf(s string) string {
	var row strings.Builder
	for i := range len(s) {
		row.WriteString(low(int(s[i]), 8))
	}
	return row.String()
}

// bytesOf tells the bytes in which a row of bits stands; those that lack are 0.
func bytesOf(row string) string {
	s := make([]byte, (len(row)+7)/8)
	for i := range len(row) {
		s[i/8] |= (row[i] - '0') << (i % 8)
	}
	return string(s)
}

// repeated is a list of so many alike lengths.
func repeated(length, times int) []int { return slices.Repeat([]int{length}, times) }

// some tells any bytes.
func some(random *rand.Rand, length int) string {
	s := make([]byte, length)
	for i := range s {
		s[i] = byte(random.IntN(256))
	}
	return string(s)
}

// codesOf tells the codes of lengths as digits: each begins behind all rows of 15 bits that begin with those ahead of it.
func codesOf(lengths []int) []string {
	found, taken := make([]string, len(lengths)), 0
	for length := 1; length <= 15; length++ {
		for symbol := range lengths {
			if lengths[symbol] == length {
				found[symbol] = high(taken>>(15-length), length)
				taken += 1 << (15 - length)
			}
		}
	}
	return found
}

// coding is a block's codes.
type coding struct {
	symbols, distances []string
}

// codingOf is codes of such lengths.
func codingOf(symbols, distances []int) coding {
	return coding{codesOf(symbols), codesOf(distances)}
}

// fixed are the fixed codes.
var fixed = codingOf(
	slices.Concat(repeated(8, 144), repeated(9, 112), repeated(7, 24), repeated(8, 8)), repeated(5, 32),
)

// bytes tells bytes by their codes.
func (c coding) bytes(s string) string {
	row := ""
	for i := range len(s) {
		row += c.symbols[s[i]]
	}
	return row
}

// end tells a block's end.
func (c coding) end() string { return c.symbols[256] }

// piece tells a length and a distance.
func (c coding) piece(length, distance int) string {
	symbol, more, width := lengthSymbol(length)
	row := c.symbols[symbol] + low(more, width)
	symbol, more, width = distanceSymbol(distance)
	return row + c.distances[symbol] + low(more, width)
}

// leastLength tells with which length a symbol's ones begin, and how many bits more it has.
func leastLength(symbol int) (int, int) {
	if symbol == 285 {
		return 258, 0
	}
	least := 3
	for before := 257; before < symbol; before++ {
		least += 1 << moreOfLength(before)
	}
	return least, moreOfLength(symbol)
}

func moreOfLength(symbol int) int { return max(0, (symbol-261)/4) }

// leastDistance tells with which distance a symbol's ones begin, and how many bits more it has.
func leastDistance(symbol int) (int, int) {
	least := 1
	for before := range symbol {
		least += 1 << moreOfDistance(before)
	}
	return least, moreOfDistance(symbol)
}

func moreOfDistance(symbol int) int { return max(0, symbol/2-1) }

// lengthSymbol tells a length's symbol, how far it counts on, and in how many bits.
func lengthSymbol(length int) (int, int, int) {
	symbol := 285
	least, more := leastLength(symbol)
	for least > length {
		symbol--
		least, more = leastLength(symbol)
	}
	return symbol, length - least, more
}

// distanceSymbol tells a distance's symbol, how far it counts on, and in how many bits.
func distanceSymbol(distance int) (int, int, int) {
	symbol := 29
	least, more := leastDistance(symbol)
	for least > distance {
		symbol--
		least, more = leastDistance(symbol)
	}
	return symbol, distance - least, more
}

// sign is a sign among lengths: a length, or 16 to 18, and how far it counts on.
type sign struct {
	n, more int
}

// wide are lengths of signs' codes by which each sign has one.
var wide = slices.Concat(repeated(4, 13), repeated(5, 6))

// signsOf tells lengths each by itself.
func signsOf(lengths ...int) []sign {
	var row []sign
	for _, length := range lengths {
		row = append(row, sign{length, 0})
	}
	return row
}

// signRow tells signs by their codes.
func signRow(lengths []int, signs ...sign) string {
	row, found := "", codesOf(lengths)
	for _, s := range signs {
		row += found[s.n]
		if s.n >= 16 {
			row += low(s.more, []int{2, 3, 7}[s.n-16])
		}
	}
	return row
}

// counts tells how many symbols, distances and lengths of lengths there are.
func counts(symbols, distances, lengths int) string {
	return low(symbols-257, 5) + low(distances-1, 5) + low(lengths-4, 4)
}

// lengthsOfSigns tells the first lengths of signs' codes in their order.
func lengthsOfSigns(lengths []int, many int) string {
	row := ""
	for _, n := range order[:many] {
		row += low(lengths[n], 3)
	}
	return row
}

// head tells what stands ahead of a block's symbols, by lengths that are told by such signs.
func head(symbols, distances int, signs ...sign) string {
	return counts(symbols, distances, 19) + lengthsOfSigns(wide, 19) + signRow(wide, signs...)
}

// headOf tells what stands ahead of a block's symbols, each length by itself.
func headOf(symbols, distances []int) string {
	return head(len(symbols), len(distances), signsOf(slices.Concat(symbols, distances)...)...)
}

// withEnd is lengths by which just so many symbols have one, and 256 is one of them: 0 to many less 2, and 256.
func withEnd(lengths ...int) []int {
	last := len(lengths) - 1
	return slices.Concat(lengths[:last], repeated(0, 256-last), lengths[last:])
}

// emptyOwn is a block of its own codes without bytes. Its bits are an odd number.
var emptyOwn = moreOwn + head(257, 1, sign{1, 0}, sign{18, 127}, sign{18, 106}, sign{1, 0}, sign{0, 0}) + "1"

// silence is blocks without bytes, whose bits are so many more than whole bytes have.
func silence(width int) string {
	row := ""
	if width%2 != 0 {
		row = emptyOwn
	}
	for (len(row)-width)%8 != 0 {
		row += moreFixed + fixed.end()
	}
	return row
}

// ended tells bytes of which a row's last bit is the last one: blocks without bytes stand ahead of it.
func ended(row string) string { return bytesOf(silence(-len(row)) + row) }

// storedRow tells a stored block behind so many bits.
func storedRow(ahead int, first, fill, s string) string {
	row := first
	for (ahead+len(row))%8 != 0 {
		row += fill
	}
	return row + low(len(s), 16) + low(len(s)^0xffff, 16) + rowOf(s)
}

// storedBytes tells a stored block that begins with a byte, and is not the last one.
func storedBytes(s string) string {
	below, above := byte(len(s)), byte(len(s)>>8)
	return string([]byte{0, below, above, ^below, ^above}) + s
}

// inflated is a second telling of deflated bytes. What is wrong ends it by a panic with the error.
type inflated struct {
	row  string
	at   int
	text []byte
	most int
}

// number takes a number of so many bits.
func (d *inflated) number(width int) int {
	if len(d.row)-d.at < width {
		panic(api.ErrShort)
	}
	n := 0
	for i := range width {
		n |= int(d.row[d.at+i]-'0') << i
	}
	d.at += width
	return n
}

// symbol takes a symbol.
func (d *inflated) symbol(codes []string) int {
	longest := 0
	for symbol, code := range codes {
		if code != "" && strings.HasPrefix(d.row[d.at:], code) {
			d.at += len(code)
			return symbol
		}
		longest = max(longest, len(code))
	}
	if len(d.row)-d.at < longest {
		panic(api.ErrShort)
	}
	panic(api.ErrForm)
}

// hold asks whether there is room for what is told.
func (d *inflated) hold() {
	if len(d.text) > d.most {
		panic(api.ErrBig)
	}
}

// form asks whether something has the form that it is to have.
func form(ok bool) {
	if !ok {
		panic(api.ErrForm)
	}
}

// isComplete tells whether lengths are.
func isComplete(lengths []int) bool {
	sum := 0
	for _, length := range lengths {
		if length > 0 {
			sum += 1 << (15 - length)
		}
	}
	return sum == 1<<15
}

// stored takes a stored block.
func (d *inflated) stored() {
	d.at = (d.at + 7) / 8 * 8
	length := d.number(16)
	form(d.number(16) == 0xffff-length)
	if len(d.row)-d.at < 8*length {
		panic(api.ErrShort)
	}
	for range length {
		d.text = append(d.text, byte(d.number(8)))
	}
	d.hold()
}

// coded takes a block's symbols.
func (d *inflated) coded(c coding) {
	for {
		symbol := d.symbol(c.symbols)
		if symbol == 256 {
			return
		}
		if symbol < 256 {
			d.text = append(d.text, byte(symbol))
			d.hold()
			continue
		}
		form(symbol < 286)
		least, more := leastLength(symbol)
		length := least + d.number(more)
		symbol = d.symbol(c.distances)
		form(symbol < 30)
		least, more = leastDistance(symbol)
		from := len(d.text) - least - d.number(more)
		if from < 0 {
			panic(api.ErrRange)
		}
		for i := range length {
			d.text = append(d.text, d.text[from+i])
		}
		d.hold()
	}
}

// own takes a block's own codes.
func (d *inflated) own() coding {
	symbols, distances, many := 257+d.number(5), 1+d.number(5), 4+d.number(4)
	form(symbols <= 286 && distances <= 30)
	signs := make([]int, 19)
	for _, n := range order[:many] {
		signs[n] = d.number(3)
	}
	form(isComplete(signs))
	var lengths []int
	for found := codesOf(signs); len(lengths) < symbols+distances; {
		n := d.symbol(found)
		switch {
		case n < 16:
			lengths = append(lengths, n)
		case n == 16:
			form(len(lengths) > 0)
			lengths = append(lengths, repeated(lengths[len(lengths)-1], 3+d.number(2))...)
		case n == 17:
			lengths = append(lengths, repeated(0, 3+d.number(3))...)
		case n == 18:
			lengths = append(lengths, repeated(0, 11+d.number(7))...)
		}
	}
	form(len(lengths) == symbols+distances)
	form(isComplete(lengths[:symbols]) && lengths[256] != 0)
	behind := slices.Sorted(slices.Values(lengths[symbols:]))
	last := len(behind) - 1
	form(isComplete(behind) || behind[last] == 0 || behind[last] == 1 && (last == 0 || behind[last-1] == 0))
	return codingOf(lengths[:symbols], lengths[symbols:])
}

// inflateAgain tells again what Inflate is to answer.
func inflateAgain(s string, most int) (text string, many int, code api.Errno) {
	if most < 0 {
		return "", 0, api.ErrArg
	}
	defer func() {
		if wrong, ok := recover().(api.Errno); ok {
			text, many, code = "", 0, wrong
		}
	}()
	d := &inflated{row: rowOf(s), most: most}
	for last := false; !last; {
		last = d.number(1) == 1
		switch d.number(2) {
		case 0:
			d.stored()
		case 1:
			d.coded(fixed)
		case 2:
			d.coded(d.own())
		case 3:
			panic(api.ErrForm)
		}
	}
	return string(d.text), (d.at + 7) / 8, api.OK
}

func check(t *testing.T, s string, most int, want string, wantMany int, wantCode api.Errno) {
	t.Helper()
	got, many, code := inflate.Inflate(s, most)
	if got != want || many != wantMany || code != wantCode {
		t.Fatalf("Inflate(%.80q, %d) of %d bytes = %.60q of %d bytes, %d, %d, want %.60q of %d bytes, %d, %d",
			s, most, len(s), got, len(got), many, code, want, len(want), wantMany, wantCode)
	}
}

// checkOK checks bytes that are told again: with just as much room as they need, and with more; with anything behind; and not with less room.
func checkOK(t *testing.T, s, want string) {
	t.Helper()
	check(t, s, len(want), want, len(s), api.OK)
	check(t, s, len(want)+1, want, len(s), api.OK)
	check(t, s+"\x00", room, want, len(s), api.OK)
	check(t, s+"\xff\xff\xff", math.MaxInt, want, len(s), api.OK)
	check(t, s, -1, "", 0, api.ErrArg)
	if want != "" {
		check(t, s, len(want)-1, "", 0, api.ErrBig)
	}
}

// checkRow checks a row behind each number of bits; the bits that fill up its last byte don't matter.
func checkRow(t *testing.T, row, want string) {
	t.Helper()
	for ahead := range 8 {
		whole := silence(ahead) + row
		checkOK(t, bytesOf(whole), want)
		for len(whole)%8 != 0 {
			whole += "1"
		}
		checkOK(t, bytesOf(whole), want)
	}
}

// checkMet checks that an error is met with a row's last bit: without it, bits lack, and what stands behind changes nothing.
func checkMet(t *testing.T, row string, most int, want api.Errno) {
	t.Helper()
	for _, behind := range []string{"", "0", "1", "01", "10", "1111111", "0000000", strings.Repeat("0", 100), strings.Repeat("1", 100), strings.Repeat("10", 50)} {
		check(t, ended(row+behind), most, "", 0, want)
	}
	check(t, ended(row[:len(row)-1]), most, "", 0, api.ErrShort)
}

// checkCuts checks that a row that is cut off at any of its bits is short.
func checkCuts(t *testing.T, row string) {
	t.Helper()
	for left := range len(row) {
		check(t, ended(row[:left]), room, "", 0, api.ErrShort)
	}
}

// checkAgain checks an answer against the second telling, and tells its error.
func checkAgain(t *testing.T, s string, most int) api.Errno {
	t.Helper()
	want, many, code := inflateAgain(s, most)
	check(t, s, most, want, many, code)
	return code
}

// P10.1

func TestExamples(t *testing.T) {
	checkOK(t, "\x01\x01\x00\xfe\xffa", "a")
	checkOK(t, "\x4b\x04\x00", "a")
	checkOK(t, "\x4b\x04\x02\x00", "aaaa")
	checkOK(t, "\x01\x00\x00\xff\xff", "")
	checkOK(t, "\x03\x00", "")
}

func TestStored(t *testing.T) {
	random := rand.New(rand.NewPCG(10, 1))
	for _, length := range []int{0, 1, 2, 3, 127, 128, 255, 256, 257, 1000, 32767, 32768, 32769, 65279, 65280, 65281, 65534, 65535} {
		s := some(random, length)
		checkOK(t, bytesOf(storedRow(0, lastStored, "0", s)), s)
	}
}

func TestStoredBehindEachBit(t *testing.T) {
	// The bits up to the whole byte are passed, whatever they are.
	for ahead := range 16 {
		for _, fill := range []string{"0", "1"} {
			row := silence(ahead)
			row += storedRow(len(row), moreStored, fill, "a bit")
			row += storedRow(len(row), moreStored, fill, "")
			row += storedRow(len(row), moreStored, fill, "\x00\xff")
			row += moreFixed + fixed.bytes("b\xc0") + fixed.end()
			row += storedRow(len(row), lastStored, fill, "more")
			checkOK(t, bytesOf(row), "a bit\x00\xffb\xc0more")
		}
	}
	// Where the first bits end a byte, none are passed.
	row := silence(5)
	checkOK(t, bytesOf(row+lastStored+low(1, 16)+low(0xfffe, 16)+rowOf("z")), "z")
}

func TestStoredHalves(t *testing.T) {
	halves := func(length, other int) string {
		return "\x01" + string([]byte{byte(length), byte(length >> 8), byte(other), byte(other >> 8)})
	}
	for _, length := range []int{0, 1, 2, 255, 256, 257, 0x1234, 32768, 65534, 65535} {
		text := strings.Repeat("s", length)
		checkOK(t, halves(length, length^0xffff)+text, text)
		others := []int{length, 0xffff - length ^ 1<<8, length<<8 | length>>8, (length<<8 | length>>8) ^ 0xffff, length - 1, -length, 0, 0xffff}
		for bit := range 16 {
			others = append(others, length^0xffff^1<<bit)
		}
		for _, other := range others {
			if other&0xffff == length^0xffff {
				continue
			}
			// That is met ahead of the bytes, and of the room.
			for _, behind := range []string{"", "s", text, text + "s"} {
				check(t, halves(length, other)+behind, room, "", 0, api.ErrForm)
				check(t, halves(length, other)+behind, 0, "", 0, api.ErrForm)
			}
			for cut := range 5 {
				check(t, halves(length, other)[:cut], room, "", 0, api.ErrShort)
			}
		}
	}
}

func TestAllStoredHalves(t *testing.T) {
	for length := range 1 << 16 {
		below, above := byte(length), byte(length>>8)
		want := api.ErrShort
		if length == 0 {
			want = api.OK
		}
		if _, _, code := inflate.Inflate(string([]byte{1, below, above, ^below, ^above}), 0); code != want {
			t.Fatalf("the length %d is %d", length, code)
		}
		if _, _, code := inflate.Inflate(string([]byte{1, below, above, below, above}), 0); code != api.ErrForm {
			t.Fatalf("the length %d, told twice, is %d", length, code)
		}
	}
}

func TestBlocksUpToTheLastOne(t *testing.T) {
	letters := "stuv"
	for many := range 5 {
		for kinds := range 1 << (2 * many) {
			row := ""
			for at := range many {
				letter := letters[at : at+1]
				first := func(more, last string) string {
					if at == many-1 {
						return last
					}
					return more
				}
				switch kinds >> (2 * at) & 3 {
				case 0:
					row += storedRow(len(row), first(moreStored, lastStored), "0", letter)
				case 1:
					row += first(moreFixed, lastFixed) + fixed.bytes(letter) + fixed.end()
				case 2:
					lengths := withEnd(append(make([]int, 's'+at), 1, 1)...)
					row += first(moreOwn, lastOwn) + headOf(lengths, []int{0}) + "01"
				case 3:
					row += first(moreFixed, lastFixed) + fixed.end()
				}
			}
			s := bytesOf(row)
			if many == 0 {
				check(t, s, room, "", 0, api.ErrShort)
				continue
			}
			checkAgain(t, s, room)
			checkOK(t, s, wantOfKinds(letters, kinds, many))
		}
	}
}

// wantOfKinds tells the letters of blocks that are not empty.
func wantOfKinds(letters string, kinds, many int) string {
	want := ""
	for at := range many {
		if kinds>>(2*at)&3 != 3 {
			want += letters[at : at+1]
		}
	}
	return want
}

func TestBlocksWithoutALastOne(t *testing.T) {
	row := ""
	for range 30 {
		row += moreFixed + fixed.end()
		check(t, ended(row), room, "", 0, api.ErrShort)
		check(t, ended(row+"1"), room, "", 0, api.ErrShort)
		check(t, ended(row+"10"), room, "", 0, api.ErrShort)
	}
	for many := range 5 {
		s := strings.Repeat("\x00\x01\x00\xfe\xffa", many)
		check(t, s, room, "", 0, api.ErrShort)
		check(t, s+"\x02", room, "", 0, api.ErrShort)
		check(t, s+"\x03\x00", room, strings.Repeat("a", many), 6*many+2, api.OK)
		check(t, s+"\x06", room, "", 0, api.ErrForm)
	}
}

func TestBlocksOfNoKind(t *testing.T) {
	for _, first := range []string{moreWrong, lastWrong} {
		checkMet(t, first, room, api.ErrForm)
		checkMet(t, first, 0, api.ErrForm)
		checkMet(t, moreFixed+fixed.bytes("abc")+fixed.end()+first, 3, api.ErrForm)
		for _, s := range []string{"", "\x00", "\xff\xff\xff"} {
			check(t, bytesOf(first)+s, room, "", 0, api.ErrForm)
		}
	}
}

func TestEachByteByFixedCodes(t *testing.T) {
	for n := range 256 {
		c := string([]byte{byte(n)})
		row := high(0x30+n, 8)
		if n >= 144 {
			row = high(0x190+n-144, 9)
		}
		checkRow(t, lastFixed+row+"0000000", c)
		checkRow(t, lastFixed+strings.Repeat(row, 5)+"0000000", strings.Repeat(c, 5))
	}
}

// P10.2

func TestFixedSymbolsThatAreNone(t *testing.T) {
	for _, symbol := range []int{286, 287} {
		// They are met ahead of any bits more.
		checkMet(t, lastFixed+high(0xc0+symbol-280, 8), room, api.ErrForm)
		checkMet(t, lastFixed+fixed.bytes("x")+high(0xc0+symbol-280, 8), 1, api.ErrForm)
		checkMet(t, lastFixed+fixed.bytes("x")+fixed.piece(3, 1)+high(0xc0+symbol-280, 8), 4, api.ErrForm)
	}
	for _, symbol := range []int{30, 31} {
		for _, length := range []string{high(1, 7), high(9, 7) + "1", high(0xc0+4, 8) + "11111", high(0xc0+5, 8)} {
			checkMet(t, lastFixed+fixed.bytes("x")+length+high(symbol, 5), room, api.ErrForm)
			// They are told ahead of the room, and of what is beyond the first byte.
			checkMet(t, lastFixed+fixed.bytes("x")+length+high(symbol, 5), 1, api.ErrForm)
			checkMet(t, lastFixed+length+high(symbol, 5), 0, api.ErrForm)
		}
	}
}

func TestEachLength(t *testing.T) {
	least := []int{
		3, 4, 5, 6, 7, 8, 9, 10, 11, 13, 15, 17, 19, 23, 27, 31, 35, 43, 51, 59, 67, 83, 99, 115, 131, 163, 195, 227, 258,
	}
	widths := []int{0, 0, 0, 0, 0, 0, 0, 0, 1, 1, 1, 1, 2, 2, 2, 2, 3, 3, 3, 3, 4, 4, 4, 4, 5, 5, 5, 5, 0}
	for at, from := range least {
		symbol := 257 + at
		row := high(symbol-256, 7)
		if symbol >= 280 {
			row = high(0xc0+symbol-280, 8)
		}
		for more := range 1 << widths[at] {
			length := from + more
			checkRow(t, lastFixed+fixed.bytes("y")+row+low(more, widths[at])+"00000"+fixed.end(), strings.Repeat("y", 1+length))
			checkRow(t, lastFixed+fixed.bytes("xyz")+row+low(more, widths[at])+"00010"+fixed.end(), strings.Repeat("xyz", 100)[:3+length])
		}
	}
}

func TestEachDistance(t *testing.T) {
	least := []int{
		1, 2, 3, 4, 5, 7, 9, 13, 17, 25, 33, 49, 65, 97, 129, 193, 257, 385, 513, 769,
		1025, 1537, 2049, 3073, 4097, 6145, 8193, 12289, 16385, 24577,
	}
	random := rand.New(rand.NewPCG(10, 2))
	text := some(random, 32768)
	ahead := storedBytes(text)
	for symbol, from := range least {
		width := max(0, symbol/2-1)
		for more := range 1 << width {
			// Of the many, each that has but one bit, or lacks but one, and some.
			if one, lacks := more&(more-1), (1<<width-1)^more; one != 0 && lacks&(lacks-1) != 0 && more%29 != 0 {
				continue
			}
			distance := from + more
			s := ahead + bytesOf(lastFixed+high(1, 7)+high(symbol, 5)+low(more, width)+fixed.end())
			want := text
			for range 3 {
				want += want[len(want)-distance : len(want)-distance+1]
			}
			check(t, s, len(want), want, len(s), api.OK)
		}
	}
}

func TestAPieceThatReachesIntoItself(t *testing.T) {
	for many := 1; many <= 20; many++ {
		text := "abcdefghijklmnopqrstuvwxyz"[:many]
		for distance := 1; distance <= many; distance++ {
			for _, length := range []int{3, 4, 5, 10, 11, 17, 30, 257, 258} {
				want := []byte(text)
				for range length {
					want = append(want, want[len(want)-distance])
				}
				row := lastFixed + fixed.bytes(text) + fixed.piece(length, distance) + fixed.bytes("!") + fixed.end()
				checkOK(t, bytesOf(row), string(want)+"!")
			}
		}
	}
}

func TestPiecesReachAcrossBlocks(t *testing.T) {
	row := storedRow(0, moreStored, "0", "stored ")
	row += moreFixed + fixed.piece(7, 7) + fixed.end()
	row += moreFixed + fixed.bytes("fixed ") + fixed.end()
	lengths, distances := make([]int, 261), []int{0, 0, 0, 0, 0, 0, 0, 0, 1, 1}
	lengths['a'], lengths[256], lengths[260] = 2, 1, 2
	own := codingOf(lengths, distances)
	row += moreOwn + headOf(lengths, distances) + own.bytes("a") + own.symbols[260] + own.distances[8] + low(4, 3) + own.end()
	row += storedRow(len(row), moreStored, "1", "!")
	row += lastFixed + fixed.piece(28, 28) + fixed.end()
	want := "stored stored fixed a"
	want += want[:6] + "!"
	checkOK(t, bytesOf(row), want+want)
}

func TestTheFarthestDistance(t *testing.T) {
	// Behind more bytes than a distance reaches, the one so far ahead is told, not the first.
	random := rand.New(rand.NewPCG(10, 3))
	first, second := some(random, 65535), some(random, 5000)
	row := storedRow(0, moreStored, "0", first)
	row += storedRow(len(row), moreStored, "0", second)
	row += lastFixed + fixed.piece(258, 32768) + fixed.piece(258, 32768) + fixed.piece(3, 32767) + fixed.end()
	want := first + second
	for _, piece := range [][2]int{{258, 32768}, {258, 32768}, {3, 32767}} {
		from := len(want) - piece[1]
		want += want[from : from+piece[0]]
	}
	checkOK(t, bytesOf(row), want)
}

func TestDistancesBeyondTheFirstByte(t *testing.T) {
	random := rand.New(rand.NewPCG(10, 4))
	for _, many := range []int{0, 1, 2, 3, 4, 5, 6, 7, 8, 12, 13, 16, 24, 25, 100, 256, 257, 1000, 4096, 16384, 24576, 32766, 32767} {
		text := some(random, many)
		for _, beyond := range []int{1, 2, 3, 10, 1000, 32768} {
			distance := min(32768, many+beyond)
			row := silence(5) + moreStored + low(many, 16) + low(many^0xffff, 16) + rowOf(text)
			s := bytesOf(row + lastFixed + fixed.piece(4, distance) + fixed.end())
			check(t, s, room, "", 0, api.ErrRange)
			// That is told ahead of the room.
			check(t, s, many, "", 0, api.ErrRange)
		}
		if many > 0 {
			row := storedRow(0, moreStored, "0", text) + lastFixed + fixed.piece(4, many) + fixed.end()
			want := []byte(text)
			for range 4 {
				want = append(want, want[len(want)-many])
			}
			checkOK(t, bytesOf(row), string(want))
		}
	}
	// It is met with the last bit of the distance.
	for distance := 1; distance <= 3000; distance += 7 {
		checkMet(t, lastFixed+fixed.piece(3, distance), room, api.ErrRange)
		checkMet(t, lastFixed+fixed.piece(258, distance), 0, api.ErrRange)
		checkMet(t, moreFixed+fixed.bytes("ab")+fixed.end()+lastFixed+fixed.piece(11, distance+2), 2, api.ErrRange)
	}
}

// P10.3

func TestHowManySymbolsAndDistances(t *testing.T) {
	for symbols := 257; symbols <= 286; symbols++ {
		for distances := 1; distances <= 30; distances++ {
			// The last symbol and the last distance have codes, and 0 and 256.
			lengths, behind := append(withEnd(1, 2), make([]int, symbols-257)...), make([]int, distances)
			lengths[symbols-1] = 2
			if symbols == 257 {
				lengths[256] = 1
			}
			behind[distances-1] = 1
			own := codingOf(lengths, behind)
			row := lastOwn + headOf(lengths, behind)
			checkOK(t, bytesOf(row+own.bytes("\x00\x00\x00")+own.end()), "\x00\x00\x00")
			if symbols == 257 {
				continue
			}
			least, width := leastLength(symbols - 1)
			far, widthFar := leastDistance(distances - 1)
			s := bytesOf(row + own.symbols[symbols-1] + low(0, width) + own.distances[distances-1] + low(0, widthFar) + own.end())
			text := strings.Repeat("s", far)
			check(t, storedBytes(text)+s, room, text+strings.Repeat("s", least), 5+far+len(s), api.OK)
			check(t, storedBytes(text[1:])+s, room, "", 0, api.ErrRange)
		}
	}
}

func TestTooManySymbolsOrDistances(t *testing.T) {
	for symbols := 257; symbols <= 288; symbols++ {
		for distances := 1; distances <= 32; distances++ {
			for _, lengths := range []int{4, 5, 18, 19} {
				row := lastOwn + counts(symbols, distances, lengths)
				if symbols > 286 || distances > 30 {
					// That is told behind the 14 bits, and no later.
					checkMet(t, row, room, api.ErrForm)
					continue
				}
				check(t, ended(row), room, "", 0, api.ErrShort)
			}
		}
	}
}

func TestLengthsOfLengthsInTheirOrder(t *testing.T) {
	for many := 4; many <= 19; many++ {
		// Two signs have codes: the last one that is told, and each other one.
		for at := range many - 1 {
			first, last := order[at], order[many-1]
			signs := make([]int, 19)
			signs[first], signs[last] = 1, 1
			row := lastOwn + counts(257, 1, many) + lengthsOfSigns(signs, many)
			if many < 19 {
				// One more, which is 0, is the same.
				more := lastOwn + counts(257, 1, many+1) + lengthsOfSigns(signs, many+1)
				for _, s := range []string{"\x00", "\xff", "\x55"} {
					checkAlike(t, row+strings.Repeat(rowOf(s), 90), more+strings.Repeat(rowOf(s), 90))
				}
			}
			checkCuts(t, row)
			for number := range 1 << 6 {
				checkAgain(t, bytesOf(row+strings.Repeat(low(number, 6), 60)), room)
			}
		}
	}
}

// checkAlike checks that two rows are answered alike, but for how many bytes are read.
func checkAlike(t *testing.T, a, b string) {
	t.Helper()
	first, _, code := inflate.Inflate(bytesOf(a), room)
	second, _, other := inflate.Inflate(bytesOf(b), room)
	if first != second || code != other {
		t.Fatalf("%s is %q, %d; %s is %q, %d", a, first, code, b, second, other)
	}
}

func TestLengthsOfLengthsThatAreNotComplete(t *testing.T) {
	random := rand.New(rand.NewPCG(10, 5))
	lists := [][]int{
		make([]int, 19), repeated(1, 19), repeated(7, 19), repeated(5, 19), repeated(4, 19), slices.Concat(repeated(4, 13), repeated(5, 5), []int{0}),
		slices.Concat(repeated(4, 13), repeated(5, 5), []int{4}), slices.Concat([]int{1}, make([]int, 18)), slices.Concat(make([]int, 18), []int{1}),
		slices.Concat([]int{1, 1, 1}, make([]int, 16)), slices.Concat([]int{1, 2, 3, 4, 5, 6, 7}, make([]int, 12)),
		slices.Concat([]int{1, 2, 3, 4, 5, 6, 7, 7, 7}, make([]int, 10)),
	}
	for range 300 {
		signs := slices.Clone(wide)
		random.Shuffle(19, func(i, j int) { signs[i], signs[j] = signs[j], signs[i] })
		signs[random.IntN(19)] ^= 1 << random.IntN(3)
		lists = append(lists, signs)
	}
	for _, signs := range lists {
		if isComplete(signs) {
			t.Fatalf("%v are complete", signs)
		}
		checkMet(t, lastOwn+counts(257, 1, 19)+lengthsOfSigns(signs, 19), room, api.ErrForm)
		checkMet(t, moreFixed+fixed.bytes("a")+fixed.end()+lastOwn+counts(286, 30, 19)+lengthsOfSigns(signs, 19), 1, api.ErrForm)
	}
	// Where not all are told, the others are 0.
	for many := 4; many <= 18; many++ {
		checkMet(t, lastOwn+counts(257, 1, many)+lengthsOfSigns(wide, many), room, api.ErrForm)
	}
	complete := slices.Concat([]int{1, 2, 3, 4, 5, 6, 7, 7}, make([]int, 11))
	checkCuts(t, lastOwn+counts(257, 1, 19)+lengthsOfSigns(complete, 19))
}

func TestAllFirstLengthsOfLengths(t *testing.T) {
	// Those of 16, 17, 18 and 0.
	for number := range 1 << 12 {
		s := bytesOf(lastOwn + counts(257, 1, 4) + low(number, 12) + strings.Repeat("0", 100))
		checkAgain(t, s, room)
		checkAgain(t, s+"\xff", room)
	}
}

func TestTheLengthAhead(t *testing.T) {
	for more := range 4 {
		times := 3 + more
		// So many more codes of 4 bits, and as many as lack of 4 bits, one by one.
		signs := []sign{{4, 0}, {16, more}}
		signs = append(signs, signsOf(repeated(4, 14-times)...)...)
		signs = append(signs, signsOf(repeated(0, 256-15)...)...)
		signs = append(signs, signsOf(4, 0)...)
		lengths := withEnd(repeated(4, 16)...)
		own := codingOf(lengths, []int{0})
		text := "\x00\x01\x02\x03\x04\x05\x06\x07\x08\x09\x0a\x0b\x0c\x0d\x0e"
		row := lastOwn + head(257, 1, signs...)
		checkRow(t, row+own.bytes(text)+own.end(), text)
		checkCuts(t, row)
	}
}

func TestTheLengthAheadIsNought(t *testing.T) {
	// Behind 17, 18, 16 and 0 it is 0, also where another length was farther ahead.
	for _, ahead := range [][]sign{{{0, 0}}, {{17, 0}}, {{17, 7}}, {{18, 0}}, {{18, 127}}, {{17, 0}, {16, 3}}, {{18, 5}, {16, 0}, {16, 1}}} {
		signs := append([]sign{{1, 0}}, ahead...)
		signs = append(signs, sign{16, 2})
		left := 255 - 5
		for _, s := range ahead {
			left -= []int{1, 3, 3, 11}[max(0, s.n-15)] + s.more
		}
		signs = append(signs, signsOf(repeated(0, left)...)...)
		signs = append(signs, signsOf(1, 0)...)
		checkRow(t, lastOwn+head(257, 1, signs...)+"001", "\x00\x00")
	}
}

func TestTheLengthAheadOfAll(t *testing.T) {
	// It is met with the code of 16, whatever was there in blocks ahead.
	row := lastOwn + counts(257, 1, 19) + lengthsOfSigns(wide, 19) + codesOf(wide)[16]
	checkMet(t, row, room, api.ErrForm)
	checkMet(t, emptyOwn+row, room, api.ErrForm)
	checkMet(t, moreFixed+fixed.bytes("abc")+fixed.end()+row, 3, api.ErrForm)
	signs := make([]int, 19)
	signs[16], signs[8] = 1, 1
	checkMet(t, lastOwn+counts(257, 1, 5)+lengthsOfSigns(signs, 5)+"1", room, api.ErrForm)
	signs = make([]int, 19)
	signs[16], signs[18] = 1, 1
	checkMet(t, lastOwn+counts(286, 30, 4)+lengthsOfSigns(signs, 4)+"0", room, api.ErrForm)
}

func TestNoughts(t *testing.T) {
	// Each number of noughts that 17 and 18 tell, and the rest one by one.
	for n, numbers := range map[int]int{17: 8, 18: 128} {
		for more := range numbers {
			times := 3 + more
			if n == 18 {
				times = 11 + more
			}
			signs := []sign{{1, 0}, {n, more}}
			signs = append(signs, signsOf(repeated(0, 255-times)...)...)
			signs = append(signs, signsOf(1, 0)...)
			row := lastOwn + head(257, 1, signs...)
			checkOK(t, bytesOf(row+"0001"), "\x00\x00\x00")
			check(t, ended(row), room, "", 0, api.ErrShort)
		}
	}
}

func TestSymbolsAndDistancesInOneRow(t *testing.T) {
	// 16, 17 and 18 reach from the lengths of symbols into those of distances.
	lengths := withEnd(repeated(4, 16)...)
	for many := 1; many <= 14; many++ {
		// From symbol 256 on there are so many of 4 bits, and 16 of distances of 4 bits.
		symbols := slices.Concat(repeated(4, 16-many), repeated(0, 240+many), repeated(4, many))
		distances := repeated(4, 16)
		own := codingOf(symbols, distances)
		signs := signsOf(symbols[:257]...)
		for left := many - 1 + 16; left > 0; {
			switch {
			case left >= 6 && left != 7 && left != 8:
				signs = append(signs, sign{16, 3})
				left -= 6
			case left >= 3:
				times := min(left, 6)
				if left-times == 1 || left-times == 2 {
					times = 4
				}
				signs = append(signs, sign{16, times - 3})
				left -= times
			default:
				signs = append(signs, signsOf(4)...)
				left--
			}
		}
		row := storedRow(0, moreStored, "0", strings.Repeat("\x00", 300)) + lastOwn + head(len(symbols), 16, signs...)
		if many > 1 {
			checkOK(t, bytesOf(row+own.symbols[257]+own.distances[15]+low(0, 6)+own.end()), strings.Repeat("\x00", 303))
			continue
		}
		checkOK(t, bytesOf(row+own.bytes("\x00")+own.end()), strings.Repeat("\x00", 301))
	}
	// Noughts behind 256, and of the distances all but the last.
	for symbols := 257; symbols <= 286; symbols++ {
		for distances := 1; distances <= 30; distances++ {
			times := symbols - 257 + distances - 1
			signs := signsOf(lengths...)
			switch {
			case times >= 11:
				signs = append(signs, sign{18, times - 11})
			case times >= 3:
				signs = append(signs, sign{17, times - 3})
			default:
				signs = append(signs, signsOf(repeated(0, times)...)...)
			}
			signs = append(signs, sign{1, 0})
			own := codingOf(lengths, nil)
			checkOK(t, bytesOf(lastOwn+head(symbols, distances, signs...)+own.bytes("\x03\x0e")+own.end()), "\x03\x0e")
		}
	}
}

func TestMoreLengthsThanThereAreToBe(t *testing.T) {
	lengths := withEnd(repeated(4, 16)...)
	for _, distances := range []int{1, 2, 3, 12, 30} {
		for left := 1; left <= min(distances, 20); left++ {
			ahead := append(signsOf(lengths...), signsOf(repeated(0, distances-left)...)...)
			for _, s := range []sign{{16, 0}, {16, 1}, {16, 3}, {17, 0}, {17, 1}, {17, 7}, {18, 0}, {18, 1}, {18, 127}} {
				times := []int{3, 3, 11}[s.n-16] + s.more
				row := lastOwn + head(257, distances, append(slices.Clone(ahead), s)...)
				if times > left {
					// That is met with the last bit that says how often.
					checkMet(t, row, room, api.ErrForm)
				} else if times < left {
					check(t, ended(row), room, "", 0, api.ErrShort)
				} else {
					checkAgain(t, ended(row), room)
				}
			}
		}
	}
	// Just as many as there are to be.
	for distances := 3; distances <= 30; distances++ {
		s := sign{17, distances - 3}
		if distances > 10 {
			s = sign{18, max(0, distances-11)}
		}
		row := lastOwn + head(257, distances, append(signsOf(lengths...), s)...)
		checkOK(t, bytesOf(row+codingOf(lengths, nil).end()), "")
	}
}

func TestSymbolsWhoseLengthsAreWrong(t *testing.T) {
	lists := [][]int{
		// Not complete: too few, and too many; and without 256.
		withEnd(1), withEnd(2), withEnd(15), withEnd(2, 2), withEnd(2, 2, 2), withEnd(1, 2, 3), repeated(0, 257),
		withEnd(1, 1, 1), withEnd(1, 2, 2, 15), withEnd(15, 1, 1), repeated(1, 257), repeated(8, 257), repeated(9, 257),
		append([]int{1, 1}, make([]int, 255)...), append(repeated(8, 256), 0), append(repeated(8, 256), 0, 0), append(make([]int, 255), 1, 0, 1),
		append(repeated(8, 256), 1), append(repeated(9, 256), 2), append(repeated(9, 256), 1, 15), repeated(8, 286),
	}
	for _, lengths := range lists {
		for _, distances := range [][]int{{0}, {1}, {1, 1}, {0, 1, 0}, {15}, {1, 1, 1}, repeated(0, 30)} {
			checkMet(t, lastOwn+headOf(lengths, distances), room, api.ErrForm)
		}
	}
	// Complete ones with 256 are taken.
	for _, lengths := range [][]int{
		withEnd(1, 1), withEnd(1, 2, 2), withEnd(2, 2, 2, 2), append(repeated(9, 256), 1), append(repeated(8, 255), 9, 9), append(repeated(8, 255), 0, 8),
		withEnd(1, 2, 3, 4, 5, 6, 7, 8, 9, 10, 11, 12, 13, 14, 15, 15), withEnd(15, 15, 14, 13, 12, 11, 10, 9, 8, 7, 6, 5, 4, 3, 2, 1),
	} {
		own := codingOf(lengths, nil)
		checkOK(t, bytesOf(lastOwn+headOf(lengths, []int{0})+own.bytes("\x00")+own.end()), "\x00")
	}
}

func TestDistancesWhoseLengthsAreWrong(t *testing.T) {
	lengths := withEnd(1, 1)
	for _, distances := range [][]int{
		{2}, {15}, {3, 0}, {0, 2}, {1, 2}, {2, 1}, {2, 2}, {2, 2, 2}, {1, 1, 1}, {1, 2, 2, 15}, {1, 2, 3}, {0, 0, 2, 0}, repeated(15, 30), repeated(5, 30), repeated(1, 30),
		repeated(4, 17), repeated(4, 15), slices.Concat(repeated(0, 29), []int{2}), slices.Concat(repeated(0, 28), []int{1, 15}), slices.Concat([]int{15, 1}, repeated(0, 28)),
	} {
		checkMet(t, lastOwn+headOf(lengths, distances), room, api.ErrForm)
		// It is told behind all lengths, as is what is wrong with the symbols'.
		checkMet(t, lastOwn+headOf(withEnd(1, 1, 1), distances), room, api.ErrForm)
	}
	for _, distances := range [][]int{{1, 1}, {0, 1, 0, 1}, {1, 2, 2}, {2, 2, 2, 2}, repeated(4, 16), slices.Concat(repeated(0, 14), repeated(4, 16)), slices.Concat(repeated(5, 28), repeated(4, 2)), {15, 15, 14, 13, 12, 11, 10, 9, 8, 7, 6, 5, 4, 3, 2, 1}} {
		checkOK(t, bytesOf(lastOwn+headOf(lengths, distances)+"001"), "\x00\x00")
	}
}

func TestNoDistanceAtAll(t *testing.T) {
	lengths := append(withEnd(1, 2), 2)
	own := codingOf(lengths, nil)
	for many := 1; many <= 30; many++ {
		row := lastOwn + headOf(lengths, make([]int, many))
		checkOK(t, bytesOf(row+own.bytes("\x00\x00")+own.end()), "\x00\x00")
		// A length is met with no code behind it, of which no bit is read.
		checkMet(t, row+own.bytes("\x00")+own.symbols[257], room, api.ErrForm)
		checkMet(t, row+own.symbols[257], 0, api.ErrForm)
	}
	// The bits of the length are read ahead of that.
	lengths = slices.Concat(withEnd(1, 2), repeated(0, 27), []int{2})
	own = codingOf(lengths, nil)
	checkMet(t, lastOwn+headOf(lengths, []int{0})+own.bytes("\x00")+own.symbols[284]+"10101", room, api.ErrForm)
}

func TestOneDistanceAlone(t *testing.T) {
	lengths := append(withEnd(1, 2), 2)
	for at := range 30 {
		for many := at + 1; many <= 30; many += 7 {
			distances := make([]int, many)
			distances[at] = 1
			own := codingOf(lengths, distances)
			least, width := leastDistance(at)
			row := moreFixed + fixed.bytes("\x00") + strings.Repeat(fixed.piece(258, 1), least/258+1) + fixed.end() + lastOwn + headOf(lengths, distances) + own.symbols[257]
			checkOK(t, bytesOf(row+"0"+low(0, width)+own.end()), strings.Repeat("\x00", 1+258*(least/258+1)+3))
			// The other bit is no code.
			checkMet(t, row+"1", room, api.ErrForm)
			check(t, ended(row), room, "", 0, api.ErrShort)
		}
	}
}

// P10.4

func TestNoRoomBelowNought(t *testing.T) {
	for _, most := range []int{-1, -2, -1 << 31, math.MinInt32, -1<<32 + 5, math.MinInt, math.MinInt + 1} {
		for _, s := range []string{"", "\x01\x00\x00\xff\xff", "\x03\x00", "\x4b\x04\x00", "\x07", "\x01", "\xff\xff\xff\xff\xff", "\x00\x01\x00\xfe\xffa"} {
			check(t, s, most, "", 0, api.ErrArg)
		}
	}
}

func TestNothingAtAll(t *testing.T) {
	for _, most := range []int{0, 1, 100, math.MaxInt} {
		check(t, "", most, "", 0, api.ErrShort)
	}
}

func TestRoomForStoredBytes(t *testing.T) {
	for _, many := range []int{1, 2, 300, 65535} {
		text := strings.Repeat("r", many)
		s := bytesOf(storedRow(0, moreStored, "0", text))
		// Bytes that lack are told ahead of the room, and that ahead of what is behind.
		check(t, s[:len(s)-1], many-1, "", 0, api.ErrShort)
		check(t, s[:len(s)-1], 0, "", 0, api.ErrShort)
		check(t, s, many-1, "", 0, api.ErrBig)
		check(t, s, 0, "", 0, api.ErrBig)
		check(t, s, many, "", 0, api.ErrShort)
		check(t, s+"\x07", many-1, "", 0, api.ErrBig)
		check(t, s+"\x07", many, "", 0, api.ErrForm)
		check(t, s+s+"\x07", 2*many-1, "", 0, api.ErrBig)
		check(t, s+s+"\x07", 2*many, "", 0, api.ErrForm)
		check(t, s+"\x01\x00\x00\xff\xff", many, text, len(s)+5, api.OK)
	}
}

func TestRoomForBytes(t *testing.T) {
	// It is asked behind each byte, and no later.
	for _, text := range []string{"a", "abc", "\xff\xfe", strings.Repeat("b\xd0", 50)} {
		for many := 1; many <= len(text); many++ {
			checkMet(t, lastFixed+fixed.bytes(text[:many]), many-1, api.ErrBig)
			check(t, ended(lastFixed+fixed.bytes(text[:many])), many, "", 0, api.ErrShort)
			check(t, ended(lastFixed+fixed.bytes(text[:many])+high(0xc0+6, 8)), many, "", 0, api.ErrForm)
			check(t, ended(lastFixed+fixed.bytes(text[:many])+high(0xc0+6, 8)), many-1, "", 0, api.ErrBig)
		}
	}
	checkMet(t, lastOwn+headOf(withEnd(1, 1), []int{0})+"00000", 4, api.ErrBig)
}

func TestRoomForPieces(t *testing.T) {
	// It is asked behind each length and distance, and no later.
	for _, length := range []int{3, 4, 10, 11, 12, 66, 257, 258} {
		for _, most := range []int{5, 6, 5 + length - 2, 5 + length - 1} {
			checkMet(t, lastFixed+fixed.bytes("abcde")+fixed.piece(length, 5), most, api.ErrBig)
			checkMet(t, lastFixed+fixed.bytes("abcde")+fixed.piece(length, 2), most, api.ErrBig)
			checkMet(t, moreFixed+fixed.bytes("abcde")+fixed.end()+lastFixed+fixed.piece(length, 4), most, api.ErrBig)
		}
		check(t, ended(lastFixed+fixed.bytes("abcde")+fixed.piece(length, 5)), 5+length, "", 0, api.ErrShort)
		checkMet(t, lastFixed+fixed.bytes("abcde")+fixed.piece(length, 5)+high(0xc0+6, 8), 5+length, api.ErrForm)
		// Bits that lack, and what is no symbol, are told ahead of it.
		symbol, more, width := lengthSymbol(length)
		ahead := lastFixed + fixed.bytes("abcde") + fixed.symbols[symbol] + low(more, width)
		check(t, ended(ahead), 5, "", 0, api.ErrShort)
		check(t, ended(ahead+high(30, 5)), 5, "", 0, api.ErrForm)
		check(t, ended(ahead+high(4, 5)), 5, "", 0, api.ErrShort)
		check(t, ended(ahead+high(4, 5)+"0"), 5, "", 0, api.ErrBig)
		check(t, ended(ahead+high(4, 5)+"1"), 5, "", 0, api.ErrRange)
	}
}

func TestTheFirstThatIsMet(t *testing.T) {
	wrong := map[string]api.Errno{
		lastFixed + high(0xc0+6, 8):     api.ErrForm,
		lastFixed + fixed.piece(3, 100): api.ErrRange,
		lastFixed + fixed.bytes("abc"):  api.ErrBig,
		lastWrong:                       api.ErrForm,
		lastOwn + counts(288, 1, 4):     api.ErrForm,
	}
	for first, code := range wrong {
		for second := range wrong {
			check(t, bytesOf(first+second+strings.Repeat("0", 100)), 2, "", 0, code)
			check(t, bytesOf(moreFixed+fixed.bytes("ab")+fixed.end()+first+second), 2, "", 0, code)
		}
	}
}

func TestHowManyBytesAreRead(t *testing.T) {
	// A begun one is among them, and one that is not begun is not.
	for many := range 40 {
		text := strings.Repeat("\xc8", many)
		row := lastFixed + fixed.bytes(text) + fixed.end()
		s := bytesOf(row)
		if len(s) != (10+9*many+7)/8 {
			t.Fatalf("%d bits are %d bytes", len(row), len(s))
		}
		checkOK(t, s, text)
		for _, behind := range []string{"\x00", "\xff", "\x03\x00", s, s + s, strings.Repeat("z", 1000)} {
			check(t, s+behind, many, text, len(s), api.OK)
		}
	}
}

func TestAllTextsOfTwoBytes(t *testing.T) {
	for n := range 256 {
		checkAgain(t, string([]byte{byte(n)}), room)
		for m := range 256 {
			for _, most := range []int{0, 1, room} {
				checkAgain(t, string([]byte{byte(n), byte(m)}), most)
			}
		}
	}
}

func TestAnyBytes(t *testing.T) {
	random := rand.New(rand.NewPCG(10, 6))
	for range 60000 {
		s := some(random, random.IntN(60))
		if random.IntN(2) == 0 {
			// Most begin with fixed codes, which any bits may be.
			s = string([]byte{byte(random.IntN(256))&^7 | 3}) + s
		}
		checkAgain(t, s, random.IntN(100))
	}
}

// someComplete tells lengths that are complete, of so many codes, and so long at most.
func someComplete(random *rand.Rand, many, longest int) []int {
	lengths := []int{0}
	for len(lengths) < many {
		at := random.IntN(len(lengths))
		if lengths[at] == longest {
			continue
		}
		lengths[at]++
		lengths = append(lengths, lengths[at])
	}
	return lengths
}

// spread gives any of the symbols up to one a complete list's lengths, and those that must have one.
func spread(random *rand.Rand, symbols, many int, must ...int) []int {
	lengths := make([]int, symbols)
	chosen := slices.Clone(must)
	for _, symbol := range random.Perm(symbols) {
		if len(chosen) < many && !slices.Contains(must, symbol) {
			chosen = append(chosen, symbol)
		}
	}
	for i, length := range someComplete(random, many, 15) {
		lengths[chosen[i]] = length
	}
	return lengths
}

// someDistances tells lengths of distances as they may be.
func someDistances(random *rand.Rand) []int {
	lengths := make([]int, 1+random.IntN(30))
	switch kind := random.IntN(4); {
	case kind == 0:
	case kind == 1 || len(lengths) == 1:
		lengths[random.IntN(len(lengths))] = 1
	default:
		return spread(random, len(lengths), 2+random.IntN(len(lengths)-1))
	}
	return lengths
}

// shortly tells lengths by signs of any kind.
func shortly(random *rand.Rand, lengths []int) []sign {
	var signs []sign
	for at := 0; at < len(lengths); {
		alike := 1
		for at+alike < len(lengths) && lengths[at+alike] == lengths[at] {
			alike++
		}
		kind := random.IntN(4)
		switch {
		case kind == 0 && alike >= 11 && lengths[at] == 0:
			times := min(11+random.IntN(128), alike)
			signs = append(signs, sign{18, times - 11})
			at += times
		case kind == 1 && alike >= 3 && lengths[at] == 0:
			times := min(3+random.IntN(8), alike)
			signs = append(signs, sign{17, times - 3})
			at += times
		case kind == 2 && alike >= 3 && at > 0 && lengths[at-1] == lengths[at]:
			times := min(3+random.IntN(4), alike)
			signs = append(signs, sign{16, times - 3})
			at += times
		default:
			signs = append(signs, sign{lengths[at], 0})
			at++
		}
	}
	return signs
}

// someHead tells what stands ahead of a block's symbols, with any codes of signs.
func someHead(random *rand.Rand, symbols, distances []int) string {
	signs := shortly(random, slices.Concat(symbols, distances))
	lengths, used := make([]int, 19), make([]bool, 19)
	many := 0
	for _, s := range signs {
		if !used[s.n] {
			used[s.n] = true
			many++
		}
	}
	for n := 0; many < 2; n++ {
		if !used[n] {
			used[n] = true
			many++
		}
	}
	given := someComplete(random, many, 7)
	for n := range lengths {
		if used[n] {
			lengths[n], given = given[0], given[1:]
		}
	}
	told := 19
	for told > 4 && lengths[order[told-1]] == 0 && random.IntN(4) > 0 {
		told--
	}
	return counts(len(symbols), len(distances), told) + lengthsOfSigns(lengths, told) + signRow(lengths, signs...)
}

// known tells the symbols from one on, up to another, that have codes.
func known(codes []string, from, to int) []int {
	var found []int
	for symbol := from; symbol < min(to, len(codes)); symbol++ {
		if codes[symbol] != "" {
			found = append(found, symbol)
		}
	}
	return found
}

// someSymbols tells any bytes and pieces by codes, behind what was told ahead of them.
func someSymbols(random *rand.Rand, c coding, text []byte, many int) (string, []byte) {
	var row strings.Builder
	letters, lengths, distances := known(c.symbols, 0, 256), known(c.symbols, 257, 286), known(c.distances, 0, 30)
	for range many {
		if len(letters) > 0 && random.IntN(3) > 0 {
			letter := letters[random.IntN(len(letters))]
			row.WriteString(c.symbols[letter])
			text = append(text, byte(letter))
			continue
		}
		if len(lengths) == 0 || len(distances) == 0 {
			continue
		}
		symbol := lengths[random.IntN(len(lengths))]
		least, width := leastLength(symbol)
		more := random.IntN(1 << width)
		far := distances[random.IntN(len(distances))]
		leastFar, widthFar := leastDistance(far)
		if leastFar > len(text) {
			continue
		}
		moreFar := random.IntN(min(1<<widthFar, len(text)-leastFar+1))
		row.WriteString(c.symbols[symbol] + low(more, width) + c.distances[far] + low(moreFar, widthFar))
		for range least + more {
			text = append(text, text[len(text)-leastFar-moreFar])
		}
	}
	return row.String() + c.end(), text
}

// someBlocks tells any blocks, and what they tell.
func someBlocks(random *rand.Rand, most int) (string, string) {
	row, text := "", []byte(nil)
	for left := random.IntN(5); left >= 0; left-- {
		first := low(min(1, left)^1, 1)
		var told string
		switch many := random.IntN(most); random.IntN(4) {
		case 0:
			s := some(random, many)
			row += storedRow(len(row), first+"00", low(random.IntN(2), 1), s)
			text = append(text, s...)
		case 1:
			told, text = someSymbols(random, fixed, text, many)
			row += first + "10" + told
		default:
			count := 257 + random.IntN(30)
			symbols := spread(random, count, 2+random.IntN(count-1), 256)
			distances := someDistances(random)
			told, text = someSymbols(random, codingOf(symbols, distances), text, many)
			row += first + "01" + someHead(random, symbols, distances) + told
		}
	}
	return bytesOf(row), string(text)
}

// byLibrary tells deflated bytes by Go's library.
func byLibrary(t *testing.T, s string) string {
	t.Helper()
	got, err := io.ReadAll(flate.NewReader(strings.NewReader(s)))
	if err != nil {
		t.Fatalf("the library refuses %.80q: %v", s, err)
	}
	return string(got)
}

func TestAnyBlocks(t *testing.T) {
	random := rand.New(rand.NewPCG(10, 7))
	for range 1500 {
		s, text := someBlocks(random, 60)
		if again := byLibrary(t, s); again != text {
			t.Fatalf("the library tells %.60q, want %.60q", again, text)
		}
		checkAgain(t, s, room)
		checkOK(t, s, text)
		checkAgain(t, s, random.IntN(len(text)+1))
	}
}

func TestAnyBlocksTurned(t *testing.T) {
	random := rand.New(rand.NewPCG(10, 8))
	seen := map[api.Errno]int{}
	for range 1500 {
		s, _ := someBlocks(random, 20)
		for range 8 {
			turned := []byte(s)
			for range 1 + random.IntN(2) {
				turned[random.IntN(len(turned))] ^= 1 << random.IntN(8)
			}
			seen[checkAgain(t, string(turned), random.IntN(4000))]++
		}
	}
	for _, code := range []api.Errno{api.OK, api.ErrShort, api.ErrForm, api.ErrRange, api.ErrBig} {
		if seen[code] < 100 {
			t.Errorf("%d was told %d times alone", code, seen[code])
		}
	}
}

func TestAnyHeads(t *testing.T) {
	// Lengths that are nearly as they may be.
	random := rand.New(rand.NewPCG(10, 9))
	seen := map[api.Errno]int{}
	for range 4000 {
		count := 257 + random.IntN(30)
		symbols := spread(random, count, 2+random.IntN(count-1), 256)
		distances := someDistances(random)
		for range random.IntN(3) {
			symbols[random.IntN(count)] = random.IntN(16)
		}
		if random.IntN(3) == 0 {
			distances[random.IntN(len(distances))] = random.IntN(16)
		}
		s := bytesOf(lastOwn+someHead(random, symbols, distances)) + some(random, 30)
		if random.IntN(3) == 0 {
			s = s[:random.IntN(len(s))]
		}
		seen[checkAgain(t, s, random.IntN(1000))]++
	}
	for _, code := range []api.Errno{api.ErrShort, api.ErrForm} {
		if seen[code] < 100 {
			t.Errorf("%d was told %d times alone", code, seen[code])
		}
	}
}

func TestCallsKnowNothingOfOneAnother(t *testing.T) {
	random := rand.New(rand.NewPCG(10, 10))
	var all, texts []string
	for range 20 {
		s, text := someBlocks(random, 100)
		all, texts = append(all, s), append(texts, text)
	}
	for range 200 {
		at := random.IntN(len(all))
		check(t, all[at], room, texts[at], len(all[at]), api.OK)
		inflate.Inflate(all[at][:random.IntN(len(all[at]))], room)
		inflate.Inflate("\x07", room)
	}
}

// P10.5

func TestCutOffAnywhere(t *testing.T) {
	random := rand.New(rand.NewPCG(10, 11))
	for range 60 {
		s, text := someBlocks(random, 40)
		for cut := range len(s) {
			check(t, s[:cut], room, "", 0, api.ErrShort)
			check(t, s[:cut], len(text), "", 0, api.ErrShort)
		}
		for range 20 {
			check(t, s+some(random, random.IntN(50)), len(text), text, len(s), api.OK)
		}
		check(t, s+s, len(text), text, len(s), api.OK)
	}
}

func TestCutOffAtAnyBit(t *testing.T) {
	checkCuts(t, lastFixed+fixed.bytes("ab\xc0\xc1")+fixed.piece(3, 1)+fixed.piece(30, 4)+fixed.piece(258, 33)+fixed.piece(257, 200)+fixed.end())
	symbols := slices.Concat(withEnd(1, 2, 3), repeated(0, 20), []int{3})
	distances := []int{2, 0, 2, 0, 0, 0, 2, 2}
	own := codingOf(symbols, distances)
	checkCuts(t, lastOwn+head(len(symbols), len(distances), shortly(rand.New(rand.NewPCG(10, 12)), slices.Concat(symbols, distances))...)+
		own.bytes("\x00\x01\x00\x01")+own.symbols[277]+"1010"+own.distances[2]+own.bytes("\x00")+own.symbols[277]+"0000"+own.distances[7]+"01101"[:2]+own.end())
}

// Much

func TestByTheLibrary(t *testing.T) {
	random := rand.New(rand.NewPCG(10, 13))
	texts := []string{
		"", "a", "ab", strings.Repeat("a", 70000), strings.Repeat("abcdefg ", 40000), some(random, 200000), strings.Repeat(some(random, 300), 700),
		strings.Repeat("\x00", 1<<20), strings.Repeat(some(random, 40000), 3), strings.Repeat("0 0 obj\n<< /Length 12 >>\n", 3000),
	}
	var words strings.Builder
	for range 60000 {
		words.WriteString([]string{"obj ", "endobj ", "stream ", "0 R ", "<< ", ">> ", "/Name ", "\n"}[random.IntN(8)])
	}
	texts = append(texts, words.String())
	for _, text := range texts {
		for level := flate.HuffmanOnly; level <= flate.BestCompression; level++ {
			var b bytes.Buffer
			w, err := flate.NewWriter(&b, level)
			if err != nil {
				t.Fatal(err)
			}
			io.WriteString(w, text)
			if level%3 == 0 {
				w.Flush()
				w.Flush()
			}
			w.Close()
			s := b.String()
			check(t, s, len(text), text, len(s), api.OK)
			check(t, s+"behind", room, text, len(s), api.OK)
			check(t, s[:len(s)-1], room, "", 0, api.ErrShort)
			check(t, s[:len(s)/2], room, "", 0, api.ErrShort)
			if text != "" {
				check(t, s, len(text)-1, "", 0, api.ErrBig)
			}
		}
	}
}

func TestVeryManyBlocks(t *testing.T) {
	many := 200000
	s := bytesOf(strings.Repeat(moreFixed+fixed.end(), many) + lastFixed + fixed.end())
	check(t, s, 0, "", len(s), api.OK)
	s = bytesOf(strings.Repeat(moreFixed+fixed.bytes("k")+fixed.end(), many) + lastFixed + fixed.end())
	check(t, s, many, strings.Repeat("k", many), len(s), api.OK)
	s = strings.Repeat("\x00\x00\x00\xff\xff", many) + "\x03\x00"
	check(t, s, 0, "", len(s), api.OK)
	many = 20000
	s = bytesOf(strings.Repeat(emptyOwn, many) + lastFixed + fixed.end())
	check(t, s, 0, "", len(s), api.OK)
}

func TestVeryManyBytes(t *testing.T) {
	// Much out of little, of which no more is told than there is room for.
	pieces := 80000
	s := bytesOf(lastFixed + fixed.bytes("q") + strings.Repeat(fixed.piece(258, 1), pieces) + fixed.end())
	check(t, s, room, strings.Repeat("q", 1+258*pieces), len(s), api.OK)
	check(t, s, 1+258*pieces-1, "", 0, api.ErrBig)
	check(t, s, 1000, "", 0, api.ErrBig)
}

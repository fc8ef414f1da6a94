package bitrow_test

import (
	"math"
	"math/rand/v2"
	"strings"
	"testing"
	"unsafe"

	"bindery/api"
	"bindery/bitrow"
)

// noWidths are numbers that are no widths: those just beyond, and such as would be some, were their high bits or their signs lost.
var noWidths = []int{
	-1, -2, -7, -8, -15, -16, -17, -64, -256, -1 << 32, -1<<32 + 8, math.MinInt, math.MinInt + 1, math.MinInt + 8, math.MinInt32,
	17, 18, 24, 31, 32, 33, 63, 64, 65, 128, 255, 256, 264, 1 << 16, 1 << 32, 1<<32 + 8, math.MaxInt32, math.MaxInt - 7, math.MaxInt,
}

// row is a second telling of a row of bits: one of them a place, 0 or 1.
type row []byte

// put puts the bits of a number behind, the lowest ahead.
func (l row) put(n, width int) row {
	for range width {
		l = append(l, byte(n%2))
		n /= 2
	}
	return l
}

// align puts bits 0 behind, as many as make whole bytes.
func (l row) align() row {
	for len(l)%8 != 0 {
		l = append(l, 0)
	}
	return l
}

// text tells the bytes.
func (l row) text() string {
	s := make([]byte, (len(l)+7)/8)
	for i, bit := range l {
		s[i/8] += bit * [8]byte{1, 2, 4, 8, 16, 32, 64, 128}[i%8]
	}
	return string(s)
}

// number tells the number of all bits, the lowest ahead.
func (l row) number() int {
	n := 0
	for i := len(l) - 1; i >= 0; i-- {
		n = 2*n + int(l[i])
	}
	return n
}

// rowOf is the row of bits that stands in bytes.
func rowOf(s string) row {
	var l row
	for i := range len(s) {
		l = l.put(int(s[i]), 8)
	}
	return l
}

// putAgain tells again what Put answers, and the row behind it.
func putAgain(l row, n, width int) (row, api.Errno) {
	if width < 0 || width > 16 {
		return l, api.ErrArg
	}
	if n < 0 || n > 1<<width-1 {
		return l, api.ErrRange
	}
	return l.put(n, width), api.OK
}

// spot is a second telling of a reader: all its bits, and how many were read.
type spot struct {
	row row
	at  int
}

// get tells again what Get answers.
func (p *spot) get(width int) (int, api.Errno) {
	if width < 0 || width > 16 {
		return 0, api.ErrArg
	}
	if p.at+width > len(p.row) {
		return 0, api.ErrShort
	}
	n := p.row[p.at : p.at+width].number()
	p.at += width
	return n, api.OK
}

// align tells again what Align reads.
func (p *spot) align() {
	for p.at%8 != 0 {
		p.at++
	}
}

// bytes tells again what Bytes answers.
func (p *spot) bytes(n int) (string, api.Errno) {
	if n < 0 {
		return "", api.ErrArg
	}
	behind := *p
	behind.align()
	if n > (len(p.row)-behind.at)/8 {
		return "", api.ErrShort
	}
	p.at = behind.at + 8*n
	return p.row[behind.at:p.at].text(), api.OK
}

func checkWriter(t *testing.T, w *bitrow.Writer, want row) {
	t.Helper()
	if got := w.Len(); got != len(want) {
		t.Errorf("Len = %d, want %d", got, len(want))
	}
	if got, text := w.Text(), want.text(); got != text {
		t.Errorf("Text = %.60q of %d bytes, want %.60q of %d bytes", got, len(got), text, len(text))
	}
}

func checkPut(t *testing.T, w *bitrow.Writer, n, width int, want api.Errno) {
	t.Helper()
	if got := w.Put(n, width); got != want {
		t.Errorf("Put(%d, %d) = %d, want %d", n, width, got, want)
	}
}

func checkGet(t *testing.T, r *bitrow.Reader, width, want int, code api.Errno) {
	t.Helper()
	if got, gotCode := r.Get(width); got != want || gotCode != code {
		t.Errorf("Get(%d) = %d, %d, want %d, %d", width, got, gotCode, want, code)
	}
}

func checkBytes(t *testing.T, r *bitrow.Reader, n int, want string, code api.Errno) {
	t.Helper()
	if got, gotCode := r.Bytes(n); got != want || gotCode != code {
		t.Errorf("Bytes(%d) = %.60q, %d, want %.60q, %d", n, got, gotCode, want, code)
	}
}

func checkAt(t *testing.T, r *bitrow.Reader, want int) {
	t.Helper()
	if got := r.At(); got != want {
		t.Errorf("At = %d, want %d", got, want)
	}
}

// some tells a text of any bytes.
func some(r *rand.Rand, length int) string {
	s := make([]byte, length)
	for i := range s {
		s[i] = byte(r.IntN(256))
	}
	return string(s)
}

// readerAt is a reader of bytes of which so many bits were read, one by one, and the same told again.
func readerAt(s string, at int) (*bitrow.Reader, *spot) {
	r := bitrow.New(s)
	for range at {
		r.Get(1)
	}
	return r, &spot{row: rowOf(s), at: at}
}

// P8.1

func TestToAWriterNothingWasPut(t *testing.T) {
	var w bitrow.Writer
	checkWriter(t, &w, nil)
	checkWriter(t, new(bitrow.Writer), nil)
	checkWriter(t, &bitrow.Writer{}, nil)
	var several [3]bitrow.Writer
	several[1].Put(1, 1)
	checkWriter(t, &several[0], nil)
	checkWriter(t, &several[1], row{1})
	checkWriter(t, &several[2], nil)
}

func TestPut(t *testing.T) {
	var w bitrow.Writer
	checkPut(t, &w, 5, 3, api.OK)
	checkPut(t, &w, 1, 1, api.OK)
	checkPut(t, &w, 255, 8, api.OK)
	if got := w.Text(); got != "\xfd\x0f" {
		t.Errorf("Text = %q, want 253 and 15", got)
	}
	if got := w.Len(); got != 12 {
		t.Errorf("Len = %d, want 12", got)
	}
}

func TestPutBitByBit(t *testing.T) {
	// The first bit is the lowest of the first byte, the ninth the lowest of the second.
	for place := range 24 {
		var w bitrow.Writer
		for i := range 24 {
			bit := 0
			if i == place {
				bit = 1
			}
			checkPut(t, &w, bit, 1, api.OK)
		}
		want := []byte{0, 0, 0}
		want[place/8] = 1 << (place % 8)
		if got := w.Text(); got != string(want) {
			t.Errorf("Text with the bit %d on = %q, want %q", place, got, want)
		}
	}
}

func TestPutOfEachNumberInEachWidth(t *testing.T) {
	// Behind each number of bits that make no whole byte, all of them on, or off.
	for ahead := range 8 {
		for width := range 17 {
			for n := range 1 << width {
				first := (n % 2) * (1<<ahead - 1)
				var w bitrow.Writer
				checkPut(t, &w, first, ahead, api.OK)
				checkPut(t, &w, n, width, api.OK)
				all := n<<ahead + first
				want := string([]byte{byte(all), byte(all >> 8), byte(all >> 16)}[:(ahead+width+7)/8])
				if got := w.Text(); got != want || w.Len() != ahead+width {
					t.Errorf("behind %d bits, Put(%d, %d): %q of %d bits, want %q of %d", ahead, n, width, got, w.Len(), want, ahead+width)
				}
			}
		}
	}
}

func TestPutOfNoBits(t *testing.T) {
	var w bitrow.Writer
	var l row
	for range 20 {
		checkPut(t, &w, 0, 0, api.OK)
		checkWriter(t, &w, l)
		checkPut(t, &w, 1, 0, api.ErrRange)
		checkPut(t, &w, -1, 0, api.ErrRange)
		checkWriter(t, &w, l)
		checkPut(t, &w, 1, 1, api.OK)
		l = l.put(1, 1)
	}
}

func TestPutOfWidthsThatAreNone(t *testing.T) {
	for ahead := range 17 {
		var w bitrow.Writer
		w.Put(1<<ahead-1, ahead)
		l := row(nil).put(1<<ahead-1, ahead)
		for _, width := range noWidths {
			// A width that is none is told ahead of a number that does not fit.
			for _, n := range []int{0, 1, 2, 65535, 65536, -1, math.MinInt, math.MaxInt} {
				checkPut(t, &w, n, width, api.ErrArg)
			}
		}
		checkWriter(t, &w, l)
		checkPut(t, &w, 2, 3, api.OK)
		checkWriter(t, &w, l.put(2, 3))
	}
}

func TestPutOfNumbersThatDoNotFit(t *testing.T) {
	for ahead := range 17 {
		for width := range 17 {
			var w bitrow.Writer
			w.Put(0, ahead)
			l := row(nil).put(0, ahead)
			most := 1<<width - 1
			for _, n := range []int{-1, -2, -most - 1, -most - 2, -1 << 32, math.MinInt, math.MinInt + 1, math.MinInt + most,
				most + 1, most + 2, 2 * (most + 1), 1 << 16, 1<<16 + 1, 1 << 17, 1 << 32, 1<<32 + most, 1 << 62, math.MaxInt32, math.MaxInt} {
				checkPut(t, &w, n, width, api.ErrRange)
			}
			checkWriter(t, &w, l)
			checkPut(t, &w, most, width, api.OK)
			checkPut(t, &w, 0, 16, api.OK)
			checkWriter(t, &w, l.put(most, width).put(0, 16))
		}
	}
}

func TestWriterAlign(t *testing.T) {
	for count := range 40 {
		var w bitrow.Writer
		var l row
		for range count {
			w.Put(1, 1)
			l = l.put(1, 1)
		}
		checkWriter(t, &w, l)
		w.Align()
		l = l.align()
		checkWriter(t, &w, l)
		// Whole bytes stay as they are.
		w.Align()
		checkWriter(t, &w, l)
		w.Put(5, 3)
		l = l.put(5, 3)
		checkWriter(t, &w, l)
		w.Align()
		checkWriter(t, &w, l.align())
	}
}

func TestAlignOfNothing(t *testing.T) {
	var w bitrow.Writer
	w.Align()
	checkWriter(t, &w, nil)
	w.Put(0, 0)
	w.Align()
	checkWriter(t, &w, nil)
}

func TestTextChangesNothing(t *testing.T) {
	var w bitrow.Writer
	var l row
	var told, want []string
	for i := range 100 {
		// Text is asked for at each bit, so that one of a byte that is begun comes ahead of the rest of it.
		w.Put(i%3%2, 1)
		l = l.put(i%3%2, 1)
		told = append(told, w.Text(), w.Text())
		want = append(want, l.text(), l.text())
		checkWriter(t, &w, l)
	}
	for i := range told {
		if told[i] != want[i] {
			t.Errorf("Text %d is %q now, want %q", i, told[i], want[i])
		}
	}
}

func TestBitsThatLackAreNone(t *testing.T) {
	for width := range 17 {
		var w bitrow.Writer
		w.Put(1<<width-1, width)
		text := w.Text()
		if len(text) != (width+7)/8 {
			t.Errorf("Text of %d bits has %d bytes", width, len(text))
		}
		for at := width; at < 8*len(text); at++ {
			if text[at/8]>>(at%8)&1 != 0 {
				t.Errorf("Text of %d bits has the bit %d on", width, at)
			}
		}
	}
}

// turn does a step of any kind to a writer, and to the same told again.
func turn(t *testing.T, random *rand.Rand, w *bitrow.Writer, l row) row {
	t.Helper()
	width := random.IntN(17)
	n := random.IntN(1 << width)
	switch random.IntN(12) {
	case 0:
		w.Align()
		return l.align()
	case 1:
		width = random.IntN(40) - 12
	case 2:
		n = random.IntN(1<<17) - 1<<10
	}
	l, code := putAgain(l, n, width)
	checkPut(t, w, n, width, code)
	return l
}

func TestWritersOfAnySteps(t *testing.T) {
	random := rand.New(rand.NewPCG(8, 1))
	for range 3000 {
		// Two at once, which know nothing of one another.
		var a, b bitrow.Writer
		var l, m row
		for range random.IntN(30) {
			l = turn(t, random, &a, l)
			m = turn(t, random, &b, m)
			checkWriter(t, &a, l)
			checkWriter(t, &b, m)
		}
	}
}

func TestALongRow(t *testing.T) {
	random := rand.New(rand.NewPCG(8, 2))
	var w bitrow.Writer
	var l row
	for len(l) < 8*4*api.MaxData {
		width := random.IntN(17)
		n := random.IntN(1 << width)
		l = l.put(n, width)
		checkPut(t, &w, n, width, api.OK)
	}
	checkWriter(t, &w, l)
}

// P8.2

func TestNewOfBytes(t *testing.T) {
	for _, s := range []string{"", "a", "\x00", "\xff\xff", strings.Repeat("ab", 1000)} {
		r := bitrow.New(s)
		if r == nil {
			t.Fatalf("New(%.60q) is nil", s)
		}
		checkAt(t, r, 0)
		checkBytes(t, r, len(s), s, api.OK)
		checkAt(t, r, 8*len(s))
		checkBytes(t, r, 1, "", api.ErrShort)
	}
}

func TestGet(t *testing.T) {
	r := bitrow.New("\xfd\x0f")
	checkGet(t, r, 3, 5, api.OK)
	checkGet(t, r, 1, 1, api.OK)
	checkGet(t, r, 8, 255, api.OK)
	checkAt(t, r, 12)
	checkGet(t, r, 4, 0, api.OK)
	checkAt(t, r, 16)
	checkGet(t, r, 1, 0, api.ErrShort)
	checkGet(t, r, 0, 0, api.OK)
	checkAt(t, r, 16)
}

func TestGetBitByBit(t *testing.T) {
	for place := range 24 {
		s := []byte{0, 0, 0}
		s[place/8] = 1 << (place % 8)
		r := bitrow.New(string(s))
		for i := range 24 {
			want := 0
			if i == place {
				want = 1
			}
			checkGet(t, r, 1, want, api.OK)
			checkAt(t, r, i+1)
		}
		checkGet(t, r, 1, 0, api.ErrShort)
	}
}

func TestGetOfEachNumberInEachWidth(t *testing.T) {
	for ahead := range 8 {
		for width := range 17 {
			for n := range 1 << width {
				// What stands around the number is on where its lowest bit is off, and off where that is on.
				around := 0xffffffff * (1 - n%2)
				mask := (1<<width - 1) << ahead
				all := around&^mask | n<<ahead
				r := bitrow.New(string([]byte{byte(all), byte(all >> 8), byte(all >> 16)}))
				checkGet(t, r, ahead, around&(1<<ahead-1), api.OK)
				checkGet(t, r, width, n, api.OK)
				checkAt(t, r, ahead+width)
			}
		}
	}
}

func TestGetOfWidthsThatAreNone(t *testing.T) {
	s := "\xa5\x5a\xf0"
	for at := range 8*len(s) + 1 {
		r, again := readerAt(s, at)
		for _, width := range noWidths {
			// Also where no bit is left.
			checkGet(t, r, width, 0, api.ErrArg)
		}
		checkAt(t, r, at)
		for range 8*len(s) - at {
			want, code := again.get(1)
			checkGet(t, r, 1, want, code)
		}
	}
}

func TestGetOfMoreThanIsLeft(t *testing.T) {
	for _, s := range []string{"", "\xff", "\xff\xff", "\x3c\xa5\xff", "\x01\x80\xff\x00"} {
		for at := range 8*len(s) + 1 {
			for width := range 17 {
				r, again := readerAt(s, at)
				want, code := again.get(width)
				if short := at+width > 8*len(s); short != (code == api.ErrShort) {
					t.Fatalf("Get(%d) at %d of %d bytes is told again as %d", width, at, len(s), code)
				}
				checkGet(t, r, width, want, code)
				checkAt(t, r, again.at)
				if code != api.OK {
					checkGet(t, r, width, 0, api.ErrShort)
					checkAt(t, r, at)
				}
				// What was not read is still there, bit by bit.
				for again.at < 8*len(s) {
					want, code := again.get(1)
					checkGet(t, r, 1, want, code)
				}
				checkAt(t, r, 8*len(s))
				checkGet(t, r, 1, 0, api.ErrShort)
			}
		}
	}
}

func TestReaderAlign(t *testing.T) {
	s := "\xa5\x5a\xf0\x0f\x99"
	for at := range 8*len(s) + 1 {
		r, again := readerAt(s, at)
		for range 2 {
			r.Align()
			again.align()
			checkAt(t, r, (at+7)/8*8)
		}
		for again.at < 8*len(s) {
			want, code := again.get(4)
			checkGet(t, r, 4, want, code)
		}
		checkAt(t, r, 8*len(s))
		r.Align()
		checkAt(t, r, 8*len(s))
		checkGet(t, r, 1, 0, api.ErrShort)
	}
}

func TestReaderAlignOfNothing(t *testing.T) {
	r := bitrow.New("")
	r.Align()
	checkAt(t, r, 0)
	r = bitrow.New("a")
	r.Align()
	checkAt(t, r, 0)
	r.Get(0)
	r.Align()
	checkAt(t, r, 0)
	checkGet(t, r, 8, 'a', api.OK)
}

func TestBytes(t *testing.T) {
	r := bitrow.New("\x05abc\xff")
	checkGet(t, r, 3, 5, api.OK)
	checkBytes(t, r, 3, "abc", api.OK)
	checkAt(t, r, 32)
	checkGet(t, r, 8, 255, api.OK)
	checkBytes(t, r, 0, "", api.OK)
	checkBytes(t, r, 1, "", api.ErrShort)
	checkAt(t, r, 40)
}

func TestBytesOfNone(t *testing.T) {
	// None, too, come behind Align.
	for at := range 17 {
		r, _ := readerAt("\x0f\xf0", at)
		checkBytes(t, r, 0, "", api.OK)
		checkAt(t, r, (at+7)/8*8)
	}
	r := bitrow.New("")
	checkBytes(t, r, 0, "", api.OK)
	checkAt(t, r, 0)
}

func TestBytesAtEachPlace(t *testing.T) {
	for _, s := range []string{"", "\xff", "ab", "\x80\x01\xfe", "\x12\x34\x56\x78\x9a"} {
		for at := range 8*len(s) + 1 {
			for n := range len(s) + 3 {
				r, again := readerAt(s, at)
				want, code := again.bytes(n)
				if begun := (at + 7) / 8; (begun+n > len(s)) != (code == api.ErrShort) {
					t.Fatalf("Bytes(%d) at %d of %d bytes is told again as %d", n, at, len(s), code)
				}
				checkBytes(t, r, n, want, code)
				checkAt(t, r, again.at)
				for again.at < 8*len(s) {
					want, code := again.get(1)
					checkGet(t, r, 1, want, code)
				}
				checkAt(t, r, 8*len(s))
			}
		}
	}
}

func TestBytesThatAreRefused(t *testing.T) {
	s := "\xa5\x5a\xf0"
	below := []int{-1, -2, -3, -8, -24, -1 << 32, -1<<32 + 1, math.MinInt32, math.MinInt, math.MinInt + 1, math.MinInt + 3}
	above := []int{4, 5, 8, 24, 1 << 16, 1 << 32, 1<<32 + 1, 1 << 60, 1<<61 + 1, 1 << 62, math.MaxInt32, math.MaxInt, math.MaxInt - 1, math.MaxInt - 3, math.MaxInt/8 + 1}
	for at := range 8*len(s) + 1 {
		r, again := readerAt(s, at)
		for _, n := range below {
			checkBytes(t, r, n, "", api.ErrArg)
			checkAt(t, r, at)
		}
		for _, n := range above {
			checkBytes(t, r, n, "", api.ErrShort)
			checkAt(t, r, at)
		}
		// It is not read up to a whole byte, either.
		for again.at < 8*len(s) {
			want, code := again.get(1)
			checkGet(t, r, 1, want, code)
		}
	}
}

func TestBytesAreNewMemory(t *testing.T) {
	s := strings.Repeat("abc", 100)
	r := bitrow.New(s)
	all, _ := r.Bytes(len(s))
	if all != s || unsafe.StringData(all) == unsafe.StringData(s) {
		t.Errorf("Bytes = %.60q, want it to be no piece of the text", all)
	}
}

// look does a step of any kind to a reader, and to the same told again.
func look(t *testing.T, random *rand.Rand, r *bitrow.Reader, again *spot) {
	t.Helper()
	switch random.IntN(8) {
	case 0:
		r.Align()
		again.align()
	case 1:
		n := random.IntN(8) - 1
		want, code := again.bytes(n)
		checkBytes(t, r, n, want, code)
	case 2:
		width := random.IntN(40) - 12
		want, code := again.get(width)
		checkGet(t, r, width, want, code)
	default:
		width := random.IntN(17)
		want, code := again.get(width)
		checkGet(t, r, width, want, code)
	}
	checkAt(t, r, again.at)
}

func TestReadersOfAnySteps(t *testing.T) {
	random := rand.New(rand.NewPCG(8, 3))
	for range 10000 {
		// Two of the same bytes at once, which know nothing of one another.
		s := some(random, random.IntN(24))
		a, b := bitrow.New(s), bitrow.New(s)
		first, second := &spot{row: rowOf(s)}, &spot{row: rowOf(s)}
		for range random.IntN(40) {
			look(t, random, a, first)
			look(t, random, b, second)
		}
	}
}

func TestReadersOfAllShortSteps(t *testing.T) {
	steps := []func(t *testing.T, r *bitrow.Reader, p *spot){
		func(t *testing.T, r *bitrow.Reader, p *spot) { r.Align(); p.align() },
	}
	for _, width := range []int{0, 1, 3, 7, 8, 9, 16, 17} {
		steps = append(steps, func(t *testing.T, r *bitrow.Reader, p *spot) {
			want, code := p.get(width)
			checkGet(t, r, width, want, code)
		})
	}
	for _, n := range []int{-1, 0, 1, 2} {
		steps = append(steps, func(t *testing.T, r *bitrow.Reader, p *spot) {
			want, code := p.bytes(n)
			checkBytes(t, r, n, want, code)
		})
	}
	for _, s := range []string{"", "\x6d", "\x6d\xb6", "\x6d\xb6\xdb", "\xb6\xdb\x6d\x96"} {
		all := rowOf(s)
		// Each number is a row of four steps.
		for choice := range len(steps) * len(steps) * len(steps) * len(steps) {
			r, p := bitrow.New(s), &spot{row: all}
			for range 4 {
				steps[choice%len(steps)](t, r, p)
				checkAt(t, r, p.at)
				choice /= len(steps)
			}
		}
	}
}

// P8.3

func TestAWriterThatIsNil(t *testing.T) {
	var w *bitrow.Writer
	for _, n := range []int{0, 1, -1, 65535, 65536, math.MinInt, math.MaxInt} {
		for _, width := range append(noWidths, 0, 1, 8, 16) {
			checkPut(t, w, n, width, api.ErrNil)
		}
	}
	w.Align()
	if got := w.Len(); got != 0 {
		t.Errorf("Len of nil = %d, want 0", got)
	}
	if got := w.Text(); got != "" {
		t.Errorf("Text of nil = %q, want nothing", got)
	}
}

func TestAReaderThatIsNil(t *testing.T) {
	var r *bitrow.Reader
	for _, width := range append(noWidths, 0, 1, 8, 16) {
		checkGet(t, r, width, 0, api.ErrNil)
		checkBytes(t, r, width, "", api.ErrNil)
	}
	r.Align()
	checkAt(t, r, 0)
}

// P8.4

// piece is what was put: a number in a width, or, with Align ahead, bytes.
type piece struct {
	n, width int
	bytes    string
}

// pieces puts some of them, and tells them.
func pieces(random *rand.Rand, w *bitrow.Writer, many int) []piece {
	var all []piece
	for range many {
		p := piece{width: random.IntN(17)}
		p.n = random.IntN(1 << p.width)
		if random.IntN(6) == 0 {
			p = piece{bytes: some(random, random.IntN(5)), width: -1}
			w.Align()
			for i := range len(p.bytes) {
				w.Put(int(p.bytes[i]), 8)
			}
		} else {
			w.Put(p.n, p.width)
		}
		all = append(all, p)
	}
	return all
}

func TestWhatIsPutIsGot(t *testing.T) {
	random := rand.New(rand.NewPCG(8, 4))
	for _, many := range []int{0, 1, 2, 3, 5, 10, 100, 1000, 100000} {
		for range max(1, 2000/(many+1)) {
			var w bitrow.Writer
			all := pieces(random, &w, many)
			r := bitrow.New(w.Text())
			for _, p := range all {
				if p.width < 0 {
					checkBytes(t, r, len(p.bytes), p.bytes, api.OK)
				} else {
					checkGet(t, r, p.width, p.n, api.OK)
				}
			}
			checkAt(t, r, w.Len())
			// Behind stand but the bits that lacked.
			left := 8*len(w.Text()) - w.Len()
			checkGet(t, r, left, 0, api.OK)
			checkGet(t, r, 1, 0, api.ErrShort)
		}
	}
}

func TestWhatIsPutIsGotInOneWidth(t *testing.T) {
	for width := 1; width <= 16; width++ {
		var w bitrow.Writer
		for n := range 1 << width {
			checkPut(t, &w, n, width, api.OK)
		}
		r := bitrow.New(w.Text())
		for n := range 1 << width {
			checkGet(t, r, width, n, api.OK)
			checkAt(t, r, (n+1)*width)
		}
		checkAt(t, r, w.Len())
	}
}

func TestWhatIsPutIsGotInOtherWidths(t *testing.T) {
	// The bits are a row: it doesn't matter which numbers brought them.
	random := rand.New(rand.NewPCG(8, 5))
	for range 500 {
		var w bitrow.Writer
		var l row
		for range random.IntN(60) {
			width := random.IntN(17)
			n := random.IntN(1 << width)
			w.Put(n, width)
			l = l.put(n, width)
		}
		r := bitrow.New(w.Text())
		for at := 0; at < len(l); {
			width := random.IntN(min(16, len(l)-at) + 1)
			checkGet(t, r, width, l[at:at+width].number(), api.OK)
			at += width
		}
		checkAt(t, r, w.Len())
	}
}

func TestWhatIsReadIsPutAgain(t *testing.T) {
	random := rand.New(rand.NewPCG(8, 6))
	for length := range 200 {
		s := some(random, length)
		r := bitrow.New(s)
		var w bitrow.Writer
		for at := 0; at < 8*length; {
			width := random.IntN(min(16, 8*length-at) + 1)
			n, _ := r.Get(width)
			checkPut(t, &w, n, width, api.OK)
			at += width
		}
		if got := w.Text(); got != s {
			t.Errorf("Text of what was read of %.60q = %.60q", s, got)
		}
	}
}

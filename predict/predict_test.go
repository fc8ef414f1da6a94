package predict_test

import (
	"bytes"
	"math"
	"math/rand/v2"
	"strings"
	"testing"

	"bindery/api"
	"bindery/predict"
)

// kinds is how many kinds of rows there are.
const kinds = 5

func newRandom(seed uint64) *rand.Rand { return rand.New(rand.NewPCG(seed, 13)) }

// some tells bytes by chance, of so many kinds.
func some(r *rand.Rand, length, kinds int) string {
	s := make([]byte, length)
	for i := range s {
		s[i] = byte(r.IntN(kinds))
	}
	return string(s)
}

// someRows tells rows with kinds by chance.
func someRows(r *rand.Rand, rows, columns, letters int) string {
	var s strings.Builder
	for range rows {
		s.WriteByte(byte(r.IntN(kinds)))
		s.WriteString(some(r, columns, letters))
	}
	return s.String()
}

// wrongWidths are numbers that are no numbers of columns.
func wrongWidths() []int {
	return []int{-1, 0, 257, -2, 258, 512, 513, 1 << 32, 1<<32 + 1, math.MinInt, math.MinInt + 1, math.MaxInt, math.MaxInt - 1}
}

// at tells the byte of a place in rows: 0 beyond the left, and above the first row.
func at(rows []byte, columns, row, column int) int {
	if row < 0 || column < 0 {
		return 0
	}
	return int(rows[row*columns+column])
}

// encodeAgain is a second telling of P13.1.
func encodeAgain(s string, columns int) (string, api.Errno) {
	switch {
	case columns <= 0 || columns > 256:
		return "", api.ErrArg
	case len(s) != len(s)/columns*columns:
		return "", api.ErrForm
	}
	var told []byte
	rows := []byte(s)
	for i, c := range rows {
		if i%columns == 0 {
			told = append(told, 2)
		}
		less := int(c) - at(rows, columns, i/columns-1, i%columns)
		told = append(told, byte((less+256)%256))
	}
	return string(told), api.OK
}

// nearestAgain tells the nearest of three numbers to a and b together less c.
func nearestAgain(a, b, c int) int {
	aim := float64(a + b - c)
	toA, toB, toC := math.Abs(aim-float64(a)), math.Abs(aim-float64(b)), math.Abs(aim-float64(c))
	if toA <= toB && toA <= toC {
		return a
	}
	if toB <= toC {
		return b
	}
	return c
}

// decodeAgain is a second telling of P13.2.
func decodeAgain(s string, columns int) (string, api.Errno) {
	switch {
	case columns <= 0 || columns > 256:
		return "", api.ErrArg
	case len(s) != len(s)/(columns+1)*(columns+1):
		return "", api.ErrForm
	}
	var told []byte
	for i := range len(s) {
		row, column := i/(columns+1), i%(columns+1)-1
		kind := s[row*(columns+1)]
		if column < 0 {
			if kind > 4 {
				return "", api.ErrForm
			}
			continue
		}
		a, b, c := at(told, columns, row, column-1), at(told, columns, row-1, column), 0
		if column > 0 {
			c = at(told, columns, row-1, column-1)
		}
		more := [...]int{0, a, b, int(math.Floor(float64(a+b) / 2)), nearestAgain(a, b, c)}
		told = append(told, byte((int(s[i])+more[kind])%256))
	}
	return string(told), api.OK
}

// checkEncode asks Encode, and wants this answer, and that what is encoded is decoded.
func checkEncode(t *testing.T, s string, columns int, want string, code api.Errno) {
	t.Helper()
	got, c := predict.Encode(s, columns)
	if got != want || c != code {
		t.Fatalf("%.60q (%d bytes) in %d columns: %.60q (%d bytes), %d; wanted %.60q (%d bytes), %d", s, len(s), columns, got, len(got), c, want, len(want), code)
	}
	if code == api.OK {
		checkDecode(t, got, columns, s, api.OK)
	}
}

// checkEncodeAgain asks Encode, and wants what the second telling answers.
func checkEncodeAgain(t *testing.T, s string, columns int) {
	t.Helper()
	want, code := encodeAgain(s, columns)
	checkEncode(t, s, columns, want, code)
}

// checkDecode asks Decode, and wants this answer.
func checkDecode(t *testing.T, s string, columns int, want string, code api.Errno) {
	t.Helper()
	if got, c := predict.Decode(s, columns); got != want || c != code {
		t.Fatalf("%.60q (%d bytes) in %d columns: %.60q (%d bytes), %d; wanted %.60q (%d bytes), %d", s, len(s), columns, got, len(got), c, want, len(want), code)
	}
}

// checkDecodeAgain asks Decode, and wants what the second telling answers.
func checkDecodeAgain(t *testing.T, s string, columns int) {
	t.Helper()
	want, code := decodeAgain(s, columns)
	checkDecode(t, s, columns, want, code)
}

// P13.1

func TestExamples(t *testing.T) {
	checkEncode(t, "\x01\x02\x03\x05", 2, "\x02\x01\x02\x02\x02\x03", api.OK)
}

func TestWidest(t *testing.T) {
	if predict.Widest != 256 {
		t.Fatal(predict.Widest)
	}
}

func TestEncodeOfNoRows(t *testing.T) {
	for columns := 1; columns <= 256; columns++ {
		checkEncode(t, "", columns, "", api.OK)
	}
}

func TestEncodeOfKnownRows(t *testing.T) {
	checkEncode(t, "a", 1, "\x02a", api.OK)
	checkEncode(t, "ab", 2, "\x02ab", api.OK)
	checkEncode(t, "ab", 1, "\x02a\x02\x01", api.OK)
	checkEncode(t, "ba", 1, "\x02b\x02\xff", api.OK)
	checkEncode(t, "aaa", 1, "\x02a\x02\x00\x02\x00", api.OK)
	checkEncode(t, "\x00\xff\x01\x80", 1, "\x02\x00\x02\xff\x02\x02\x02\x7f", api.OK)
	checkEncode(t, "\x05\x09\xff\x06\x08\x00\x04\x0a\x01", 3, "\x02\x05\x09\xff\x02\x01\xff\x01\x02\xfe\x02\x01", api.OK)
}

func TestEncodeOfEachByteBelowEachOther(t *testing.T) {
	for above := range 256 {
		for c := range 256 {
			s := string([]byte{byte(above), byte(c)})
			checkEncode(t, s, 1, string([]byte{2, byte(above), 2, byte((c + 256 - above) % 256)}), api.OK)
		}
	}
}

func TestEncodeInAnyColumns(t *testing.T) {
	r := newRandom(1)
	for columns := 1; columns <= 256; columns++ {
		for rows := 1; rows <= 6; rows++ {
			checkEncodeAgain(t, some(r, rows*columns, 256), columns)
			checkEncodeAgain(t, some(r, rows*columns, 2), columns)
		}
	}
}

func TestEncodeInWrongColumns(t *testing.T) {
	for _, columns := range wrongWidths() {
		for _, s := range []string{"", "a", "ab", strings.Repeat("a", 257), strings.Repeat("a", 1026), strings.Repeat("a", 1000)} {
			checkEncode(t, s, columns, "", api.ErrArg)
		}
	}
}

func TestEncodeOfNoWholeRows(t *testing.T) {
	r := newRandom(2)
	for columns := 1; columns <= 256; columns++ {
		s := some(r, 3*columns, 256)
		for length := range s {
			if length%columns == 0 {
				checkEncodeAgain(t, s[:length], columns)
				continue
			}
			checkEncode(t, s[:length], columns, "", api.ErrForm)
		}
	}
}

func TestEncodeOfManyRows(t *testing.T) {
	r := newRandom(3)
	for _, columns := range []int{1, 2, 7, 255, 256} {
		s := some(r, 3000*columns, 256)
		checkEncodeAgain(t, s, columns)
		checkEncodeAgain(t, strings.Repeat("\xff", len(s)), columns)
	}
}

// P13.2

func TestDecodeOfNoRows(t *testing.T) {
	for columns := 1; columns <= 256; columns++ {
		checkDecode(t, "", columns, "", api.OK)
	}
}

func TestDecodeOfKnownRows(t *testing.T) {
	// Above the first row is 0.
	checkDecode(t, "\x00\x01\x02\x03", 3, "\x01\x02\x03", api.OK)
	checkDecode(t, "\x01\x01\x02\x03", 3, "\x01\x03\x06", api.OK)
	checkDecode(t, "\x02\x01\x02\x03", 3, "\x01\x02\x03", api.OK)
	checkDecode(t, "\x03\x05\x02\x03", 3, "\x05\x04\x05", api.OK)
	checkDecode(t, "\x04\x01\x02\x03", 3, "\x01\x03\x06", api.OK)
	// Each kind below a row.
	checkDecode(t, "\x00\x0a\x14\x1f\x00\x01\x02\x03", 3, "\x0a\x14\x1f\x01\x02\x03", api.OK)
	checkDecode(t, "\x00\x0a\x14\x1f\x01\x01\x02\x03", 3, "\x0a\x14\x1f\x01\x03\x06", api.OK)
	checkDecode(t, "\x00\x0a\x14\x1f\x02\x01\x02\x03", 3, "\x0a\x14\x1f\x0b\x16\x22", api.OK)
	checkDecode(t, "\x00\x0a\x14\x1f\x03\x01\x02\x03", 3, "\x0a\x14\x1f\x06\x0f\x1a", api.OK)
	checkDecode(t, "\x00\x0a\x14\x1f\x04\x01\x02\x03", 3, "\x0a\x14\x1f\x0b\x16\x22", api.OK)
	// Below a row is what was told, not what was taken.
	checkDecode(t, "\x01\x01\x01\x02\x01\x01\x02\x01\x01", 2, "\x01\x02\x02\x03\x03\x04", api.OK)
}

func TestDecodeGoesRound(t *testing.T) {
	checkDecode(t, "\x00\xff\x02\x01", 1, "\xff\x00", api.OK)
	checkDecode(t, "\x01\xff\x02\xff", 3, "\xff\x01\x00", api.OK)
	checkDecode(t, "\x00\xff\x03\x81", 1, "\xff\x00", api.OK)
	checkDecode(t, "\x00\xff\x04\x03", 1, "\xff\x02", api.OK)
	// Half of both, and both together less the third, don't go round.
	checkDecode(t, "\x00\x00\xff\x03\xff\x00", 2, "\x00\xff\xff\xff", api.OK)
	checkDecode(t, "\x00\x00\xc8\x04\x64\x00", 2, "\x00\xc8\x64\xc8", api.OK)
	checkDecode(t, "\x00\xc8\x00\x04\x38\x00", 2, "\xc8\x00\x00\x00", api.OK)
}

func TestDecodeOfHalfOfEachTwo(t *testing.T) {
	for above := range 256 {
		for left := range 256 {
			// The byte on the left is left as it is by what stands above it, 0.
			s := string([]byte{0, 0, byte(above), 3, byte(left), 0})
			want := string([]byte{0, byte(above), byte(left), byte((left + above) / 2)})
			checkDecode(t, s, 2, want, api.OK)
			s = string([]byte{0, 0, byte(above), 3, byte(left), 200})
			want = want[:3] + string([]byte{byte(200 + (left+above)/2)})
			checkDecode(t, s, 2, want, api.OK)
		}
	}
}

func TestDecodeOfTheNearestOfEachThree(t *testing.T) {
	var s, want bytes.Buffer
	for left := range 256 {
		for above := range 256 {
			s.Reset()
			want.Reset()
			for corner := range 256 {
				// The first byte of a row of kind 4 is added to the one above it.
				s.Write([]byte{0, byte(corner), byte(above), 4, byte(left - corner), 0})
				want.Write([]byte{byte(corner), byte(above), byte(left), byte(nearestAgain(left, above, corner))})
			}
			checkDecode(t, s.String(), 2, want.String(), api.OK)
		}
	}
}

func TestDecodeOfAsNear(t *testing.T) {
	for _, one := range []struct{ left, above, corner, nearest byte }{
		{12, 18, 14, 18}, // to 16: 4, 2, 2: the one above is ahead of the corner
		{18, 12, 14, 18}, // to 16: 2, 4, 2: the left one is ahead of the corner
		{9, 12, 10, 12},  // to 11: 2, 1, 1
		{12, 9, 10, 12},  // to 11: 1, 2, 1
		{3, 5, 4, 4},     // to 4: 1, 1, 0
		{7, 7, 1, 7},     // to 13: 6, 6, 12
		{10, 40, 25, 25}, // to 25: 15, 15, 0
		{30, 20, 10, 30}, // to 40: 10, 20, 30
		{20, 30, 10, 30}, // to 40: 20, 10, 30
		{20, 30, 40, 20}, // to 10: 10, 20, 30
		{30, 20, 40, 20}, // to 10: 20, 10, 30
	} {
		s := string([]byte{0, one.corner, one.above, 4, one.left - one.corner, 0})
		checkDecode(t, s, 2, string([]byte{one.corner, one.above, one.left, one.nearest}), api.OK)
	}
}

func TestDecodeOfAnyRows(t *testing.T) {
	r := newRandom(4)
	for columns := 1; columns <= 256; columns++ {
		for rows := range 8 {
			checkDecodeAgain(t, someRows(r, rows, columns, 256), columns)
			checkDecodeAgain(t, someRows(r, rows, columns, 3), columns)
		}
	}
}

func TestDecodeOfEachKindBelowEachOther(t *testing.T) {
	r := newRandom(5)
	for n := range kinds * kinds * kinds {
		for _, columns := range []int{1, 2, 3, 16, 255, 256} {
			s := []byte(some(r, 3*(1+columns), 256))
			s[0], s[1+columns], s[2+2*columns] = byte(n%kinds), byte(n/kinds%kinds), byte(n/kinds/kinds)
			checkDecodeAgain(t, string(s), columns)
		}
	}
}

func TestDecodeOfManyRows(t *testing.T) {
	r := newRandom(6)
	for _, columns := range []int{1, 2, 7, 255, 256} {
		checkDecodeAgain(t, someRows(r, 3000, columns, 256), columns)
	}
}

func TestDecodeInWrongColumns(t *testing.T) {
	for _, columns := range wrongWidths() {
		for _, s := range []string{"", "\x00", "\x00a", "\x05a", strings.Repeat("\x00", 258), strings.Repeat("\x05", 258), strings.Repeat("\x00", 1000)} {
			checkDecode(t, s, columns, "", api.ErrArg)
		}
	}
}

func TestDecodeOfNoWholeRows(t *testing.T) {
	r := newRandom(7)
	for columns := 1; columns <= 256; columns++ {
		s := someRows(r, 3, columns, 256)
		for length := range s {
			if length%(1+columns) == 0 {
				checkDecodeAgain(t, s[:length], columns)
				continue
			}
			checkDecode(t, s[:length], columns, "", api.ErrForm)
		}
	}
}

func TestDecodeOfUnknownKinds(t *testing.T) {
	r := newRandom(8)
	for _, columns := range []int{1, 2, 5, 255, 256} {
		for row := range 4 {
			for kind := range 256 {
				s := []byte(someRows(r, 4, columns, 256))
				s[row*(1+columns)] = byte(kind)
				if kind < kinds {
					checkDecodeAgain(t, string(s), columns)
					continue
				}
				checkDecode(t, string(s), columns, "", api.ErrForm)
			}
		}
	}
}

func TestDecodeOfAnyBytes(t *testing.T) {
	r := newRandom(9)
	for range 20000 {
		checkDecodeAgain(t, some(r, r.IntN(40), 1+r.IntN(8)), r.IntN(8)-1)
	}
}

// P13.3

func TestWhatIsEncodedIsDecoded(t *testing.T) {
	r := newRandom(10)
	for range 20000 {
		checkEncodeAgain(t, some(r, r.IntN(60), 1+r.IntN(256)), r.IntN(12)-1)
	}
}

func TestAllShortTextsAreDecodedAgain(t *testing.T) {
	letters := []byte{0, 1, 254, 255}
	for length := range 9 {
		for n := range 1 << (2 * length) {
			s := make([]byte, length)
			for i := range s {
				s[i] = letters[n>>(2*i)%4]
			}
			for columns := range 9 {
				checkEncodeAgain(t, string(s), columns)
			}
		}
	}
}

package squeeze_test

import (
	"compress/flate"
	"io"
	"math/rand/v2"
	"slices"
	"strings"
	"testing"

	"bindery/api"
	"bindery/inflate"
	"bindery/squeeze"
)

// head is the bits with which a last block of fixed codes begins, endCode the code of its end.
const (
	head    = "110"
	endCode = "0000000"
)

// The greatest lengths of what is told at once.
const (
	mostStored   = 65535
	mostLength   = 258
	mostDistance = 32768
)

// low tells so many bits of a number as digits, the lowest ahead.
func low(n, width int) string {
	row := make([]byte, width)
	for i := range row {
		row[i] = '0' + byte(n>>i&1)
	}
	return string(row)
}

// high tells so many bits of a number as digits, the highest ahead.
func high(n, width int) string {
	row := []byte(low(n, width))
	slices.Reverse(row)
	return string(row)
}

// bytesOf tells the bytes in which a row of bits stands; those that lack are 0.
func bytesOf(row string) string {
	s := make([]byte, (len(row)+7)/8)
	for i := range len(row) {
		s[i/8] |= (row[i] - '0') << (i % 8)
	}
	return string(s)
}

// symbolCode tells a symbol by its fixed code.
func symbolCode(symbol int) string {
	switch {
	case symbol < 144:
		return high(0b00110000+symbol, 8)
	case symbol < 256:
		return high(0b110010000+symbol-144, 9)
	case symbol < 280:
		return high(symbol-256, 7)
	}
	return high(0b11000000+symbol-280, 8)
}

// plainCodes tells bytes by their fixed codes.
func plainCodes(s string) string {
	var row strings.Builder
	for i := range len(s) {
		row.WriteString(symbolCode(int(s[i])))
	}
	return row.String()
}

// leastOfLength tells with which length a symbol's ones begin, and how many bits more it has.
func leastOfLength(symbol int) (int, int) {
	if symbol == 285 {
		return 258, 0
	}
	least := 3
	for before := 257; before < symbol; before++ {
		least += 1 << max(0, (before-261)/4)
	}
	return least, max(0, (symbol-261)/4)
}

// leastOfDistance tells with which distance a symbol's ones begin, and how many bits more it has.
func leastOfDistance(symbol int) (int, int) {
	least := 1
	for before := range symbol {
		least += 1 << max(0, (before-2)/2)
	}
	return least, max(0, (symbol-2)/2)
}

// pieceCode tells a length and a distance.
func pieceCode(length, distance int) string {
	symbol := 285
	least, more := leastOfLength(symbol)
	for least > length {
		symbol--
		least, more = leastOfLength(symbol)
	}
	row := symbolCode(symbol) + low(length-least, more)

	symbol = 29
	least, more = leastOfDistance(symbol)
	for least > distance {
		symbol--
		least, more = leastOfDistance(symbol)
	}
	return row + high(symbol, 5) + low(distance-least, more)
}

// lastPlace tells where such bytes stand last that begin ahead of a place, and not too far; -1 if nowhere.
func lastPlace(s string, at, length int) int {
	from := max(0, at-mostDistance)
	place := strings.LastIndex(s[from:at+length-1], s[at:at+length])
	if place < 0 {
		return -1
	}
	return from + place
}

// longestAgain tells again the longest piece at a place, and its least distance; the length is 0 if there is none.
func longestAgain(s string, at int) (int, int) {
	length, distance := 0, 0
	most := min(mostLength, len(s)-at)
	for next := 3; next <= most; next = length + 1 {
		place := lastPlace(s, at, next)
		if place < 0 {
			break
		}
		length, distance = next, at-place
		for length < most && s[place+length] == s[at+length] {
			length++
		}
	}
	return length, distance
}

// rowAgain tells again the row of the bytes of a text from a place on.
func rowAgain(s string, from int) string {
	var row strings.Builder
	again := threesAgain(s)
	for at := from; at < len(s); {
		length, distance := 0, 0
		if again[at] {
			length, distance = longestAgain(s, at)
		}
		if length == 0 {
			row.WriteString(plainCodes(s[at : at+1]))
			at++
			continue
		}
		row.WriteString(pieceCode(length, distance))
		at += length
	}
	return row.String()
}

// threesAgain tells of each place whether its three bytes stand farther ahead, too, and not too far: most do not, and need not be looked for.
func threesAgain(s string) []bool {
	again := make([]bool, len(s))
	behind := map[string]int{}
	for at := 0; at+3 <= len(s); at++ {
		again[at] = behind[s[at:at+3]] > max(0, at-mostDistance)
		behind[s[at:at+3]] = at + 1
	}
	return again
}

// fixedAgain tells again what Fixed answers.
func fixedAgain(s string) string { return bytesOf(head + rowAgain(s, 0) + endCode) }

// storedAgain tells again what Stored answers: each block begins with whether it is the last, and its length, which comes again, turned.
func storedAgain(s string) string {
	told := ""
	for {
		length := len(s)
		if length <= mostStored {
			return told + "\x01" + twoBytes(length) + twoBytes(mostStored-length) + s
		}
		told += "\x00\xff\xff\x00\x00" + s[:mostStored]
		s = s[mostStored:]
	}
}

// twoBytes tells a number as two bytes, the low one ahead.
func twoBytes(n int) string { return string([]byte{byte(n % 256), byte(n / 256)}) }

// bestAgain tells again what Best answers.
func bestAgain(fixed, stored string) string {
	if len(stored) <= len(fixed) {
		return stored
	}
	return fixed
}

// some tells any bytes below a number.
func some(random *rand.Rand, length, below int) string {
	s := make([]byte, length)
	for i := range s {
		s[i] = byte(random.IntN(below))
	}
	return string(s)
}

// newRandom is a row of numbers that is the same each time.
func newRandom(seed uint64) *rand.Rand { return rand.New(rand.NewPCG(11, seed)) }

// fresh tells so many bytes below 250, no three of which stand side by side twice.
func fresh(random *rand.Rand, length int) string {
	seen := map[[3]byte]bool{}
	s := []byte{0, 1}
	for len(s) < length {
		three := [3]byte{s[len(s)-2], s[len(s)-1], byte(random.IntN(250))}
		if !seen[three] {
			seen[three] = true
			s = append(s, three[2])
		}
	}
	return string(s[:length])
}

// bits tells bytes as digits, to be looked at where a test fails.
func bits(s string) string {
	if len(s) > 200 {
		return "(long)"
	}
	row := ""
	for i := range len(s) {
		row += low(int(s[i]), 8)
	}
	return row
}

// shown tells a text where a test fails.
func shown(s string) string {
	if len(s) > 100 {
		return s[:100] + ".."
	}
	return s
}

// wantFixed asks Fixed of bytes for a row.
func wantFixed(t *testing.T, s, row string) {
	t.Helper()
	if got, want := squeeze.Fixed(s), bytesOf(head+row+endCode); got != want {
		t.Errorf("Fixed of %q (%d bytes):\n %s, not\n %s", shown(s), len(s), bits(got), bits(want))
	}
}

// wantAgain asks all functions for what the second tellings say.
func wantAgain(t *testing.T, s string) {
	t.Helper()
	fixed, stored := fixedAgain(s), storedAgain(s)
	if got := squeeze.Fixed(s); got != fixed {
		t.Errorf("Fixed of %q (%d bytes):\n %s, not\n %s", shown(s), len(s), bits(got), bits(fixed))
	}
	if got := squeeze.Stored(s); got != stored {
		t.Errorf("Stored of %q (%d bytes): %q", shown(s), len(s), shown(got))
	}
	if got := squeeze.Best(s); got != bestAgain(fixed, stored) {
		t.Errorf("Best of %q (%d bytes): %d bytes, of %d and %d", shown(s), len(s), len(got), len(fixed), len(stored))
	}
}

// wantToldAgain asks whether bytes are told again of what all functions answer, to its last byte.
func wantToldAgain(t *testing.T, s string) {
	t.Helper()
	for name, squeezed := range map[string]string{
		"Stored": squeeze.Stored(s), "Fixed": squeeze.Fixed(s), "Best": squeeze.Best(s),
	} {
		if got, read, code := inflate.Inflate(squeezed, len(s)); got != s || read != len(squeezed) || code != api.OK {
			t.Errorf("%s of %q (%d bytes): %d bytes of %d are told again as %q (%d bytes), %v",
				name, shown(s), len(s), read, len(squeezed), shown(got), len(got), code)
		}
		rest := strings.NewReader(squeezed)
		got, err := io.ReadAll(flate.NewReader(rest))
		if string(got) != s || err != nil || rest.Len() != 0 {
			t.Errorf("%s of %q (%d bytes): the library tells %q (%d bytes), %v, and leaves %d bytes",
				name, shown(s), len(s), shown(string(got)), len(got), err, rest.Len())
		}
	}
	if got, most := len(squeeze.Best(s)), len(s)+5*max(1, (len(s)+mostStored-1)/mostStored); got > most {
		t.Errorf("Best of %q (%d bytes): %d bytes, above %d", shown(s), len(s), got, most)
	}
}

// P11.1

func TestNothingStored(t *testing.T) {
	if got := squeeze.Stored(""); got != "\x01\x00\x00\xff\xff" {
		t.Errorf("%q", got)
	}
}

func TestEachByteStored(t *testing.T) {
	for b := range 256 {
		s := string([]byte{byte(b)})
		if got := squeeze.Stored(s); got != "\x01\x01\x00\xfe\xff"+s {
			t.Errorf("%q: %q", s, got)
		}
	}
}

func TestStoredBlocksAreFull(t *testing.T) {
	s := some(newRandom(1), 3*mostStored, 256)
	full := "\x00\xff\xff\x00\x00"
	for length, want := range map[int]string{
		mostStored - 1:   "\x01\xfe\xff\x01\x00" + s[:65534],
		mostStored:       "\x01\xff\xff\x00\x00" + s[:65535],
		mostStored + 1:   full + s[:65535] + "\x01\x01\x00\xfe\xff" + s[65535:65536],
		2 * mostStored:   full + s[:65535] + "\x01\xff\xff\x00\x00" + s[65535:131070],
		2*mostStored + 2: full + s[:65535] + full + s[65535:131070] + "\x01\x02\x00\xfd\xff" + s[131070:131072],
		3 * mostStored:   full + s[:65535] + full + s[65535:131070] + "\x01\xff\xff\x00\x00" + s[131070:],
	} {
		if got := squeeze.Stored(s[:length]); got != want {
			t.Errorf("%d bytes: %d bytes that begin with %q", length, len(got), got[:5])
		}
	}
}

func TestStoredLengths(t *testing.T) {
	s := some(newRandom(2), 1<<18, 256)
	for length := range 1000 {
		if squeeze.Stored(s[:length]) != storedAgain(s[:length]) {
			t.Errorf("%d bytes", length)
		}
	}
	for length := 1000; length < len(s); length += 1 + length/50 {
		if squeeze.Stored(s[:length]) != storedAgain(s[:length]) {
			t.Errorf("%d bytes", length)
		}
	}
}

// P11.2

func TestExamples(t *testing.T) {
	for s, want := range map[string]string{"": "\x03\x00", "a": "\x4b\x04\x00", "aaaa": "\x4b\x04\x02\x00"} {
		if got := squeeze.Fixed(s); got != want {
			t.Errorf("%q: %q", s, got)
		}
	}
}

func TestEachByteByItself(t *testing.T) {
	for b := range 256 {
		s := string([]byte{byte(b)})
		wantFixed(t, s, symbolCode(b))
		wantFixed(t, s+s, symbolCode(b)+symbolCode(b))
	}
	wantFixed(t, "\x00\x8f\x90\xff", "00110000"+"10111111"+"110010000"+"111111111")
}

func TestFewerThanThreeBytesAreNoPiece(t *testing.T) {
	for _, s := range []string{"aa", "aaa", "abab", "abxab", "abxaby", "aabaa", "ababb", "abcdbc"} {
		wantFixed(t, s, plainCodes(s))
	}
}

func TestThreeBytesAreOne(t *testing.T) {
	wantFixed(t, "aaaa", plainCodes("a")+pieceCode(3, 1))
	wantFixed(t, "ababa", plainCodes("ab")+pieceCode(3, 2))
	wantFixed(t, "abcabc", plainCodes("abc")+pieceCode(3, 3))
	wantFixed(t, "abcdabc", plainCodes("abcd")+pieceCode(3, 4))
	wantFixed(t, "abcdabce", plainCodes("abcd")+pieceCode(3, 4)+plainCodes("e"))
	wantFixed(t, "xabcyabcz", plainCodes("xabcy")+pieceCode(3, 4)+plainCodes("z"))
}

func TestWhatIsLeftBehindAPiece(t *testing.T) {
	wantFixed(t, "abcabcab", plainCodes("abc")+pieceCode(5, 3))
	wantFixed(t, "abcdabcab", plainCodes("abcd")+pieceCode(3, 4)+plainCodes("ab"))
	wantFixed(t, "abcdabcabc", plainCodes("abcd")+pieceCode(3, 4)+pieceCode(3, 3))
	wantFixed(t, "abcdabca", plainCodes("abcd")+pieceCode(3, 4)+plainCodes("a"))
}

func TestEachLength(t *testing.T) {
	s := fresh(newRandom(3), mostLength)
	for length := 3; length <= mostLength; length++ {
		ahead := s[:length] + "\xfe\xff"
		wantFixed(t, ahead+s[:length], plainCodes(ahead)+pieceCode(length, length+2))
		wantFixed(t, ahead+s[:length]+"\xff\xfe", plainCodes(ahead)+pieceCode(length, length+2)+plainCodes("\xff\xfe"))
	}
}

func TestLengthsByTheirSymbols(t *testing.T) {
	for length, want := range map[int]string{
		3: "0000001", 10: "0001000", 11: "0001001" + "0", 12: "0001001" + "1", 13: "0001010" + "0", 18: "0001100" + "1",
		19: "0001101" + "00", 22: "0001101" + "11", 34: "0010000" + "11", 35: "0010001" + "000", 66: "0010100" + "111",
		67: "0010101" + "0000", 114: "0010111" + "1111", 115: "11000000" + "0000", 130: "11000000" + "1111",
		131: "11000001" + "00000", 226: "11000011" + "11111", 227: "11000100" + "00000", 257: "11000100" + "01111", 258: "11000101",
	} {
		wantFixed(t, strings.Repeat("a", length+1), "10010001"+want+"00000")
	}
}

func TestRunsOfEachLength(t *testing.T) {
	for length := 4; length < 1100; length++ {
		row, left := plainCodes("a"), length-1
		for ; left >= 3; left -= min(left, mostLength) {
			row += pieceCode(min(left, mostLength), 1)
		}
		wantFixed(t, strings.Repeat("a", length), row+plainCodes(strings.Repeat("a", left)))
	}
}

func TestAPieceIsNoLongerThanItMayBe(t *testing.T) {
	s := fresh(newRandom(4), 600)
	plain := plainCodes(s + "\xff")
	for more := range 3 {
		wantFixed(t, s+"\xff"+s[:258+more], plain+pieceCode(258, 601)+plainCodes(s[258:258+more]))
	}
	wantFixed(t, s+"\xff"+s[:261], plain+pieceCode(258, 601)+pieceCode(3, 601))
	wantFixed(t, s+"\xff"+s, plain+pieceCode(258, 601)+pieceCode(258, 601)+pieceCode(84, 601))
}

func TestAPieceThatReachesIntoItself(t *testing.T) {
	for distance := 1; distance <= 300; distance++ {
		s := fresh(newRandom(5), distance)
		for _, length := range []int{3, 4, distance, distance + 1, 2*distance + 1, mostLength} {
			if length >= 3 && length <= mostLength {
				wantFixed(t, s+strings.Repeat(s, mostLength)[:length], plainCodes(s)+pieceCode(length, distance))
			}
		}
	}
}

// farApart tells bytes whose first three come again at a distance, and nothing else does.
func farApart(filled string, distance int) string {
	return "\xff\xff\xff" + filled[:distance-3] + "\xff\xff\xff"
}

func TestEachDistance(t *testing.T) {
	filled := fresh(newRandom(6), mostDistance)
	distances := []int{}
	for distance := 4; distance < 300; distance++ {
		distances = append(distances, distance)
	}
	for symbol := 16; symbol < 30; symbol++ {
		least, more := leastOfDistance(symbol)
		distances = append(distances, least-1, least, least+1, least+5, least+1<<more/2, least+1<<more-2, least+1<<more-1)
	}
	for _, distance := range distances {
		s := farApart(filled, distance)
		wantFixed(t, s, plainCodes(s[:distance])+pieceCode(3, distance))
		wantFixed(t, s+"\xfd", plainCodes(s[:distance])+pieceCode(3, distance)+plainCodes("\xfd"))
	}
}

func TestDistancesByTheirSymbols(t *testing.T) {
	filled := fresh(newRandom(7), mostDistance)
	for distance, want := range map[int]string{
		4: "00011", 5: "00100" + "0", 6: "00100" + "1", 7: "00101" + "0", 9: "00110" + "00", 13: "00111" + "00", 16: "00111" + "11",
		17: "01000" + "000", 26: "01001" + "100", 192: "01110" + "111111", 193: "01111" + "000000", 257: "10000" + "0000000",
		1025: "10100" + "000000000", 8193: "11010" + "000000000000", 16384: "11011" + "111111111111",
		16385: "11100" + "0000000000000", 24577: "11101" + "0000000000000", 24578: "11101" + "1000000000000", 32768: "11101" + "1111111111111",
	} {
		s := farApart(filled, distance)
		wantFixed(t, s, plainCodes(s[:distance])+"0000001"+want)
	}
}

func TestTooFarAhead(t *testing.T) {
	filled := fresh(newRandom(8), 2*mostDistance)
	for _, distance := range []int{32768, 32769, 32770, 32771, 32772, 40000, 65535, 65536, 65537} {
		s := farApart(filled, distance)
		want := plainCodes(s[:distance])
		if distance <= mostDistance {
			want += pieceCode(3, distance)
		} else {
			want += plainCodes("\xff\xff\xff")
		}
		wantFixed(t, s, want)
	}
}

func TestAPieceEndsWithinWhatIsNear(t *testing.T) {
	// The piece begins at the greatest distance, behind all that is nearer, and ahead of it its like would be longer.
	s := fresh(newRandom(9), mostDistance+1)
	wantFixed(t, s+s, plainCodes(s)+rowAgain(s+s, len(s)))
	for _, length := range []int{3, 100, 258, 259, 520} {
		piece := s[1 : 1+length]
		row := pieceCode(min(length, mostLength), mostDistance)
		if length == 259 {
			row += plainCodes(piece[258:])
		}
		if length == 520 {
			row += pieceCode(258, mostDistance) + pieceCode(4, mostDistance)
		}
		wantFixed(t, s+piece, plainCodes(s)+row)
	}
}

func TestTheLongestPiece(t *testing.T) {
	wantFixed(t, "abcde1abc2abcd3abcde", plainCodes("abcde1")+pieceCode(3, 6)+plainCodes("2")+pieceCode(4, 10)+plainCodes("3")+pieceCode(5, 15))
	wantFixed(t, "abcd1abc2abcd", plainCodes("abcd1")+pieceCode(3, 5)+plainCodes("2")+pieceCode(4, 9))
	wantFixed(t, "abc1abcd2abcd", plainCodes("abc1")+pieceCode(3, 4)+plainCodes("d2")+pieceCode(4, 5))
	wantFixed(t, "aaaab1aaac2aaaab", plainCodes("a")+pieceCode(3, 1)+plainCodes("b1")+pieceCode(3, 5)+plainCodes("c2")+pieceCode(5, 11))
}

func TestTheShortestDistance(t *testing.T) {
	wantFixed(t, "abc1abc2abc", plainCodes("abc1")+pieceCode(3, 4)+plainCodes("2")+pieceCode(3, 4))
	wantFixed(t, "abcx1abcy2abcz", plainCodes("abcx1")+pieceCode(3, 5)+plainCodes("y2")+pieceCode(3, 5)+plainCodes("z"))
	wantFixed(t, "abcde1abcd2abcd3abcd4", plainCodes("abcde1")+pieceCode(4, 6)+plainCodes("2")+pieceCode(4, 5)+plainCodes("3")+pieceCode(4, 5)+plainCodes("4"))
}

func TestTheShortestDistanceOfTheGreatestLength(t *testing.T) {
	// Three times the same, of which but so much is told: farther ahead more would be alike, which does not count.
	s := fresh(newRandom(10), 300)
	near := s[:258]
	want := plainCodes(s+"\xff") + pieceCode(258, 301) + plainCodes("\xfe") + pieceCode(258, 259) + pieceCode(42, 560)
	wantFixed(t, s+"\xff"+near+"\xfe"+s, want)
	near = s[:257]
	want = plainCodes(s+"\xff") + pieceCode(257, 301) + plainCodes("\xfe") + pieceCode(258, 559) + pieceCode(42, 559)
	wantFixed(t, s+"\xff"+near+"\xfe"+s, want)
}

func TestFromTheLeft(t *testing.T) {
	// A longer piece that begins a byte behind is not waited for.
	wantFixed(t, "abc1bcdef2abcdef", plainCodes("abc1bcdef2")+pieceCode(3, 10)+pieceCode(3, 7))
	wantFixed(t, "abc1bcdefgh2abcdefgh", plainCodes("abc1bcdefgh2")+pieceCode(3, 12)+pieceCode(5, 9))
}

func TestPiecesOfPieces(t *testing.T) {
	// What stands within a piece, or across its ends, is found as well.
	wantFixed(t, "abcdef1abcdef2bcde", plainCodes("abcdef1")+pieceCode(6, 7)+plainCodes("2")+pieceCode(4, 6))
	wantFixed(t, "abcdef1abcdef2ef2", plainCodes("abcdef1")+pieceCode(6, 7)+plainCodes("2")+pieceCode(3, 3))
	wantFixed(t, "abcdef1xabcdefy1xab", plainCodes("abcdef1x")+pieceCode(6, 8)+plainCodes("y")+pieceCode(4, 9))
	wantFixed(t, "abcdabcabc2cabc", plainCodes("abcd")+pieceCode(3, 4)+pieceCode(3, 3)+plainCodes("2")+pieceCode(4, 5))
}

// eachText goes through all texts of up to so many letters.
func eachText(letters string, most int, visit func(s string)) {
	var grow func(s string)
	grow = func(s string) {
		visit(s)
		if len(s) == most {
			return
		}
		for i := range len(letters) {
			grow(s + letters[i:i+1])
		}
	}
	grow("")
}

func TestAllShortTexts(t *testing.T) {
	again := func(s string) { wantAgain(t, s) }
	eachText("ab", 12, again)
	eachText("a\xffz", 8, again)
	eachText("abcde", 6, again)
}

func TestTextsOfAFewLetters(t *testing.T) {
	random := newRandom(12)
	for range 1500 {
		wantAgain(t, some(random, random.IntN(600), 1+random.IntN(6)))
	}
	for range 300 {
		wantAgain(t, some(random, random.IntN(2000), 1+random.IntN(256)))
	}
}

// patched tells a text of pieces of itself and of other bytes.
func patched(random *rand.Rand, length, most, below int) string {
	s := some(random, 1+random.IntN(20), below)
	for len(s) < length {
		if random.IntN(3) == 0 {
			s += some(random, random.IntN(6), below)
			continue
		}
		from := random.IntN(len(s))
		s += s[from:min(len(s), from+random.IntN(most))]
	}
	return s[:length]
}

func TestTextsOfPieces(t *testing.T) {
	random := newRandom(13)
	for range 300 {
		wantAgain(t, patched(random, random.IntN(3000), 1+random.IntN(600), 1+random.IntN(256)))
	}
}

func TestTextsWithFewOtherBytes(t *testing.T) {
	random := newRandom(14)
	for range 60 {
		s := []byte(strings.Repeat("a", 1+random.IntN(4000)))
		for range random.IntN(60) {
			s[random.IntN(len(s))] = byte(random.IntN(256))
		}
		wantAgain(t, string(s))
	}
}

func TestLongTexts(t *testing.T) {
	random := newRandom(15)
	for _, length := range []int{32766, 32767, 32768, 32769, 32770, 32771, 65535, 65536, 65537, 100000} {
		wantAgain(t, patched(random, length, 400, 256))
	}
	wantAgain(t, fresh(random, 80000))
	wantAgain(t, strings.Repeat(fresh(random, 32768), 2)+fresh(random, 40000))
	wantAgain(t, strings.Repeat(fresh(random, 32769), 3))
	wantAgain(t, some(random, 40000, 60))
	wantAgain(t, strings.Repeat("a", 200000))
	wantAgain(t, strings.Repeat("\x00\x01\x02", 30000))
}

func TestOneThreeBytesAgainAndAgain(t *testing.T) {
	// The same three bytes stand at places that come to be too far ahead while nearer ones are there, or none.
	random := newRandom(16)
	for range 8 {
		s := ""
		for len(s) < 100000 {
			filled := some(random, random.IntN(2*[]int{50, 3000, 32768}[random.IntN(3)]), 250)
			s += "\xff\xfe\xfd" + filled
		}
		wantAgain(t, s)
	}
}

// P11.3

func TestBestIsTheShorterOne(t *testing.T) {
	// Of bytes of 9 bits Fixed has (10 + 9n) / 8 bytes, rounded up, Stored 5 + n.
	s := ""
	for n := range 100 {
		fixed, stored := squeeze.Fixed(s), squeeze.Stored(s)
		want := stored
		if n <= 22 {
			want = fixed
		}
		if (10+9*n+7)/8 != len(fixed) || len(s)+5 != len(stored) {
			t.Errorf("%d bytes: %d and %d bytes", n, len(fixed), len(stored))
		}
		if got := squeeze.Best(s); got != want {
			t.Errorf("%d bytes: %d bytes that begin with %q, of %d and %d", n, len(got), got[:1], len(fixed), len(stored))
		}
		s += string([]byte{byte(150 + n)})
	}
}

func TestBestOfAlikeLengthsIsStored(t *testing.T) {
	alike := 0
	random := newRandom(17)
	for range 3000 {
		s := some(random, random.IntN(80), 256)
		fixed, stored := squeeze.Fixed(s), squeeze.Stored(s)
		got := squeeze.Best(s)
		if got != bestAgain(fixed, stored) {
			t.Errorf("%q: %d bytes that begin with %q, of %d and %d", s, len(got), got[:1], len(fixed), len(stored))
		}
		if len(fixed) == len(stored) {
			alike++
		}
	}
	if alike < 100 {
		t.Errorf("%d alike lengths", alike)
	}
}

func TestBestOfNothing(t *testing.T) {
	if got := squeeze.Best(""); got != "\x03\x00" {
		t.Errorf("%q", got)
	}
}

func TestBestOfSeveralBlocks(t *testing.T) {
	// Bytes of 8 bits alone, and few pieces: all heads of Stored's blocks count.
	s := some(newRandom(18), 66000, 144)
	for _, length := range []int{1, 100, mostStored, mostStored + 1, 66000} {
		wantAgain(t, s[:length])
	}
}

// P11.4

func TestToldAgain(t *testing.T) {
	wantToldAgain(t, "")
	for b := range 256 {
		wantToldAgain(t, string([]byte{byte(b)}))
	}
	random := newRandom(19)
	for range 1000 {
		wantToldAgain(t, some(random, random.IntN(500), 1+random.IntN(256)))
		wantToldAgain(t, patched(random, random.IntN(2000), 1+random.IntN(600), 1+random.IntN(256)))
	}
}

func TestLongTextsAreToldAgain(t *testing.T) {
	random := newRandom(20)
	for length := 65530; length < 65542; length++ {
		wantToldAgain(t, some(random, length, 256))
		wantToldAgain(t, patched(random, length, 400, 256))
	}
	wantToldAgain(t, some(random, 1<<20, 256))
	wantToldAgain(t, some(random, 1<<18, 2))
	wantToldAgain(t, strings.Repeat("\x00", 1<<21))
	wantToldAgain(t, strings.Repeat("0000000016 00000 n \n", 1<<14))
	wantToldAgain(t, patched(random, 1<<18, 1000, 256))
}

func TestBestIsLongerByFewBytes(t *testing.T) {
	s := some(newRandom(21), 4*mostStored, 256)
	for length, more := range map[int]int{
		0: 2, 1: 2, 100: 5, mostStored: 5, mostStored + 1: 10, 2 * mostStored: 10, 2*mostStored + 1: 15, 4 * mostStored: 20,
	} {
		if got := len(squeeze.Best(s[:length])); got != length+more {
			t.Errorf("%d bytes: %d bytes", length, got)
		}
	}
}

func TestCallsKnowNothingOfOneAnother(t *testing.T) {
	for range 3 {
		squeeze.Best(strings.Repeat("abcabc", 30000))
		wantFixed(t, "abc", plainCodes("abc"))
		if got := squeeze.Best(""); got != "\x03\x00" {
			t.Errorf("%q", got)
		}
		if got := squeeze.Stored("abc"); got != "\x01\x03\x00\xfc\xffabc" {
			t.Errorf("%q", got)
		}
	}
}

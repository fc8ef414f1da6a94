package zwrap_test

import (
	"bytes"
	"compress/flate"
	"compress/zlib"
	"hash/adler32"
	"io"
	"math"
	"math/rand/v2"
	"slices"
	"strings"
	"testing"

	"bindery/api"
	"bindery/inflate"
	"bindery/squeeze"
	"bindery/zwrap"
)

// room is more than any text of these tests comes to.
const room = 1 << 30

// rightHead is a head that is right, aDeflated an a deflated, and aSum the sum of it.
const (
	rightHead = "\x78\x01"
	aDeflated = "\x4b\x04\x00"
	aSum      = "\x00\x62\x00\x62"
)

func newRandom(seed uint64) *rand.Rand { return rand.New(rand.NewPCG(seed, 12)) }

// some tells bytes by chance, of so many kinds.
func some(r *rand.Rand, length, kinds int) string {
	s := make([]byte, length)
	for i := range s {
		s[i] = byte(r.IntN(kinds))
	}
	return string(s)
}

// sumOf tells the sum of bytes by Go's library, the highest byte ahead.
func sumOf(s string) string {
	sum := adler32.Checksum([]byte(s))
	return string([]byte{byte(sum >> 24), byte(sum >> 16), byte(sum >> 8), byte(sum)})
}

// wrapAgain is a second telling of P12.1.
func wrapAgain(s string) string { return rightHead + squeeze.Best(s) + sumOf(s) }

// headMay tells whether a head may be so.
func headMay(first, second byte) bool {
	both := 256*int(first) + int(second)
	return first&0x0f == 8 && first>>4 < 8 && both == both/31*31 && second>>5&1 == 0
}

// unwrapAgain is a second telling of P12.2.
func unwrapAgain(s string, most int) (string, api.Errno) {
	switch {
	case most < 0:
		return "", api.ErrArg
	case len(s) < 2:
		return "", api.ErrShort
	case !headMay(s[0], s[1]):
		return "", api.ErrForm
	}
	out, read, code := inflate.Inflate(s[2:], most)
	behind := s[2+read:]
	switch {
	case code != api.OK:
		return "", code
	case len(behind) < 4:
		return "", api.ErrShort
	case behind[:4] != sumOf(out):
		return "", api.ErrSum
	case len(behind) > 4:
		return "", api.ErrForm
	}
	return out, api.OK
}

// check asks Unwrap, and wants this answer.
func check(t *testing.T, s string, most int, want string, code api.Errno) {
	t.Helper()
	if got, c := zwrap.Unwrap(s, most); got != want || c != code {
		t.Fatalf("%.60q (%d bytes), at most %d: %.60q (%d bytes), %d; wanted %.60q (%d bytes), %d", s, len(s), most, got, len(got), c, want, len(want), code)
	}
}

// checkAgain asks Unwrap, and wants what the second telling answers.
func checkAgain(t *testing.T, s string, most int) {
	t.Helper()
	want, code := unwrapAgain(s, most)
	check(t, s, most, want, code)
}

// checkWrap asks Wrap, and wants this answer, and that it is unwrapped with just enough room, and with no less.
func checkWrap(t *testing.T, s, want string) {
	t.Helper()
	got := zwrap.Wrap(s)
	if got != want {
		t.Fatalf("%.60q (%d bytes): %.60q (%d bytes), wanted %.60q (%d bytes)", s, len(s), got, len(got), want, len(want))
	}
	check(t, got, len(s), s, api.OK)
	if s != "" {
		check(t, got, len(s)-1, "", api.ErrBig)
	}
}

// P12.1

func TestExamples(t *testing.T) {
	checkWrap(t, "a", "\x78\x01\x4b\x04\x00\x00\x62\x00\x62")
}

func TestWrapOfNothing(t *testing.T) {
	checkWrap(t, "", "\x78\x01\x03\x00\x00\x00\x00\x01")
}

func TestWrapOfKnownTexts(t *testing.T) {
	checkWrap(t, "aaaa", "\x78\x01\x4b\x04\x02\x00\x03\xce\x01\x85")
	// Best is Stored here: fixed codes have 9 bits for each of these bytes.
	var high []byte
	for c := 255; c > 215; c-- {
		high = append(high, byte(c))
	}
	checkWrap(t, string(high), rightHead+"\x01\x28\x00\xd7\xff"+string(high)+sumOf(string(high)))
}

func TestWrapOfEachByte(t *testing.T) {
	for c := range 256 {
		s := string([]byte{byte(c)})
		checkWrap(t, s, wrapAgain(s))
	}
}

func TestWrapOfAnyTexts(t *testing.T) {
	r := newRandom(1)
	for range 2000 {
		s := some(r, r.IntN(300), 1+r.IntN(256))
		checkWrap(t, s, wrapAgain(s))
	}
}

func TestWrapAtTheEdgesOfStoredBlocks(t *testing.T) {
	s := some(newRandom(2), 200000, 256)
	for _, length := range []int{65534, 65535, 65536, 131070, 131071, 200000} {
		checkWrap(t, s[:length], wrapAgain(s[:length]))
	}
}

func TestWrapOfLongTexts(t *testing.T) {
	for _, s := range []string{
		strings.Repeat("\xff", 1<<20),
		strings.Repeat("\x00", 1<<20),
		strings.Repeat("12 0 obj << /Kind 1 >> endobj\n", 1<<14),
		some(newRandom(3), 1<<20, 256),
	} {
		checkWrap(t, s, wrapAgain(s))
	}
}

func TestWrapIsReadByTheLibrary(t *testing.T) {
	r := newRandom(4)
	for _, length := range []int{0, 1, 2, 3, 10, 100, 1000, 70000} {
		for _, kinds := range []int{1, 2, 10, 256} {
			s := some(r, length, kinds)
			reader, err := zlib.NewReader(strings.NewReader(zwrap.Wrap(s)))
			if err != nil {
				t.Fatal(err)
			}
			if got, err := io.ReadAll(reader); err != nil || string(got) != s {
				t.Fatalf("%d bytes of %d kinds: %v", length, kinds, err)
			}
		}
	}
}

// P12.2

func TestNoRoomBelowNought(t *testing.T) {
	whole := rightHead + aDeflated + aSum
	for _, most := range []int{-1, -2, -256, math.MinInt32, math.MinInt} {
		for cut := range len(whole) + 1 {
			check(t, whole[:cut], most, "", api.ErrArg)
		}
		for _, s := range []string{"\x00", "\x00\x00", "\x78\x01\x07", whole + "x", rightHead + aDeflated + "\x00\x00\x00\x00"} {
			check(t, s, most, "", api.ErrArg)
		}
	}
}

func TestFewerThanTwoBytes(t *testing.T) {
	for _, most := range []int{0, 1, room, math.MaxInt} {
		check(t, "", most, "", api.ErrShort)
		for first := range 256 {
			check(t, string([]byte{byte(first)}), most, "", api.ErrShort)
		}
	}
}

func TestAllHeads(t *testing.T) {
	right := 0
	for first := range 256 {
		for second := range 256 {
			head := string([]byte{byte(first), byte(second)})
			if headMay(byte(first), byte(second)) {
				right++
				check(t, head+aDeflated+aSum, 1, "a", api.OK)
				check(t, head, 1, "", api.ErrShort)
				continue
			}
			// It is told ahead of all that is wrong behind it.
			check(t, head+aDeflated+aSum, 1, "", api.ErrForm)
			check(t, head, 1, "", api.ErrForm)
			check(t, head+aDeflated, 1, "", api.ErrForm)
			check(t, head+aDeflated+aSum, 0, "", api.ErrForm)
			check(t, head+"\x03\x02\x00", 1, "", api.ErrForm)
			check(t, head+aDeflated+"\x00\x62\x00\x63", 1, "", api.ErrForm)
		}
	}
	// Of each of the 8 first bytes 4 second ones have the bit off and make the number right.
	if right != 32 {
		t.Errorf("%d heads are right", right)
	}
}

func TestHeadsByWhatIsWrong(t *testing.T) {
	for head, code := range map[string]api.Errno{
		"\x08\x1d": api.OK,      // the least first byte
		"\x78\x01": api.OK,      // the greatest one
		"\x78\x5e": api.OK,      // other second bytes
		"\x78\x9c": api.OK,      //
		"\x78\xda": api.OK,      //
		"\x79\x19": api.ErrForm, // the 4 lowest bits alone are wrong
		"\x77\x16": api.ErrForm, //
		"\x70\x13": api.ErrForm, //
		"\x88\x1c": api.ErrForm, // the 4 highest bits alone are wrong
		"\xf8\x12": api.ErrForm, //
		"\x78\x00": api.ErrForm, // the number alone is wrong
		"\x78\x02": api.ErrForm, //
		"\x01\x78": api.ErrForm, // the other one is ahead
		"\x78\x20": api.ErrForm, // the bit alone is on
		"\x78\xf9": api.ErrForm, //
		"\x78\xbb": api.ErrForm, //
		"\x00\x00": api.ErrForm,
	} {
		want := ""
		if code == api.OK {
			want = "a"
		}
		check(t, head+aDeflated+aSum, room, want, code)
	}
}

func TestInflatesErrors(t *testing.T) {
	for deflated, code := range map[string]api.Errno{
		"":                        api.ErrShort, // no bits at all
		"\x4b":                    api.ErrShort,
		"\x4b\x04":                api.ErrShort, // the end lacks
		"\x01\x05\x00\xfa\xff":    api.ErrShort, // stored bytes lack
		"\x07":                    api.ErrForm,  // a kind that is none
		"\x01\x01\x00\x01\x00":    api.ErrForm,  // the other half of a length
		"\x03\x02\x00":            api.ErrRange, // a distance beyond the first byte
		"\x01\x03\x00\xfc\xffabc": api.ErrBig,
		"\x4b\x4c\x4a\x06\x00":    api.ErrBig,
	} {
		check(t, rightHead+deflated, 2, "", code)
		if _, _, met := inflate.Inflate(deflated, 2); met != code {
			t.Errorf("%q: %d by Inflate", deflated, met)
		}
		if code == api.ErrShort {
			continue
		}
		// It is told ahead of what is wrong with the sum, and of what is behind.
		for _, behind := range []string{"\x00", "\x00\x00\x00\x00", aSum, aSum + "x"} {
			check(t, rightHead+deflated+behind, 2, "", code)
		}
	}
}

func TestAsMuchRoom(t *testing.T) {
	for _, s := range []string{"a", "abc", "aaaaaaaaa", strings.Repeat("ab", 200), some(newRandom(5), 300, 256)} {
		wrapped := zwrap.Wrap(s)
		for most := range len(s) {
			check(t, wrapped, most, "", api.ErrBig)
			check(t, wrapped[:len(wrapped)-1], most, "", api.ErrBig)
			check(t, wrapped[:len(wrapped)-4]+"\x00\x00\x00\x00", most, "", api.ErrBig)
			check(t, wrapped+"x", most, "", api.ErrBig)
		}
		for _, most := range []int{len(s), len(s) + 1, room, math.MaxInt} {
			check(t, wrapped, most, s, api.OK)
		}
	}
	for _, most := range []int{0, 1, math.MaxInt} {
		check(t, "\x78\x01\x03\x00\x00\x00\x00\x01", most, "", api.OK)
	}
}

func TestTheSumLacks(t *testing.T) {
	// However few bytes there are, and whatever they are.
	for _, sum := range []string{aSum, "\x00\x00\x00\x00", "\xff\xff\xff\xff", "\x62\x00\x62\x00"} {
		for cut := range 4 {
			check(t, rightHead+aDeflated+sum[:cut], 1, "", api.ErrShort)
			check(t, rightHead+aDeflated+sum[:cut], room, "", api.ErrShort)
		}
	}
}

func TestTheSumIsAnotherOne(t *testing.T) {
	for place := range 4 {
		for c := range 256 {
			sum := []byte(aSum)
			if sum[place] == byte(c) {
				continue
			}
			sum[place] = byte(c)
			check(t, rightHead+aDeflated+string(sum), 1, "", api.ErrSum)
			// It is told ahead of what is behind.
			check(t, rightHead+aDeflated+string(sum)+"x", 1, "", api.ErrSum)
			check(t, rightHead+aDeflated+string(sum)+aSum, 1, "", api.ErrSum)
		}
	}
	for _, sum := range []string{
		"\x62\x00\x62\x00", // the lowest byte ahead
		"\x00\x61\x00\x61", // begun with 0
		"\x00\x00\x00\x01", // of nothing
		sumOf("b"),
	} {
		check(t, rightHead+aDeflated+sum, 1, "", api.ErrSum)
	}
}

func TestTheSumIsOfWhatCameOut(t *testing.T) {
	check(t, rightHead+aDeflated+sumOf(aDeflated), 1, "", api.ErrSum)
	check(t, rightHead+aDeflated+sumOf(rightHead+aDeflated), 1, "", api.ErrSum)
	// However the bytes were deflated.
	for _, s := range []string{"", "a", "abcabcabc", strings.Repeat("\xff", 70000)} {
		for _, deflated := range []string{squeeze.Stored(s), squeeze.Fixed(s), "\x00\x00\x00\xff\xff" + squeeze.Stored(s)} {
			check(t, rightHead+deflated+sumOf(s), len(s), s, api.OK)
			check(t, rightHead+deflated+sumOf(s+"x"), len(s), "", api.ErrSum)
		}
	}
}

func TestTheSumStandsAtAWholeByte(t *testing.T) {
	// The bits that fill up the last deflated byte may be anything: behind the end of an a 5 bits are left.
	for filling := range 1 << 5 {
		last := string([]byte{byte(filling << 3)})
		out, read, code := inflate.Inflate("\x4b\x04"+last, 1)
		if out != "a" || read != 3 || code != api.OK {
			t.Fatalf("%q, %d, %d", out, read, code)
		}
		check(t, rightHead+"\x4b\x04"+last+aSum, 1, "a", api.OK)
	}
}

func TestSumsWithEachHighestByte(t *testing.T) {
	met := map[byte]bool{}
	for _, kinds := range []int{2, 100, 256} {
		s := some(newRandom(6), 6000, kinds)
		for length := 0; length <= len(s); length += 7 {
			piece := s[:length]
			met[sumOf(piece)[0]] = true
			check(t, rightHead+squeeze.Stored(piece)+sumOf(piece), length, piece, api.OK)
		}
	}
	if len(met) < 250 {
		t.Errorf("%d highest bytes alone", len(met))
	}
}

func TestAnythingBehind(t *testing.T) {
	whole := rightHead + aDeflated + aSum
	for c := range 256 {
		check(t, whole+string([]byte{byte(c)}), 1, "", api.ErrForm)
	}
	for _, behind := range []string{"\x00\x00", "\n\n\n", "\x00\x00\x00\x00", whole, strings.Repeat(" ", 100000)} {
		check(t, whole+behind, room, "", api.ErrForm)
	}
}

func TestCutOffAnywhere(t *testing.T) {
	for _, s := range []string{"", "a", "abcabcabcabc", strings.Repeat("z", 1000), some(newRandom(7), 500, 256)} {
		wrapped := zwrap.Wrap(s)
		for cut := range len(wrapped) {
			check(t, wrapped[:cut], len(s), "", api.ErrShort)
		}
	}
}

func TestWrappedByTheLibrary(t *testing.T) {
	r := newRandom(8)
	for _, level := range []int{flate.HuffmanOnly, flate.DefaultCompression, 0, 1, 5, 9} {
		for _, length := range []int{0, 1, 2, 100, 5000, 100000} {
			s := some(r, length, 1+r.IntN(256))
			var wrapped bytes.Buffer
			w, err := zlib.NewWriterLevel(&wrapped, level)
			if err != nil {
				t.Fatal(err)
			}
			w.Write([]byte(s))
			w.Close()
			check(t, wrapped.String(), len(s), s, api.OK)
			check(t, wrapped.String()+"\x00", len(s), "", api.ErrForm)
		}
	}
	// Bytes that are known ahead are known to nobody here.
	var wrapped bytes.Buffer
	w, err := zlib.NewWriterLevelDict(&wrapped, 9, []byte("known"))
	if err != nil {
		t.Fatal(err)
	}
	w.Write([]byte("a"))
	w.Close()
	check(t, wrapped.String(), room, "", api.ErrForm)
}

func TestEachByteAtEachPlace(t *testing.T) {
	for _, s := range []string{"", "a", "ab", "aaaa", "abcabcabc"} {
		wrapped := zwrap.Wrap(s)
		for place := range len(wrapped) {
			for c := range 256 {
				other := []byte(wrapped)
				other[place] = byte(c)
				more := slices.Insert([]byte(wrapped), place, byte(c))
				for _, most := range []int{0, len(s), room} {
					checkAgain(t, string(other), most)
					checkAgain(t, string(more), most)
				}
			}
			fewer := wrapped[:place] + wrapped[place+1:]
			checkAgain(t, fewer, len(s))
			checkAgain(t, fewer, room)
		}
	}
}

func TestAnyBytes(t *testing.T) {
	r := newRandom(9)
	for range 20000 {
		s := some(r, r.IntN(12), 256)
		for _, most := range []int{-1, 0, 3, room} {
			checkAgain(t, s, most)
			checkAgain(t, rightHead+s, most)
			checkAgain(t, rightHead+aDeflated+s, most)
		}
	}
}

// P12.3

func TestWhatIsWrappedIsUnwrapped(t *testing.T) {
	r := newRandom(10)
	for range 1000 {
		s := some(r, r.IntN(2000), 1+r.IntN(256))
		check(t, zwrap.Wrap(s), len(s), s, api.OK)
		check(t, zwrap.Wrap(zwrap.Wrap(s)), room, zwrap.Wrap(s), api.OK)
	}
}

func TestABitOfTheSumIsTurned(t *testing.T) {
	r := newRandom(11)
	for range 300 {
		s := some(r, r.IntN(500), 1+r.IntN(256))
		wrapped := zwrap.Wrap(s)
		for bit := range 32 {
			other := []byte(wrapped)
			other[len(other)-4+bit/8] ^= 1 << (bit % 8)
			check(t, string(other), len(s), "", api.ErrSum)
		}
	}
}

func TestAByteOfTheSumIsAnotherOne(t *testing.T) {
	for _, s := range []string{"", "abc", strings.Repeat("\xfe", 3000)} {
		wrapped := zwrap.Wrap(s)
		for place := len(wrapped) - 4; place < len(wrapped); place++ {
			for turned := 1; turned < 256; turned++ {
				other := []byte(wrapped)
				other[place] ^= byte(turned)
				check(t, string(other), len(s), "", api.ErrSum)
			}
		}
	}
}

func TestCallsKnowNothingOfOneAnother(t *testing.T) {
	for range 3 {
		check(t, rightHead+aDeflated+aSum+"x", 1, "", api.ErrForm)
		check(t, rightHead+aDeflated+aSum, 1, "a", api.OK)
		check(t, rightHead, 1, "", api.ErrShort)
		checkWrap(t, "", "\x78\x01\x03\x00\x00\x00\x00\x01")
		checkWrap(t, "a", rightHead+aDeflated+aSum)
	}
}

package coat_test

import (
	"bytes"
	"compress/zlib"
	"encoding/hex"
	"io"
	"math"
	"math/rand/v2"
	"slices"
	"strings"
	"testing"
	"unsafe"

	"bindery/api"
	"bindery/coat"
	"bindery/hexa"
	"bindery/predict"
	"bindery/runs"
	"bindery/squeeze"
	"bindery/zwrap"
)

// The names, as the document says them.
const (
	hexName     = "ASCIIHexDecode"
	runsName    = "RunLengthDecode"
	deflateName = "FlateDecode"
)

// mostData is how many bytes there may be at most.
const mostData = 1 << 20

func newRandom(seed uint64) *rand.Rand { return rand.New(rand.NewPCG(seed, 14)) }

// some tells bytes by chance, of so many kinds.
func some(r *rand.Rand, length, kinds int) string {
	s := make([]byte, length)
	for i := range s {
		s[i] = byte(r.IntN(kinds))
	}
	return string(s)
}

// lists are all lists of names of so many kinds, of at most so many of them, the shorter ahead.
func lists(kinds []string, most int) [][]string {
	all := [][]string{nil}
	begin := 0
	for range most {
		end := len(all)
		for _, shorter := range all[begin:end] {
			for _, name := range kinds {
				all = append(all, append(slices.Clone(shorter), name))
			}
		}
		begin = end
	}
	return all
}

// rightLists are all lists of names that may be, without columns.
func rightLists() [][]string { return lists([]string{hexName, runsName, deflateName}, 4) }

// wrongNames are names that are no filter's.
func wrongNames() []string {
	names := []string{
		"", " ", "\x00", "/", "Hex", "Runs", "Deflate", "hex", "LZWDecode", "ASCII85Decode", "Crypt", "DCTDecode",
		"RunLength Decode", "RunLengthEncode", "FlateEncode", "ASCIIHexEncode", "ASCIIHexDecodeFlateDecode", "FlateDecode FlateDecode",
		strings.Repeat("FlateDecode", 100000),
	}
	for _, right := range []string{hexName, runsName, deflateName} {
		names = append(names, strings.ToLower(right), strings.ToUpper(right), "/"+right, " "+right, right+" ", right+"\x00", right+"\n", right+right[:1], strings.TrimSuffix(right, "Decode"))
		for cut := range right {
			names = append(names, right[:cut], right[:cut]+right[cut+1:], right[:cut]+"z"+right[cut+1:], right[:cut]+string(right[cut]^32)+right[cut+1:])
			if cut > 0 {
				names = append(names, right[cut:])
			}
		}
	}
	return names
}

// wrongColumns are numbers that columns can't be.
func wrongColumns() []int {
	return []int{-1, 257, -2, 258, -255, -256, -257, 511, 512, 513, 1 << 20, 1 << 32, 1<<32 + 1, math.MinInt, math.MinInt + 1, math.MinInt32, math.MaxInt, math.MaxInt - 1, math.MaxInt32}
}

// checkAgain is a second telling of P14.1.
func checkAgain(names []string, columns int) api.Errno {
	if !(0 <= columns && columns <= 256) {
		return api.ErrArg
	}
	if len(names) >= 5 {
		return api.ErrFilter
	}
	last := ""
	for _, name := range names {
		switch name {
		case hexName, runsName, deflateName:
			last = name
		default:
			return api.ErrFilter
		}
	}
	if columns > 0 && last != deflateName {
		return api.ErrFilter
	}
	return api.OK
}

// encodeOne tells what a name does to bytes that are encoded.
func encodeOne(name, s string) string {
	switch name {
	case hexName:
		return hexa.Encode(s)
	case runsName:
		return runs.Encode(s)
	}
	return zwrap.Wrap(s)
}

// encodeAgain is a second telling of P14.2.
func encodeAgain(names []string, columns int, s string) (string, api.Errno) {
	if code := checkAgain(names, columns); code != api.OK {
		return "", code
	}
	if len(s) > 1048576 {
		return "", api.ErrBig
	}
	if columns > 0 {
		told, code := predict.Encode(s, columns)
		if code != api.OK {
			return "", code
		}
		s = told
	}
	for i := len(names) - 1; i >= 0; i-- {
		s = encodeOne(names[i], s)
	}
	return s, api.OK
}

// decodeOne tells what a name does to bytes that are decoded.
func decodeOne(name, s string, most int) (string, api.Errno) {
	switch name {
	case hexName:
		return hexa.Decode(s)
	case runsName:
		return runs.Decode(s, 1024+16*most)
	}
	return zwrap.Unwrap(s, 1024+16*most)
}

// decodeAgain is a second telling of P14.3.
func decodeAgain(names []string, columns int, s string, most int) (string, api.Errno) {
	if code := checkAgain(names, columns); code != api.OK {
		return "", code
	}
	if !(0 <= most && most <= 1048576) {
		return "", api.ErrArg
	}
	for _, name := range names {
		told, code := decodeOne(name, s, most)
		if code != api.OK {
			return "", code
		}
		s = told
	}
	if columns > 0 {
		told, code := predict.Decode(s, columns)
		if code != api.OK {
			return "", code
		}
		s = told
	}
	if len(s) > most {
		return "", api.ErrBig
	}
	return s, api.OK
}

// checkCheck asks Check, and wants this answer.
func checkCheck(t *testing.T, names []string, columns int, want api.Errno) {
	t.Helper()
	if got := coat.Check(names, columns); got != want {
		t.Fatalf("%.99q in %d columns: %d, wanted %d", names, columns, got, want)
	}
}

// checkEncode asks Encode, and wants this answer.
func checkEncode(t *testing.T, names []string, columns int, s, want string, code api.Errno) {
	t.Helper()
	if got, c := coat.Encode(names, columns, s); got != want || c != code {
		t.Fatalf("%.99q in %d columns of %.60q (%d bytes): %.60q (%d bytes), %d; wanted %.60q (%d bytes), %d", names, columns, s, len(s), got, len(got), c, want, len(want), code)
	}
}

// checkEncodeAgain asks Encode, and wants what the second telling answers.
func checkEncodeAgain(t *testing.T, names []string, columns int, s string) {
	t.Helper()
	want, code := encodeAgain(names, columns, s)
	checkEncode(t, names, columns, s, want, code)
}

// checkDecode asks Decode, and wants this answer.
func checkDecode(t *testing.T, names []string, columns int, s string, most int, want string, code api.Errno) {
	t.Helper()
	if got, c := coat.Decode(names, columns, s, most); got != want || c != code {
		t.Fatalf("%.99q in %d columns of %.60q (%d bytes), at most %d: %.60q (%d bytes), %d; wanted %.60q (%d bytes), %d", names, columns, s, len(s), most, got, len(got), c, want, len(want), code)
	}
}

// checkDecodeAgain asks Decode, and wants what the second telling answers.
func checkDecodeAgain(t *testing.T, names []string, columns int, s string, most int) {
	t.Helper()
	want, code := decodeAgain(names, columns, s, most)
	checkDecode(t, names, columns, s, most, want, code)
}

// checkThereAndBack wants that what is encoded is decoded in just as much room, and in more, and not in less.
func checkThereAndBack(t *testing.T, names []string, columns int, s string) {
	t.Helper()
	coded, code := coat.Encode(names, columns, s)
	if code != api.OK {
		t.Fatalf("%q in %d columns of %.60q (%d bytes): %d", names, columns, s, len(s), code)
	}
	checkDecode(t, names, columns, coded, len(s), s, api.OK)
	if len(s) < mostData {
		checkDecode(t, names, columns, coded, len(s)+1, s, api.OK)
		checkDecode(t, names, columns, coded, mostData, s, api.OK)
	}
	if s != "" {
		checkDecode(t, names, columns, coded, len(s)-1, "", api.ErrBig)
	}
}

// storedIn wraps bytes as they are.
func storedIn(s string) string {
	wrapped := zwrap.Wrap(s)
	return wrapped[:2] + squeeze.Stored(s) + wrapped[len(wrapped)-4:]
}

// padded tells an A by digits, in so many bytes.
func padded(length int) string { return "41" + strings.Repeat(" ", length-3) + ">" }

// P14.1

func TestNames(t *testing.T) {
	if coat.Hex != hexName || coat.Runs != runsName || coat.Deflate != deflateName || coat.Many != 4 {
		t.Fatal(coat.Hex, coat.Runs, coat.Deflate, coat.Many)
	}
}

func TestCheckOfEachList(t *testing.T) {
	right := 0
	for _, names := range lists([]string{hexName, runsName, deflateName, "x"}, 6) {
		for _, columns := range []int{-1, 0, 1, 2, 255, 256, 257} {
			checkCheck(t, names, columns, checkAgain(names, columns))
			if checkAgain(names, columns) == api.OK {
				right++
			}
		}
	}
	// 121 lists of up to 4 names without columns, and 40 of them that end with Deflate, in 4 widths.
	if right != 121+4*40 {
		t.Errorf("%d are right", right)
	}
}

func TestCheckOfKnownLists(t *testing.T) {
	checkCheck(t, nil, 0, api.OK)
	checkCheck(t, []string{}, 0, api.OK)
	checkCheck(t, []string{hexName}, 0, api.OK)
	checkCheck(t, []string{runsName}, 0, api.OK)
	checkCheck(t, []string{deflateName}, 0, api.OK)
	checkCheck(t, []string{deflateName}, 1, api.OK)
	checkCheck(t, []string{hexName, deflateName}, 256, api.OK)
	checkCheck(t, []string{hexName, runsName, deflateName, deflateName}, 7, api.OK)
	checkCheck(t, []string{hexName, hexName, hexName, hexName}, 0, api.OK)
	checkCheck(t, []string{hexName, hexName, hexName, hexName, hexName}, 0, api.ErrFilter)
	checkCheck(t, []string{deflateName, deflateName, deflateName, deflateName, deflateName}, 1, api.ErrFilter)
	checkCheck(t, nil, 1, api.ErrFilter)
	checkCheck(t, []string{}, 256, api.ErrFilter)
	checkCheck(t, []string{deflateName, hexName}, 1, api.ErrFilter)
	checkCheck(t, []string{deflateName, runsName}, 1, api.ErrFilter)
	checkCheck(t, []string{hexName}, 256, api.ErrFilter)
	checkCheck(t, []string{runsName}, 2, api.ErrFilter)
}

func TestCheckOfManyNames(t *testing.T) {
	for many := range 300 {
		for _, name := range []string{hexName, runsName, deflateName} {
			want := api.OK
			if many > 4 {
				want = api.ErrFilter
			}
			checkCheck(t, slices.Repeat([]string{name}, many), 0, want)
		}
	}
	checkCheck(t, make([]string, 1<<20), 0, api.ErrFilter)
	checkCheck(t, slices.Repeat([]string{deflateName}, 1<<20), 1, api.ErrFilter)
	// Of a list its length alone counts.
	checkCheck(t, slices.Repeat([]string{deflateName}, 9)[:4], 1, api.OK)
	checkCheck(t, []string{deflateName, "x"}[:1], 1, api.OK)
}

func TestCheckInAnyColumns(t *testing.T) {
	for columns := -1000; columns <= 1000; columns++ {
		for _, names := range [][]string{nil, {hexName}, {deflateName}, {hexName, deflateName}, {deflateName, runsName}, {"x"}} {
			checkCheck(t, names, columns, checkAgain(names, columns))
		}
	}
}

func TestCheckInWrongColumns(t *testing.T) {
	for _, columns := range wrongColumns() {
		for _, names := range lists([]string{hexName, runsName, deflateName, "x", ""}, 3) {
			checkCheck(t, names, columns, api.ErrArg)
		}
		checkCheck(t, slices.Repeat([]string{deflateName}, 5), columns, api.ErrArg)
		checkCheck(t, slices.Repeat([]string{"x"}, 5), columns, api.ErrArg)
	}
}

func TestCheckOfWrongNames(t *testing.T) {
	for _, wrong := range wrongNames() {
		if wrong == hexName || wrong == runsName || wrong == deflateName {
			t.Fatal(wrong)
		}
		for _, columns := range []int{0, 1, 256} {
			checkCheck(t, []string{wrong}, columns, api.ErrFilter)
			checkCheck(t, []string{wrong, deflateName}, columns, api.ErrFilter)
			checkCheck(t, []string{deflateName, wrong}, columns, api.ErrFilter)
			for place := range 4 {
				names := slices.Repeat([]string{deflateName}, 4)
				names[place] = wrong
				checkCheck(t, names, columns, api.ErrFilter)
			}
		}
	}
}

// P14.2

func TestExamples(t *testing.T) {
	checkEncode(t, []string{hexName, runsName}, 0, "aaa", "FE6180>", api.OK)
	checkDecode(t, []string{hexName, runsName}, 0, "FE6180>", 3, "aaa", api.OK)
}

func TestEncodeOfKnownTexts(t *testing.T) {
	checkEncode(t, nil, 0, "", "", api.OK)
	checkEncode(t, nil, 0, "as it is", "as it is", api.OK)
	checkEncode(t, []string{hexName}, 0, "", ">", api.OK)
	checkEncode(t, []string{hexName}, 0, "A\x0f", "410F>", api.OK)
	checkEncode(t, []string{runsName}, 0, "", "\x80", api.OK)
	checkEncode(t, []string{runsName}, 0, "abbbbc", "\x00a\xfdb\x00c\x80", api.OK)
	checkEncode(t, []string{deflateName}, 0, "", "\x78\x01\x03\x00\x00\x00\x00\x01", api.OK)
	checkEncode(t, []string{deflateName}, 0, "a", "\x78\x01\x4b\x04\x00\x00\x62\x00\x62", api.OK)
	// The last name goes first.
	checkEncode(t, []string{runsName, hexName}, 0, "aaa", "\x06616161>\x80", api.OK)
	checkEncode(t, []string{hexName, deflateName}, 0, "a", "78014B040000620062>", api.OK)
	checkEncode(t, []string{hexName, hexName}, 0, "a", "36313E>", api.OK)
	checkEncode(t, []string{runsName, runsName}, 0, "aaa", "\x02\xfea\x80\x80", api.OK)
	checkEncode(t, []string{hexName, runsName, hexName}, 0, "a", "0236313E80>", api.OK)
	checkEncode(t, []string{hexName, hexName, runsName, hexName}, 0, "a", "303233363331334538303E>", api.OK)
}

func TestEncodeInKnownColumns(t *testing.T) {
	// Rows go ahead of all names: 2 1 2, 2 2 3.
	rows := "\x02\x01\x02\x02\x02\x03"
	checkEncode(t, []string{deflateName}, 2, "\x01\x02\x03\x05", zwrap.Wrap(rows), api.OK)
	checkEncode(t, []string{hexName, deflateName}, 2, "\x01\x02\x03\x05", strings.ToUpper(hex.EncodeToString([]byte(zwrap.Wrap(rows))))+">", api.OK)
	checkEncode(t, []string{deflateName}, 1, "ab", zwrap.Wrap("\x02a\x02\x01"), api.OK)
	checkEncode(t, []string{deflateName}, 256, "", zwrap.Wrap(""), api.OK)
	checkEncode(t, []string{deflateName, deflateName}, 4, "abcd", zwrap.Wrap(zwrap.Wrap("\x02abcd")), api.OK)
}

func TestEncodeByEachList(t *testing.T) {
	r := newRandom(1)
	for _, names := range rightLists() {
		for _, length := range []int{0, 1, 2, 3, 10, 130, 300} {
			for _, kinds := range []int{1, 2, 256} {
				s := some(r, length, kinds)
				checkEncodeAgain(t, names, 0, s)
				for _, columns := range []int{1, 2, 3, 10, 255, 256} {
					checkEncodeAgain(t, names, columns, s)
				}
			}
		}
	}
}

func TestEncodeOfEachByte(t *testing.T) {
	for c := range 256 {
		s := string([]byte{byte(c)})
		checkEncode(t, nil, 0, s, s, api.OK)
		checkEncode(t, []string{hexName}, 0, s, strings.ToUpper(hex.EncodeToString([]byte(s)))+">", api.OK)
		checkEncode(t, []string{runsName}, 0, s+s+s, "\xfe"+s+"\x80", api.OK)
	}
}

func TestEncodeIsReadByTheLibrary(t *testing.T) {
	r := newRandom(2)
	for _, length := range []int{0, 1, 100, 5000} {
		s := some(r, length, 30)
		coded, code := coat.Encode([]string{hexName, deflateName}, 0, s)
		if code != api.OK || !strings.HasSuffix(coded, ">") {
			t.Fatalf("%q, %d", coded, code)
		}
		wrapped, err := hex.DecodeString(coded[:len(coded)-1])
		if err != nil {
			t.Fatal(err)
		}
		reader, err := zlib.NewReader(bytes.NewReader(wrapped))
		if err != nil {
			t.Fatal(err)
		}
		if got, err := io.ReadAll(reader); err != nil || string(got) != s {
			t.Fatalf("%d bytes: %v", length, err)
		}
	}
}

func TestEncodeTellsChecksError(t *testing.T) {
	tooMany := strings.Repeat("a", mostData+1)
	for _, names := range lists([]string{hexName, runsName, deflateName, "x"}, 5) {
		for _, columns := range []int{-1, 0, 3, 257} {
			code := checkAgain(names, columns)
			if code == api.OK {
				continue
			}
			// It is told ahead of what is wrong with the bytes.
			checkEncode(t, names, columns, "", "", code)
			checkEncode(t, names, columns, "abc", "", code)
			checkEncode(t, names, columns, "ab", "", code)
			checkEncode(t, names, columns, tooMany, "", code)
		}
	}
	for _, columns := range wrongColumns() {
		checkEncode(t, []string{deflateName}, columns, "abc", "", api.ErrArg)
		checkEncode(t, []string{"x"}, columns, tooMany, "", api.ErrArg)
	}
	for _, wrong := range wrongNames() {
		checkEncode(t, []string{wrong}, 0, "abc", "", api.ErrFilter)
		checkEncode(t, []string{hexName, wrong}, 0, "abc", "", api.ErrFilter)
	}
}

func TestEncodeOfTooManyBytes(t *testing.T) {
	all := strings.Repeat("a", mostData)
	checkEncode(t, nil, 0, all, all, api.OK)
	checkEncodeAgain(t, []string{hexName}, 0, all)
	checkEncodeAgain(t, []string{runsName}, 0, all)
	checkEncodeAgain(t, []string{deflateName}, 0, all)
	checkEncodeAgain(t, []string{deflateName}, 1, all)
	checkEncodeAgain(t, []string{deflateName}, 256, all)
	for _, more := range []int{1, 2, 100, mostData} {
		s := all + all[:more]
		for _, names := range rightLists() {
			checkEncode(t, names, 0, s, "", api.ErrBig)
			if checkAgain(names, 3) == api.OK {
				// It is told ahead of what is wrong with rows, too.
				checkEncode(t, names, 1, s, "", api.ErrBig)
				checkEncode(t, names, 3, s, "", api.ErrBig)
				checkEncode(t, names, 256, s, "", api.ErrBig)
			}
		}
	}
	// Between filters there may be more.
	coded, code := coat.Encode([]string{hexName, hexName, hexName, hexName}, 0, all)
	if len(coded) != 16*mostData+15 || code != api.OK {
		t.Fatal(len(coded), code)
	}
}

func TestEncodeOfNoWholeRows(t *testing.T) {
	r := newRandom(3)
	for _, names := range [][]string{{deflateName}, {hexName, deflateName}, {runsName, hexName, deflateName, deflateName}} {
		for _, columns := range []int{1, 2, 3, 16, 255, 256} {
			s := some(r, 2*columns+1, 256)
			for length := range s {
				if length%columns == 0 {
					checkEncodeAgain(t, names, columns, s[:length])
					continue
				}
				checkEncode(t, names, columns, s[:length], "", api.ErrForm)
			}
		}
		checkEncode(t, names, 3, strings.Repeat("a", mostData), "", api.ErrForm)
	}
}

// P14.3

func TestDecodeOfKnownTexts(t *testing.T) {
	checkDecode(t, nil, 0, "", 0, "", api.OK)
	checkDecode(t, nil, 0, "as it is", 8, "as it is", api.OK)
	checkDecode(t, []string{hexName}, 0, ">", 0, "", api.OK)
	checkDecode(t, []string{hexName}, 0, "41 f>", 2, "A\xf0", api.OK)
	checkDecode(t, []string{runsName}, 0, "\x80", 0, "", api.OK)
	checkDecode(t, []string{runsName}, 0, "\xffa\x01bc\x80", 4, "aabc", api.OK)
	checkDecode(t, []string{deflateName}, 0, "\x78\x01\x4b\x04\x00\x00\x62\x00\x62", 1, "a", api.OK)
	checkDecode(t, []string{deflateName}, 0, storedIn("abc"), 3, "abc", api.OK)
	// The first name goes first.
	checkDecode(t, []string{runsName, hexName}, 0, "\x04 61 >\x80", 1, "a", api.OK)
	checkDecode(t, []string{hexName, deflateName}, 0, "78014B040000620062>", 1, "a", api.OK)
	checkDecode(t, []string{hexName, hexName}, 0, "36313E>", 1, "a", api.OK)
	checkDecode(t, []string{hexName, hexName, runsName, hexName}, 0, "303233363331334538303E>", 1, "a", api.OK)
	// In the other order they are something else.
	checkDecode(t, []string{hexName, runsName}, 0, "\x04 61 >\x80", 1, "", api.ErrForm)
	checkDecode(t, []string{runsName, hexName}, 0, "FE6180>", 3, "", api.ErrShort)
}

func TestDecodeInKnownColumns(t *testing.T) {
	checkDecode(t, []string{deflateName}, 2, zwrap.Wrap("\x02\x01\x02\x02\x02\x03"), 4, "\x01\x02\x03\x05", api.OK)
	checkDecode(t, []string{deflateName}, 2, storedIn("\x01\x01\x02\x04\x01\x01"), 4, "\x01\x03\x02\x04", api.OK)
	checkDecode(t, []string{deflateName}, 1, zwrap.Wrap(""), 0, "", api.OK)
	checkDecode(t, []string{runsName, deflateName}, 4, runs.Encode(zwrap.Wrap("\x00abcd")), 4, "abcd", api.OK)
	// Without columns they are no rows.
	checkDecode(t, []string{deflateName}, 0, zwrap.Wrap("\x02\x01\x02\x02\x02\x03"), 6, "\x02\x01\x02\x02\x02\x03", api.OK)
}

func TestDecodeTellsChecksError(t *testing.T) {
	for _, names := range lists([]string{hexName, runsName, deflateName, "x"}, 5) {
		for _, columns := range []int{-1, 0, 3, 257} {
			code := checkAgain(names, columns)
			if code == api.OK {
				continue
			}
			// It is told ahead of a room that is none, and of what is wrong with the bytes.
			for _, most := range []int{-1, 0, 1, mostData, mostData + 1} {
				checkDecode(t, names, columns, "", most, "", code)
				checkDecode(t, names, columns, "abc", most, "", code)
			}
		}
	}
	for _, columns := range wrongColumns() {
		checkDecode(t, []string{"x"}, columns, "", -1, "", api.ErrArg)
	}
	for _, wrong := range wrongNames() {
		for _, most := range []int{-1, 3, mostData + 1} {
			checkDecode(t, []string{wrong}, 0, "abc", most, "", api.ErrFilter)
			checkDecode(t, []string{hexName, wrong}, 0, "!", most, "", api.ErrFilter)
		}
	}
}

func TestDecodeInNoRoom(t *testing.T) {
	for _, most := range []int{-1, -2, -64, -65, mostData + 1, mostData + 2, 2 * mostData, math.MinInt, math.MinInt + 1, math.MinInt32, math.MaxInt, math.MaxInt32, 1 << 32, 1<<60 + 1, 1 << 62} {
		for _, names := range rightLists() {
			for _, s := range []string{"", "!", ">", "\x80", zwrap.Wrap("")} {
				checkDecode(t, names, 0, s, most, "", api.ErrArg)
			}
		}
		checkDecode(t, []string{deflateName}, 2, zwrap.Wrap("\x02ab"), most, "", api.ErrArg)
		checkDecode(t, []string{deflateName}, 2, "\x05", most, "", api.ErrArg)
	}
}

func TestDecodeInAllRoom(t *testing.T) {
	all := some(newRandom(4), mostData, 256)
	for _, names := range [][]string{nil, {hexName}, {runsName}, {deflateName}, {hexName, hexName, hexName, hexName}} {
		coded, code := coat.Encode(names, 0, all)
		if code != api.OK {
			t.Fatal(code)
		}
		checkDecode(t, names, 0, coded, mostData, all, api.OK)
		checkDecode(t, names, 0, coded, mostData-1, "", api.ErrBig)
	}
	checkDecode(t, nil, 0, all+"x", mostData, "", api.ErrBig)
	checkDecode(t, []string{hexName}, 0, hexa.Encode(all+"x"), mostData, "", api.ErrBig)
	checkDecode(t, []string{runsName}, 0, runs.Encode(all+"x"), mostData, "", api.ErrBig)
	checkDecode(t, []string{deflateName}, 0, storedIn(all+"x"), mostData, "", api.ErrBig)
}

func TestDecodeOfTooManyBytes(t *testing.T) {
	for most := range 40 {
		for length := range 60 {
			s := strings.Repeat("ab", 30)[:length]
			want, code := s, api.OK
			if length > most {
				want, code = "", api.ErrBig
			}
			checkDecode(t, nil, 0, s, most, want, code)
			checkDecode(t, []string{hexName}, 0, hexa.Encode(s), most, want, code)
			checkDecode(t, []string{runsName}, 0, runs.Encode(s), most, want, code)
			checkDecode(t, []string{deflateName}, 0, zwrap.Wrap(s), most, want, code)
			rows, _ := predict.Encode(s, 1)
			checkDecode(t, []string{deflateName}, 1, zwrap.Wrap(rows), most, want, code)
		}
	}
}

// TestDecodeTellsTheFirstError: each filter's own errors, at each place among others.
func TestDecodeTellsTheFirstError(t *testing.T) {
	wrong := []struct {
		name, s string
		code    api.Errno
	}{
		{hexName, "", api.ErrShort},
		{hexName, "41", api.ErrShort},
		{hexName, "4!", api.ErrForm},
		{hexName, "41>x", api.ErrForm},
		{runsName, "", api.ErrShort},
		{runsName, "\x05abc", api.ErrShort},
		{runsName, "\x80\x80", api.ErrForm},
		{deflateName, "", api.ErrShort},
		{deflateName, "\x78\x02", api.ErrForm},
		{deflateName, "\x78\x01\x03\x02\x00", api.ErrRange},
		{deflateName, "\x78\x01\x4b\x04\x00\x00\x62\x00\x63", api.ErrSum},
		{deflateName, "\x78\x01\x4b\x04\x00\x00\x62\x00\x62x", api.ErrForm},
	}
	for _, w := range wrong {
		checkDecode(t, []string{w.name}, 0, w.s, 9, "", w.code)
		for _, outer := range lists([]string{hexName, runsName, deflateName}, 3) {
			s, code := coat.Encode(outer, 0, w.s)
			if code != api.OK {
				t.Fatal(code)
			}
			checkDecode(t, append(slices.Clone(outer), w.name), 0, s, 9, "", w.code)
		}
	}
}

func TestDecodeTellsTheErrorOfTheFirstOneThatIsWrong(t *testing.T) {
	// What is behind a filter that is wrong is not come to.
	checkDecode(t, []string{deflateName, hexName}, 0, "\x78\x01\x4b\x04\x00\x00\x62\x00\x63", 9, "", api.ErrSum)
	checkDecode(t, []string{deflateName, hexName}, 0, zwrap.Wrap("a"), 9, "", api.ErrShort)
	checkDecode(t, []string{hexName, deflateName}, 0, "xx", 9, "", api.ErrForm)
	checkDecode(t, []string{hexName, deflateName}, 0, "7801", 9, "", api.ErrShort)
	checkDecode(t, []string{hexName, deflateName}, 0, "7802>", 9, "", api.ErrForm)
	checkDecode(t, []string{hexName, deflateName}, 0, "7801030200>", 9, "", api.ErrRange)
	checkDecode(t, []string{runsName, deflateName}, 0, runs.Encode("\x78\x01\x4b\x04\x00\x00\x62\x00\x63"), 9, "", api.ErrSum)
	// A filter's error is told ahead of that of rows, and that ahead of too many bytes.
	checkDecode(t, []string{deflateName}, 2, "\x78\x01\x4b\x04\x00\x00\x62\x00\x63", 9, "", api.ErrSum)
	checkDecode(t, []string{deflateName}, 2, zwrap.Wrap("\x02ab\x02"), 1, "", api.ErrForm)
	checkDecode(t, []string{deflateName}, 2, zwrap.Wrap("\x02ab\x05ab"), 1, "", api.ErrForm)
	checkDecode(t, []string{deflateName}, 2, zwrap.Wrap("\x02ab\x04ab"), 1, "", api.ErrBig)
}

func TestDecodeOfWrongRows(t *testing.T) {
	for _, columns := range []int{1, 2, 10, 255, 256} {
		row := strings.Repeat("x", columns)
		for _, s := range []string{"\x02", "\x02" + row + "\x02", row + "\x02", "\x05" + row, "\xff" + row, "\x02" + row + "\x05" + row, "\x02" + row[1:], row, row + row} {
			_, code := predict.Decode(s, columns)
			if code == api.OK {
				t.Fatal(s)
			}
			for _, most := range []int{0, 1, 1000, mostData} {
				checkDecode(t, []string{deflateName}, columns, zwrap.Wrap(s), most, "", code)
				checkDecode(t, []string{hexName, deflateName}, columns, hexa.Encode(zwrap.Wrap(s)), most, "", code)
			}
		}
	}
}

func TestRoomBetweenFilters(t *testing.T) {
	for _, most := range []int{1, 2, 3, 63, 64, 65, 1000} {
		for _, length := range []int{16*most + 1023, 16*most + 1024} {
			s := padded(length)
			checkDecode(t, []string{runsName, hexName}, 0, runs.Encode(s), most, "A", api.OK)
			checkDecode(t, []string{deflateName, hexName}, 0, zwrap.Wrap(s), most, "A", api.OK)
			checkDecode(t, []string{deflateName, hexName}, 0, storedIn(s), most, "A", api.OK)
		}
		for _, length := range []int{16*most + 1025, 16*most + 1026, 17*most + 2000} {
			s := padded(length)
			checkDecode(t, []string{runsName, hexName}, 0, runs.Encode(s), most, "", api.ErrBig)
			checkDecode(t, []string{deflateName, hexName}, 0, zwrap.Wrap(s), most, "", api.ErrBig)
			checkDecode(t, []string{deflateName, hexName}, 0, storedIn(s), most, "", api.ErrBig)
		}
	}
}

func TestRoomBetweenFiltersIfThereMayBeNothing(t *testing.T) {
	for _, length := range []int{1, 2, 1023, 1024} {
		s := strings.Repeat("\n", length-1) + ">"
		checkDecode(t, []string{runsName, hexName}, 0, runs.Encode(s), 0, "", api.OK)
		checkDecode(t, []string{deflateName, hexName}, 0, zwrap.Wrap(s), 0, "", api.OK)
	}
	for _, length := range []int{1025, 1026, 5000} {
		s := strings.Repeat("\n", length-1) + ">"
		checkDecode(t, []string{runsName, hexName}, 0, runs.Encode(s), 0, "", api.ErrBig)
		checkDecode(t, []string{deflateName, hexName}, 0, zwrap.Wrap(s), 0, "", api.ErrBig)
	}
}

func TestRoomBetweenFiltersIfThereMayBeAll(t *testing.T) {
	s := padded(16*mostData + 1024)
	checkDecode(t, []string{runsName, hexName}, 0, runs.Encode(s), mostData, "A", api.OK)
	checkDecode(t, []string{deflateName, hexName}, 0, zwrap.Wrap(s), mostData, "A", api.OK)
	s = padded(16*mostData + 1025)
	checkDecode(t, []string{runsName, hexName}, 0, runs.Encode(s), mostData, "", api.ErrBig)
	checkDecode(t, []string{deflateName, hexName}, 0, zwrap.Wrap(s), mostData, "", api.ErrBig)
}

func TestRoomIsTheSameAtEachPlace(t *testing.T) {
	const most = 2
	for _, outer := range lists([]string{hexName, runsName, deflateName}, 2) {
		for _, inner := range []string{runsName, deflateName} {
			names := append(slices.Clone(outer), inner, hexName)
			s, code := coat.Encode(names[:len(names)-1], 0, padded(16*most+1024))
			if code != api.OK {
				t.Fatal(code)
			}
			checkDecode(t, names, 0, s, most, "A", api.OK)
			s, _ = coat.Encode(names[:len(names)-1], 0, padded(16*most+1025))
			checkDecode(t, names, 0, s, most, "", api.ErrBig)
		}
	}
}

func TestDigitsHaveAnyRoom(t *testing.T) {
	// What comes out of digits may be more than runs and deflated bytes may come to.
	for _, length := range []int{1024, 1025, 1040, 1041, 5000, 100000} {
		s := strings.Repeat("\t", length-3) + "41>"
		checkDecode(t, []string{hexName, hexName}, 0, hexa.Encode(s), 1, "A", api.OK)
		checkDecode(t, []string{hexName, hexName, hexName, hexName}, 0, hexa.Encode(hexa.Encode(hexa.Encode(s))), 1, "A", api.OK)
		// Too many that come out at the end are too many.
		checkDecode(t, []string{hexName}, 0, hexa.Encode(s), 1, "", api.ErrBig)
	}
	checkDecode(t, []string{hexName}, 0, strings.Repeat(" ", 1<<22)+"41>", 1, "A", api.OK)
	// Digits that are wrong are told behind so many.
	checkDecode(t, []string{hexName, hexName}, 0, hexa.Encode(strings.Repeat(" ", 5000)+"x"), 1, "", api.ErrForm)
	checkDecode(t, []string{runsName, hexName}, 0, runs.Encode(strings.Repeat(" ", 5000)+"x"), 1, "", api.ErrBig)
}

func TestRoomAheadOfRows(t *testing.T) {
	const most = 0
	for length, code := range map[int]api.Errno{
		1022: api.ErrForm, // no whole rows of 3 bytes
		1023: api.ErrBig,  // rows, of which 682 bytes come out
		1024: api.ErrForm,
		1025: api.ErrBig, // more than come out of deflated bytes: it is not asked for rows any more
		1027: api.ErrBig,
	} {
		s := strings.Repeat("\x02", length)
		checkDecode(t, []string{deflateName}, 2, zwrap.Wrap(s), most, "", code)
		checkDecode(t, []string{runsName, deflateName}, 2, runs.Encode(zwrap.Wrap(s)), most, "", code)
	}
	// With kinds they are more than the rows, and may be so many more.
	for _, length := range []int{1, 100, 3000} {
		rows, _ := predict.Encode(strings.Repeat("a", length), 1)
		checkDecode(t, []string{deflateName}, 1, zwrap.Wrap(rows), length, strings.Repeat("a", length), api.OK)
	}
}

func TestDecodeOfAnyBytes(t *testing.T) {
	r := newRandom(5)
	all := rightLists()
	for range 30000 {
		names := all[r.IntN(len(all))]
		s := some(r, r.IntN(12), 256)
		// Inside some filters that are right.
		right := r.IntN(len(names) + 1)
		s, code := coat.Encode(names[:right], 0, s)
		if code != api.OK {
			t.Fatal(code)
		}
		for _, most := range []int{-1, 0, 3, 1000} {
			checkDecodeAgain(t, names, 0, s, most)
			checkDecodeAgain(t, names, 1+r.IntN(4), s, most)
		}
	}
}

func TestDecodeOfEachByteAtEachPlace(t *testing.T) {
	for _, one := range []struct {
		names   []string
		columns int
	}{
		{[]string{hexName, runsName}, 0},
		{[]string{runsName, hexName}, 0},
		{[]string{deflateName}, 2},
		{[]string{runsName, deflateName}, 0},
		{[]string{deflateName, runsName}, 0},
		{[]string{hexName, runsName, deflateName}, 2},
	} {
		const s = "aaab"
		coded, code := coat.Encode(one.names, one.columns, s)
		if code != api.OK {
			t.Fatal(code)
		}
		for place := range len(coded) {
			checkDecodeAgain(t, one.names, one.columns, coded[:place], len(s))
			checkDecodeAgain(t, one.names, one.columns, coded[:place]+coded[place+1:], len(s))
			for c := range 256 {
				put := string([]byte{byte(c)})
				checkDecodeAgain(t, one.names, one.columns, coded[:place]+put+coded[place+1:], len(s))
				checkDecodeAgain(t, one.names, one.columns, coded[:place]+put+coded[place:], len(s))
			}
		}
	}
}

// P14.4

func TestWhatIsEncodedIsDecoded(t *testing.T) {
	r := newRandom(6)
	for _, names := range rightLists() {
		for _, length := range []int{0, 1, 2, 3, 100, 129, 2000} {
			for _, kinds := range []int{1, 2, 256} {
				checkThereAndBack(t, names, 0, some(r, length, kinds))
			}
		}
		if checkAgain(names, 1) != api.OK {
			continue
		}
		for _, columns := range []int{1, 2, 17, 255, 256} {
			for _, rows := range []int{0, 1, 2, 10} {
				checkThereAndBack(t, names, columns, some(r, rows*columns, 256))
			}
		}
	}
}

func TestWhatIsEncodedInAnyColumnsIsDecoded(t *testing.T) {
	r := newRandom(7)
	for columns := 1; columns <= 256; columns++ {
		checkThereAndBack(t, []string{deflateName}, columns, some(r, columns*r.IntN(5), 256))
		checkThereAndBack(t, []string{runsName, hexName, deflateName}, columns, some(r, columns*r.IntN(5), 3))
	}
}

func TestAsManyBytesAsMayBeAreDecoded(t *testing.T) {
	s := some(newRandom(8), mostData, 256)
	for _, one := range []struct {
		names   []string
		columns int
	}{
		{nil, 0},
		{[]string{runsName, hexName, hexName, hexName}, 0},
		{[]string{hexName, hexName, hexName, hexName}, 0},
		{[]string{deflateName, deflateName, deflateName, deflateName}, 1},
		{[]string{runsName, hexName, hexName, deflateName}, 1},
		{[]string{deflateName, runsName, hexName, deflateName}, 256},
	} {
		checkThereAndBack(t, one.names, one.columns, s)
	}
}

func TestFiltersAreThoseOfTwoLists(t *testing.T) {
	r := newRandom(9)
	for _, names := range rightLists() {
		for cut := range len(names) + 1 {
			for _, columns := range []int{0, 1, 5} {
				if checkAgain(names[cut:], columns) != api.OK {
					continue
				}
				s := some(r, 5*r.IntN(30), 4)
				inner, code := coat.Encode(names[cut:], columns, s)
				if code != api.OK {
					t.Fatal(code)
				}
				outer, code := coat.Encode(names[:cut], 0, inner)
				if code != api.OK {
					t.Fatal(code)
				}
				checkEncode(t, names, columns, s, outer, api.OK)
				checkDecode(t, names[:cut], 0, outer, len(inner), inner, api.OK)
				checkDecode(t, names[cut:], columns, inner, len(s), s, api.OK)
				checkDecode(t, names, columns, outer, len(s), s, api.OK)
			}
		}
	}
}

// What all calls hold

func TestNamesAreNotChanged(t *testing.T) {
	for _, names := range rightLists() {
		handed := slices.Clone(names)
		coat.Check(handed, 0)
		coded, _ := coat.Encode(handed, 0, "aaab")
		coat.Decode(handed, 0, coded, 4)
		coat.Decode(handed, 0, "x", 4)
		if !slices.Equal(handed, names) {
			t.Fatalf("%q: %q", names, handed)
		}
	}
}

func TestAnswersShareNoMemory(t *testing.T) {
	for _, names := range lists([]string{hexName, runsName, deflateName}, 1) {
		s := strings.Clone("some bytes that stand here")
		coded, _ := coat.Encode(names, 0, s)
		if share(coded, s) {
			t.Errorf("%q: what is encoded stands in what was handed in", names)
		}
		if told, _ := coat.Decode(names, 0, coded, len(s)); share(told, coded) || share(told, s) {
			t.Errorf("%q: what is decoded stands in what was handed in", names)
		}
	}
}

// share tells whether two texts stand in the same memory.
func share(a, b string) bool {
	beginA, beginB := uintptr(unsafe.Pointer(unsafe.StringData(a))), uintptr(unsafe.Pointer(unsafe.StringData(b)))
	return beginA < beginB+uintptr(len(b)) && beginB < beginA+uintptr(len(a))
}

func TestCallsKnowNothingOfOneAnother(t *testing.T) {
	for range 3 {
		checkDecode(t, []string{hexName}, 0, "41", 9, "", api.ErrShort)
		checkEncode(t, []string{hexName, runsName}, 0, "aaa", "FE6180>", api.OK)
		checkEncode(t, []string{"x"}, 0, "aaa", "", api.ErrFilter)
		checkDecode(t, []string{hexName, runsName}, 0, "FE6180>", 3, "aaa", api.OK)
		checkCheck(t, []string{hexName}, 1, api.ErrFilter)
		checkCheck(t, []string{hexName}, 0, api.OK)
	}
}

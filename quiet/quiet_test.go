package quiet_test

import (
	"fmt"
	"math"
	"math/rand/v2"
	"slices"
	"strings"
	"testing"
	"unsafe"

	"bindery/adler"
	"bindery/api"
	"bindery/coat"
	"bindery/predict"
	"bindery/quiet"
	"bindery/runs"
	"bindery/squeeze"
	"bindery/zwrap"
)

// The names, as the document says them.
const (
	hexName     = "ASCIIHexDecode"
	runsName    = "RunLengthDecode"
	deflateName = "FlateDecode"
)

// mostData is how many bytes there may be at most.
const mostData = 1 << 20

// formatWords are the words, as the document says them.
func formatWords() []string { return []string{"obj", "xref", "stream"} }

func newRandom(seed uint64) *rand.Rand { return rand.New(rand.NewPCG(seed, 19)) }

// oneOf tells any of some.
func oneOf[T any](r *rand.Rand, some []T) T { return some[r.IntN(len(some))] }

// some tells bytes by chance, from one on.
func some(r *rand.Rand, length, from int) string {
	s := make([]byte, length)
	for i := range s {
		s[i] = byte(from + r.IntN(256-from))
	}
	return string(s)
}

// hard tells bytes that are deflated as they are, with a text among them: what fixed codes tell in 9 bits is never shorter.
func hard(seed uint64, length int, among string) string {
	s := some(newRandom(seed), length, 144)
	return s[:length/2] + among + s[length/2:]
}

// lists are all lists of names of at most so many, the shorter ahead.
func lists(most int) [][]string {
	all := [][]string{nil}
	begin := 0
	for range most {
		end := len(all)
		for _, shorter := range all[begin:end] {
			for _, name := range []string{hexName, runsName, deflateName} {
				all = append(all, append(slices.Clone(shorter), name))
			}
		}
		begin = end
	}
	return all
}

// allowed tells whether there may be rows within these names.
func allowed(names []string, columns int) bool {
	return columns == 0 || len(names) > 0 && names[len(names)-1] == deflateName
}

// loudAgain is a second telling of P19.1.
func loudAgain(s string) bool {
	return slices.ContainsFunc(formatWords(), func(word string) bool { return strings.Contains(s, word) })
}

// namesAgain is a second telling of P19.2.
func namesAgain(names []string, columns int, s string) ([]string, api.Errno) {
	coded, code := coat.Encode(names, columns, s)
	if code != api.OK {
		return nil, code
	}
	if loudAgain(coded) {
		if len(names) > 3 {
			return nil, api.ErrFilter
		}
		return slices.Insert(slices.Clone(names), 0, hexName), api.OK
	}
	return names, api.OK
}

// checkLoud asks Loud, and wants this answer.
func checkLoud(t *testing.T, s string, want bool) {
	t.Helper()
	if got := quiet.Loud(s); got != want {
		t.Fatalf("%.99q (%d bytes): %t", s, len(s), got)
	}
}

// checkNames asks Names, and wants this answer.
func checkNames(t *testing.T, names []string, columns int, s string, want []string, code api.Errno) {
	t.Helper()
	if got, c := quiet.Names(names, columns, s); !slices.Equal(got, want) || c != code {
		t.Fatalf("%.99q in %d columns, %.60q (%d bytes): %q, %d; wanted %q, %d", names, columns, s, len(s), got, c, want, code)
	}
}

// checkNamesAgain asks Names, and wants what the second telling answers.
func checkNamesAgain(t *testing.T, names []string, columns int, s string) {
	t.Helper()
	want, code := namesAgain(names, columns, s)
	checkNames(t, names, columns, s, want, code)
}

// checkQuiet wants that what is encoded by the names that are told is not loud, and is decoded as it was.
func checkQuiet(t *testing.T, names []string, columns int, s string) {
	t.Helper()
	told, code := quiet.Names(names, columns, s)
	if code != api.OK {
		t.Fatalf("%q in %d columns, %.60q (%d bytes): %d", names, columns, s, len(s), code)
	}
	coded, code := coat.Encode(told, columns, s)
	if code != api.OK || loudAgain(coded) || quiet.Loud(coded) {
		t.Fatalf("%q in %d columns, %.60q (%d bytes): by %q it is %.99q, %d", names, columns, s, len(s), told, coded, code)
	}
	if back, code := coat.Decode(told, columns, coded, len(s)); back != s || code != api.OK {
		t.Fatalf("%q in %d columns, %.60q (%d bytes): by %q it is decoded as %.60q (%d bytes), %d", names, columns, s, len(s), told, back, len(back), code)
	}
}

// P19.1

func TestLoudOfKnownTexts(t *testing.T) {
	for _, s := range []string{
		"obj", "xref", "stream", "an object", "1 0 obj", "endobj", "\nendobj\n", "startxref", "\nstartxref\n17\n", "xref\n0 1\n",
		"endstream", ">>\nstream\r\n", "streams", "downstream", "xrefobj", "objxref", "objobj", "\x00obj\x00", "\xffxref\xff", "(obj)", "/obj",
		"<</Type/xref>>", "% obj", "\u00e9obj", "obj\u00e9", "xrefs of a stream",
	} {
		checkLoud(t, s, true)
	}
	for _, s := range []string{
		"", " ", "\n", "o", "b", "j", "ob", "bj", "oj", "o bj", "ob j", "o\nbj", "ob\x00j", "obbj", "obk", "pbj", "jbo", "OBJ", "Obj", "oBj", "obJ",
		"x", "xre", "ref", "xrf", "xef", "xr ef", "xre\nf", "xreff"[:3], "rxef", "ferx", "XREF", "Xref", "xreF", "x ref", "xrexre",
		"s", "strea", "tream", "sream", "steam", "stram", "strem", "streaam", "sttream", "str eam", "strea\rm", "maerts", "STREAM", "Stream", "streaM",
		"trailer", "%%EOF", "%PDF-1.7\n", "true", "false", "null", "R", "end", "start", "startref", "startxre\nf", "endob", "endstrea", "XRef", "ObjStm",
		"obxrefj"[:5], "obstreaj", "strxobeam", "xobref", "\x6f\x62\x6b", "\xef\xe2\xea", "o\u00adbj", "6F626A", "78726566>", "73747265616D>", "ob%j",
	} {
		checkLoud(t, s, false)
	}
}

func TestLoudOfEachShortText(t *testing.T) {
	// All letters that the words have.
	const letters = "objxrefstam"
	loud := 0
	var grow func(s string, left int)
	grow = func(s string, left int) {
		want := loudAgain(s)
		checkLoud(t, s, want)
		if want {
			loud++
		}
		if left == 0 {
			return
		}
		for i := range letters {
			grow(s+letters[i:i+1], left-1)
		}
	}
	grow("", 6)
	if loud == 0 {
		t.Error("none is loud")
	}
}

func TestLoudOfEachByte(t *testing.T) {
	for c := range 256 {
		one := string([]byte{byte(c)})
		checkLoud(t, one, false)
		for d := range 256 {
			checkLoud(t, one+string([]byte{byte(d)}), false)
		}
		for _, word := range formatWords() {
			checkLoud(t, one+word, true)
			checkLoud(t, word+one, true)
			checkLoud(t, one+one+word+one+one, true)
		}
	}
}

func TestLoudAtEachPlace(t *testing.T) {
	for _, word := range formatWords() {
		for _, among := range []string{" ", "\x00", "\xff", "o", "x", "s", "\n", "r", "st", "ob", "xr", "strea"} {
			around := strings.Repeat(among, 300)
			for at := range 300 {
				checkLoud(t, around[:at], false)
				checkLoud(t, around[:at]+word, true)
				checkLoud(t, around[:at]+word+around[at:300], true)
				checkLoud(t, around[:at]+word[1:], loudAgain(around[:at]+word[1:]))
				checkLoud(t, around[:at]+word[:len(word)-1], loudAgain(around[:at]+word[:len(word)-1]))
			}
		}
	}
}

func TestLoudOfTurnedWords(t *testing.T) {
	for _, word := range formatWords() {
		for at := range word {
			checkLoud(t, word[:at], false)
			checkLoud(t, word[at+1:], false)
			checkLoud(t, word[:at]+word[at+1:], false)
			for c := range 256 {
				one := string([]byte{byte(c)})
				checkLoud(t, word[:at]+one+word[at+1:], one == word[at:at+1])
				put := word[:at] + one + word[at:]
				checkLoud(t, put, loudAgain(put))
				if at > 0 && one != word[at-1:at] && one != word[at:at+1] {
					checkLoud(t, put, false)
				}
			}
			for bit := range 8 {
				checkLoud(t, word[:at]+string([]byte{word[at] ^ 1<<bit})+word[at+1:], false)
			}
		}
	}
}

func TestLoudBehindBegunWords(t *testing.T) {
	for _, begun := range formatWords() {
		for cut := range begun {
			for _, word := range formatWords() {
				checkLoud(t, begun[:cut]+word, true)
				checkLoud(t, strings.Repeat(begun[:cut], 3)+word, true)
				checkLoud(t, begun[:cut]+word+begun[cut:], true)
				for end := range word {
					s := begun[:cut] + word[:end]
					checkLoud(t, s, loudAgain(s))
					s = begun[:cut] + word[end:]
					checkLoud(t, s, loudAgain(s))
				}
			}
		}
	}
}

func TestLoudOfPieces(t *testing.T) {
	r := newRandom(1)
	pieces := []string{"o", "b", "j", "ob", "bj", "xr", "ef", "xre", "ref", "str", "eam", "strea", "tream", " ", "\x00", "\xff"}
	loud := 0
	for range 200000 {
		var s string
		for range r.IntN(8) {
			s += oneOf(r, pieces)
		}
		want := loudAgain(s)
		checkLoud(t, s, want)
		if want {
			loud++
		}
	}
	if loud < 5000 {
		t.Errorf("%d are loud", loud)
	}
}

func TestLoudOfLongTexts(t *testing.T) {
	for _, among := range []string{"\x00", "s", "xre", "strea", "ob"} {
		long := strings.Repeat(among, 1<<22/len(among))
		checkLoud(t, long, false)
		for _, word := range formatWords() {
			checkLoud(t, long+word, true)
			checkLoud(t, word+long, true)
			checkLoud(t, long+word+long, true)
			checkLoud(t, long+word[:len(word)-1], false)
		}
	}
	// As long as a file may be.
	file := strings.Repeat("\x80", api.MaxFile-6)
	checkLoud(t, file+"strea!", false)
	checkLoud(t, file+"stream", true)
}

// P19.2

func TestNamesOfKnownTexts(t *testing.T) {
	for _, word := range formatWords() {
		checkNames(t, nil, 0, word, []string{hexName}, api.OK)
		checkNames(t, []string{}, 0, "a "+word+" b", []string{hexName}, api.OK)
		checkNames(t, nil, 0, word[1:], nil, api.OK)
		checkNames(t, nil, 0, strings.ToUpper(word), nil, api.OK)
		checkNames(t, []string{hexName}, 0, word, []string{hexName}, api.OK)
		checkNames(t, []string{runsName}, 0, word, []string{hexName, runsName}, api.OK)
		checkNames(t, []string{runsName, runsName}, 0, word, []string{hexName, runsName, runsName}, api.OK)
		checkNames(t, []string{runsName, hexName}, 0, word, []string{runsName, hexName}, api.OK)
		checkNames(t, []string{hexName, runsName}, 0, word, []string{hexName, runsName}, api.OK)
		checkNames(t, []string{deflateName}, 0, word, []string{deflateName}, api.OK)
	}
	checkNames(t, nil, 0, "", nil, api.OK)
	checkNames(t, []string{runsName}, 0, "", []string{runsName}, api.OK)
	checkNames(t, []string{deflateName}, 256, "", []string{deflateName}, api.OK)
	checkNames(t, nil, 0, "an object", []string{hexName}, api.OK)
}

func TestNamesOfMany(t *testing.T) {
	four := []string{runsName, runsName, runsName, runsName}
	checkNames(t, four, 0, "xref", nil, api.ErrFilter)
	checkNames(t, four, 0, "xre", four, api.OK)
	checkNames(t, four[:3], 0, "xref", []string{hexName, runsName, runsName, runsName}, api.OK)
	checkNames(t, four[:3], 0, "xre", four[:3], api.OK)
	// Digits hide what is within them, whatever is put behind.
	for at := range four {
		names := slices.Clone(four)
		names[at] = hexName
		checkNames(t, names, 0, "xref", names, api.OK)
	}
	deep := []string{deflateName, deflateName, deflateName, deflateName}
	checkNames(t, deep, 0, hard(1, 600, "stream"), nil, api.ErrFilter)
	checkNames(t, deep, 0, hard(1, 600, "strea"), deep, api.OK)
	checkNames(t, deep[1:], 0, hard(1, 600, "stream"), []string{hexName, deflateName, deflateName, deflateName}, api.OK)
}

// underHead is a text that runs tell with a head that is the first byte of a word, so that it is loud by that alone.
func underHead(word string) string {
	return word[1:] + some(newRandom(uint64(len(word))), int(word[0])+1-len(word[1:]), 144)
}

// summing is a text whose sum is that of four bytes, so that they stand at the end of what is wrapped.
func summing(t *testing.T, four string) string {
	low := int(four[2])<<8 | int(four[3])
	want := int(four[0])<<24 | int(four[1])<<16 | low
	s := strings.Repeat("\xff", (low-1)/255) + string([]byte{byte((low - 1) % 255)})
	// A byte 0 leaves the low half, and the high one comes to all numbers.
	sum := adler.Sum(s)
	for zeros := range adler.Base {
		if sum == want {
			return s + strings.Repeat("\x00", zeros)
		}
		sum, _ = adler.More(sum, "\x00")
	}
	t.Fatalf("nothing has the sum %q", four)
	return ""
}

func TestNamesOfWhatIsLoudEncodedAlone(t *testing.T) {
	for _, word := range formatWords() {
		s := underHead(word)
		checkLoud(t, s, false)
		checkLoud(t, runs.Encode(s), true)
		checkNames(t, nil, 0, s, nil, api.OK)
		checkNames(t, []string{runsName}, 0, s, []string{hexName, runsName}, api.OK)
	}
	// These are told by fixed codes whose bits are the words.
	for word, s := range map[string]string{"obj": "w\x82\x02\x80", "xref": "l\x8d\x17\xa0\x87vQ\xc9\xa9iP", "stream": "ABE\x04\x05\x80"} {
		checkLoud(t, s, false)
		if !strings.Contains(squeeze.Fixed(s), word) {
			t.Fatalf("%q by fixed codes: %q", s, squeeze.Fixed(s))
		}
		checkNames(t, nil, 0, s, nil, api.OK)
		checkNames(t, []string{deflateName}, 0, s, []string{hexName, deflateName}, api.OK)
		checkNames(t, []string{runsName, deflateName}, 0, s, []string{hexName, runsName, deflateName}, api.OK)
		checkNames(t, []string{hexName, deflateName}, 0, s, []string{hexName, deflateName}, api.OK)
	}
	for _, four := range []string{"xref", "obj\x01", "\x02obj"} {
		s := summing(t, four)
		checkLoud(t, s, false)
		if wrapped := zwrap.Wrap(s); !strings.HasSuffix(wrapped, four) || loudAgain(wrapped[:len(wrapped)-4]) {
			t.Fatalf("%q is wrapped: %q", four, wrapped)
		}
		checkNames(t, []string{deflateName}, 0, s, []string{hexName, deflateName}, api.OK)
		checkNames(t, []string{deflateName, runsName}, 0, s, []string{deflateName, runsName}, api.OK)
	}
}

func TestNamesOfWhatIsLoudBareAlone(t *testing.T) {
	for _, word := range formatWords() {
		// A part of runs ends behind 128 bytes: what stands on both sides of that is told apart.
		for ahead := range 132 {
			s := some(newRandom(uint64(ahead)), ahead, 144) + word
			told := []string{runsName}
			if apart := ahead < 128 && ahead+len(word) > 128; !apart {
				told = []string{hexName, runsName}
			}
			checkNames(t, []string{runsName}, 0, s, told, api.OK)
			checkNames(t, nil, 0, s, []string{hexName}, api.OK)
		}
		// A row's kind stands ahead of each row.
		rows := []string{deflateName}
		for columns := 1; columns <= 8; columns++ {
			s := strings.Repeat("\x00", columns) + hard(uint64(columns), 600-600%columns, "")
			at := columns * 40
			s = s[:at] + word + s[at+len(word):]
			checkNamesAgain(t, rows, columns, s)
		}
	}
}

func TestNamesOfRows(t *testing.T) {
	names := []string{deflateName}
	for columns := 3; columns <= predict.Widest; columns++ {
		for _, word := range formatWords() {
			if len(word) > columns {
				continue
			}
			// Told by what they differ from the row ahead, the rows have the word; as they are, they do not.
			r := newRandom(uint64(columns))
			var coded string
			for range 4 + 400/columns {
				coded += "\x02" + some(r, columns, 144)
			}
			coded = coded[:columns+2] + word + coded[columns+2+len(word):]
			s, code := predict.Decode(coded, columns)
			if code != api.OK {
				t.Fatal(code)
			}
			checkLoud(t, s, false)
			checkNames(t, names, 0, s, names, api.OK)
			checkNames(t, names, columns, s, []string{hexName, deflateName}, api.OK)
			checkNames(t, []string{hexName, deflateName}, columns, s, []string{hexName, deflateName}, api.OK)
			checkNames(t, []string{deflateName, deflateName, deflateName, deflateName}, columns, s, nil, api.ErrFilter)
			checkQuiet(t, names, columns, s)
		}
	}
}

func TestNamesOfErrors(t *testing.T) {
	big := strings.Repeat("\x00", mostData+1)
	for _, s := range []string{"", "a", "obj", "xref stream", hard(2, 600, "obj"), big} {
		for _, columns := range []int{-1, 257, math.MinInt, math.MaxInt, 1 << 32} {
			for _, names := range [][]string{nil, {hexName}, {deflateName}, {"x"}, {runsName, runsName, runsName, runsName}, slices.Repeat([]string{hexName}, 5)} {
				checkNames(t, names, columns, s, nil, api.ErrArg)
			}
		}
		for _, names := range [][]string{
			{""}, {"x"}, {"Hex"}, {"asciihexdecode"}, {hexName, ""}, {hexName + hexName}, {hexName[1:]}, {"FlateDecode "}, {deflateName, "LZWDecode"},
			{"x", "x", "x", "x"}, {"x", "x", "x", "x", "x"}, slices.Repeat([]string{hexName}, 5), slices.Repeat([]string{runsName}, 5), slices.Repeat([]string{deflateName}, 300),
		} {
			checkNames(t, names, 0, s, nil, api.ErrFilter)
			checkNames(t, names, 1, s, nil, api.ErrFilter)
		}
		for _, names := range [][]string{nil, {hexName}, {runsName}, {deflateName, hexName}, {deflateName, runsName}} {
			checkNames(t, names, 1, s, nil, api.ErrFilter)
			checkNames(t, names, 256, s, nil, api.ErrFilter)
		}
	}
	for _, names := range [][]string{nil, {hexName}, {runsName}, {deflateName}, {runsName, runsName, runsName, runsName}} {
		checkNames(t, names, 0, big, nil, api.ErrBig)
		checkNames(t, names, 0, big[4:]+"xref", nil, api.ErrBig)
	}
	four := []string{deflateName, deflateName, deflateName, deflateName}
	for _, s := range []string{"a", "obj", "stream ", hard(3, 600, "obj")} {
		if len(s)%2 == 1 {
			checkNames(t, four, 2, s, nil, api.ErrForm)
			checkNames(t, four[:1], 2, s, nil, api.ErrForm)
		}
	}
	checkNames(t, four[:1], 256, hard(3, 600, "xref"), nil, api.ErrForm)
	checkNames(t, four[:1], 2, big+"a", nil, api.ErrBig)
	checkNames(t, four[:1], 2, big, nil, api.ErrBig)
}

func TestNamesOfMostBytes(t *testing.T) {
	for _, s := range []string{strings.Repeat("\x00", mostData-3) + "obj", "stream" + strings.Repeat("\xff", mostData-6)} {
		checkNames(t, nil, 0, s, []string{hexName}, api.OK)
		checkNames(t, []string{hexName}, 0, s, []string{hexName}, api.OK)
		checkNamesAgain(t, []string{runsName}, 0, s)
		checkNamesAgain(t, []string{deflateName}, 1, s)
		checkQuiet(t, nil, 0, s)
		checkQuiet(t, []string{runsName}, 0, s)
		checkQuiet(t, []string{deflateName}, 1, s)
		checkNames(t, nil, 0, s+"\x00", nil, api.ErrBig)
	}
	s := hard(4, mostData-6, "stream")
	checkNames(t, []string{deflateName}, 0, s, []string{hexName, deflateName}, api.OK)
	checkQuiet(t, []string{deflateName}, 0, s)
	checkNames(t, []string{runsName, deflateName, runsName}, 0, s[:mostData-1], []string{hexName, runsName, deflateName, runsName}, api.OK)
}

// texts are those with which all lists of names are tried: words and what is almost one, bare and where filters leave them as they are.
func texts() []string {
	all := []string{"", "a", "an object", "oobject", "stream\nxref\nobj\n", strings.Repeat("aaab", 70), strings.Repeat("xref", 70), some(newRandom(5), 500, 0), "w\x82\x02\x80", "ABE\x04\x05\x80"}
	for i, word := range formatWords() {
		cut := word[:len(word)-1]
		all = append(all, word, cut, strings.ToUpper(word), underHead(word), hard(uint64(i), 600, word), hard(uint64(i), 600, cut), hard(uint64(i), 600, cut+" "+word[1:]))
	}
	return all
}

func TestNamesOfEachList(t *testing.T) {
	kept, hidden, refused := 0, 0, 0
	for _, names := range lists(4) {
		for _, columns := range []int{0, 1, 2, 3, 256} {
			for _, s := range texts() {
				s = s[:len(s)-len(s)%max(columns, 1)]
				if !allowed(names, columns) {
					checkNames(t, names, columns, s, nil, api.ErrFilter)
					continue
				}
				checkNamesAgain(t, names, columns, s)
				told, code := quiet.Names(names, columns, s)
				switch {
				case code == api.ErrFilter && len(names) == 4:
					refused++
					continue
				case code != api.OK:
					t.Fatal(code)
				case len(told) > len(names):
					hidden++
				default:
					kept++
				}
				checkQuiet(t, names, columns, s)
			}
		}
	}
	if kept < 1000 || hidden < 50 || refused < 50 {
		t.Errorf("%d are kept, %d hidden, %d refused", kept, hidden, refused)
	}
}

func TestNamesOfDigitsAhead(t *testing.T) {
	// What stands there is digits: it never needs more, and so is never refused.
	for _, names := range lists(3) {
		for _, s := range texts() {
			ahead := append([]string{hexName}, names...)
			checkNames(t, ahead, 0, s, ahead, api.OK)
		}
	}
}

// P19.3

func TestWhatIsToldIsQuiet(t *testing.T) {
	r := newRandom(6)
	few := lists(3)
	hidden := 0
	for i := range 20000 {
		names := oneOf(r, few)
		columns := 0
		if allowed(names, 1) {
			columns = r.IntN(4)
		}
		var s string
		for range r.IntN(6) {
			switch r.IntN(4) {
			case 0:
				s += oneOf(r, formatWords())
			case 1:
				word := oneOf(r, formatWords())
				s += word[:r.IntN(len(word))]
			case 2:
				s += strings.Repeat(some(r, 1, 0), r.IntN(140))
			default:
				s += some(r, r.IntN(200), 144)
			}
		}
		s = s[:len(s)-len(s)%max(columns, 1)]
		checkNamesAgain(t, names, columns, s)
		checkQuiet(t, names, columns, s)
		told, _ := quiet.Names(names, columns, s)
		if len(told) > len(names) {
			hidden++
			if told[0] != hexName || !slices.Equal(told[1:], names) {
				t.Fatalf("%d: %q for %q", i, told, names)
			}
		}
		// What is told is told again.
		checkNames(t, told, columns, s, told, api.OK)
	}
	if hidden < 1000 {
		t.Errorf("%d are hidden", hidden)
	}
}

func TestEachWordIsHidden(t *testing.T) {
	for _, word := range formatWords() {
		for _, names := range lists(3) {
			for length := range 150 {
				checkQuiet(t, names, 0, some(newRandom(uint64(length)), length, 144)+word)
			}
		}
	}
}

// What holds everywhere

// share tells whether two texts stand in the same memory.
func share(a, b string) bool {
	beginA, beginB := uintptr(unsafe.Pointer(unsafe.StringData(a))), uintptr(unsafe.Pointer(unsafe.StringData(b)))
	return beginA < beginB+uintptr(len(b)) && beginB < beginA+uintptr(len(a))
}

func TestAnswersAreNewMemory(t *testing.T) {
	for _, s := range []string{"xref", "xre"} {
		for _, names := range lists(3) {
			handed := make([]string, 0, 8)
			for _, name := range names {
				handed = append(handed, strings.Clone(name))
			}
			// What room there is behind the end of a list is nobody's.
			behind := handed[:8]
			for i := len(handed); i < len(behind); i++ {
				behind[i] = fmt.Sprint("behind ", i)
			}
			before := slices.Clone(behind)
			told, code := quiet.Names(handed, 0, s)
			if code != api.OK || !slices.Equal(behind, before) {
				t.Fatalf("%q: %d, and behind it %q", names, code, behind)
			}
			for _, name := range told {
				for _, other := range handed {
					if share(name, other) {
						t.Fatalf("%q shares its memory with what was handed in", name)
					}
				}
			}
			wanted := slices.Clone(told)
			again, _ := quiet.Names(handed, 0, s)
			for i := range told {
				told[i] = "spoilt"
			}
			_ = append(told, "spoilt")
			if !slices.Equal(behind, before) || !slices.Equal(again, wanted) {
				t.Fatalf("an answer was spoilt: %q and %q are left", behind, again)
			}
			for i := range handed {
				handed[i] = "spoilt"
			}
			if !slices.Equal(again, wanted) {
				t.Fatalf("what was handed in was spoilt: %q is left of %q", again, wanted)
			}
		}
	}
}

func TestCallsKnowNothingOfOneAnother(t *testing.T) {
	for range 3 {
		checkLoud(t, "xre", false)
		checkLoud(t, "f", false)
		checkLoud(t, "xref", true)
		checkNames(t, nil, 0, "stream", []string{hexName}, api.OK)
		checkNames(t, nil, 0, "strea", nil, api.OK)
		checkNames(t, []string{"x"}, 0, "m", nil, api.ErrFilter)
		checkNames(t, []string{runsName}, 0, "m", []string{runsName}, api.OK)
	}
}

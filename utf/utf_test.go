package utf

import (
	"math"
	"slices"
	"strings"
	"testing"
	"unicode/utf8"
)

// edges are the least and the greatest code point of each length, those
// around the surrogates, and the chapter's example, with their encodings.
var edges = []struct {
	sign     int
	encoding string
}{
	{0, "\x00"},
	{97, "a"},
	{127, "\x7f"},
	{128, "\xc2\x80"},
	{233, "\xc3\xa9"},
	{2047, "\xdf\xbf"},
	{2048, "\xe0\xa0\x80"},
	{8364, "\xe2\x82\xac"},
	{55295, "\xed\x9f\xbf"},
	{57344, "\xee\x80\x80"},
	{65533, "\xef\xbf\xbd"},
	{65535, "\xef\xbf\xbf"},
	{65536, "\xf0\x90\x80\x80"},
	{128512, "\xf0\x9f\x98\x80"},
	{1114111, "\xf4\x8f\xbf\xbf"},
}

// outside are numbers that are not code points.
var outside = []int{
	-1, -2, -97, -128, -8364, -1114111, math.MinInt32, math.MinInt64,
	55296, 55297, 56319, 56320, 57342, 57343,
	1114112, 1114113, 2097151, 2097152, math.MaxInt32, math.MaxInt32 + 1, math.MaxUint32, math.MaxUint32 + 98,
	math.MaxInt64,
}

// broken are strings at whose beginning no encoding is.
var broken = []string{
	// Lone bytes from 128 on, alone and before others.
	"\x80", "\xbf", "\xc0", "\xc1", "\xc2", "\xdf", "\xe0", "\xef", "\xf0", "\xf4", "\xf5", "\xf8", "\xfc", "\xfe", "\xff",
	"\x80a", "\xbf\xbf", "\x80\x80\x80\x80", "\xff\x80\x80\x80", "\xfe\xff",
	// Encodings that end too early, at the end and before another byte.
	"\xe0\xa0", "\xe2\x82", "\xed\x9f", "\xf0\x90", "\xf0\x90\x80", "\xf4\x8f\xbf",
	"\xc2a", "\xe2a", "\xe2\x82a", "\xf0a", "\xf0\x90a", "\xf0\x90\x80a",
	"\xc2\xc2\x80", "\xe2\x82\xe2\x82\xac", "\xf0\x9f\x98\xf0\x9f\x98\x80",
	// A byte after the first one that is just outside 128 to 191.
	"\xc2\x7f", "\xc2\xc0", "\xe2\x7f\xac", "\xe2\xc2\xac", "\xe2\x82\x7f", "\xe2\x82\xc0",
	"\xf0\x7f\x98\x80", "\xf0\xdf\x98\x80", "\xf0\x9f\x7f\x80", "\xf0\x9f\xc0\x80", "\xf0\x9f\x98\x7f", "\xf0\x9f\x98\xc0",
	// Longer than they need be: 0, 127, 2047, 65535, and what is near.
	"\xc0\x80", "\xc1\xbf", "\xe0\x80\x80", "\xe0\x81\xbf", "\xe0\x82\x80", "\xe0\x9f\xbf",
	"\xf0\x80\x80\x80", "\xf0\x80\x81\xbf", "\xf0\x82\x82\xac", "\xf0\x8f\xbf\xbf",
	// Surrogates, one by one and as a pair.
	"\xed\xa0\x80", "\xed\xaf\xbf", "\xed\xb0\x80", "\xed\xbf\xbf", "\xed\xa0\xbd\xed\xb8\x80",
	// Beyond the greatest code point, also of five and six bytes.
	"\xf4\x90\x80\x80", "\xf5\x80\x80\x80", "\xf7\xbf\xbf\xbf", "\xf8\x88\x80\x80\x80", "\xfc\x84\x80\x80\x80\x80",
}

// texts are valid strings of several code points.
var texts = []string{
	"", "a", "ab", "a\xc3\xa9", "a\xe2\x82\xac", "\xe2\x82\xaca", "\x00\x00", "\xef\xbf\xbd\xef\xbf\xbd",
	"\xf0\x9f\x98\x80\xf0\x9f\x98\x80", "a\xc2\x80\xe0\xa0\x80\xf0\x90\x80\x80z",
	"\x7f\xdf\xbf\xef\xbf\xbf\xf4\x8f\xbf\xbf", "\xed\x9f\xbf\xee\x80\x80",
	strings.Repeat("\xc3\xa9x", 500),
}

// byDefinition is the chapter's definition of an encoding, length by length.
func byDefinition(sign int) []byte {
	part := func(bits int) byte { return byte(128 + sign>>bits%64) }
	switch {
	case sign < 128:
		return []byte{byte(sign)}
	case sign < 2048:
		return []byte{byte(192 + sign/64), part(0)}
	case sign < 65536:
		return []byte{byte(224 + sign/4096), part(6), part(0)}
	}
	return []byte{byte(240 + sign/262144), part(12), part(6), part(0)}
}

// invalid returns strings that are not valid: each broken one alone, and
// before, behind and between valid ones.
func invalid() []string {
	var l []string
	for _, s := range broken {
		l = append(l, s, "a"+s, "\xe2\x82\xac"+s, s+"\x7f", "\xf0\x9f\x98\x80"+s+"\xc3\xa9")
	}
	return l
}

func checkRead(t *testing.T, s string, sign, size int, ok bool) {
	t.Helper()
	gotSign, gotSize, gotOk := Read(s)
	if gotSign != sign || gotSize != size || gotOk != ok {
		t.Errorf("Read(%q): %d, %d, %t; want %d, %d, %t", s, gotSign, gotSize, gotOk, sign, size, ok)
	}
}

func TestPutOfEdges(t *testing.T) { // P3.1
	for _, c := range edges {
		if s, ok := Put(c.sign); s != c.encoding || !ok {
			t.Errorf("Put(%d): %q, %t; want %q", c.sign, s, ok, c.encoding)
		}
	}
	for _, sign := range outside {
		if s, ok := Put(sign); s != "" || ok {
			t.Errorf("Put(%d): %q, %t; want nothing", sign, s, ok)
		}
	}
}

func TestPutOfAll(t *testing.T) { // P3.1
	for sign := -3000; sign < 1200000; sign++ {
		s, ok := Put(sign)
		if ok != utf8.ValidRune(rune(sign)) {
			t.Fatalf("Put(%d): %t", sign, ok)
		}
		if !ok && s != "" {
			t.Fatalf("Put(%d): %q beside false", sign, s)
		}
		if ok && (s != string(rune(sign)) || s != string(byDefinition(sign))) {
			t.Fatalf("Put(%d): %q", sign, s)
		}
	}
}

func TestReadOfEdges(t *testing.T) { // P3.1
	for _, c := range edges {
		checkRead(t, c.encoding, c.sign, len(c.encoding), true)
	}
	checkRead(t, "", 0, 0, false)
	for _, s := range broken {
		checkRead(t, s, 0, 0, false)
		checkRead(t, s+"\x7f", 0, 0, false)
	}
}

// readByLibrary is Read by the library, which tells a fault as a size of
// one byte with the code point 65533.
func readByLibrary(s string) (sign, size int, ok bool) {
	r, size := utf8.DecodeRuneInString(s)
	if r == utf8.RuneError && size < 3 {
		return 0, 0, false
	}
	return int(r), size, true
}

func TestReadOfShortStrings(t *testing.T) { // P3.1
	var b [3]byte
	for n := range 1 << 24 {
		b[0], b[1], b[2] = byte(n>>16), byte(n>>8), byte(n)
		s := string(b[:])
		sign, size, ok := readByLibrary(s)
		gotSign, gotSize, gotOk := Read(s)
		if gotSign != sign || gotSize != size || gotOk != ok {
			t.Fatalf("Read(%q): %d, %d, %t; want %d, %d, %t", s, gotSign, gotSize, gotOk, sign, size, ok)
		}
		if n&0xff == 0 {
			sign, size, ok = readByLibrary(s[:2])
			checkRead(t, s[:2], sign, size, ok)
		}
	}
}

func TestReadOfFourBytes(t *testing.T) { // P3.1
	tails := []byte{0, 0x41, 0x7f, 0x80, 0x81, 0x8f, 0x90, 0x9f, 0xa0, 0xbf, 0xc0, 0xe2, 0xf0, 0xff}
	for first := range 256 {
		for _, b := range tails {
			for _, c := range tails {
				for _, d := range tails {
					s := string([]byte{byte(first), b, c, d})
					sign, size, ok := readByLibrary(s)
					checkRead(t, s, sign, size, ok)
				}
			}
		}
	}
}

func TestRightAndCount(t *testing.T) { // P3.2
	for _, s := range texts {
		if !Right(s) || Count(s) != utf8.RuneCountInString(s) {
			t.Errorf("%q: Right %t, Count %d", s, Right(s), Count(s))
		}
	}
	for _, s := range invalid() {
		if Right(s) || Count(s) != -1 {
			t.Errorf("%q: Right %t, Count %d", s, Right(s), Count(s))
		}
	}
	if n := Count(""); n != 0 {
		t.Errorf("Count of the empty string: %d", n)
	}
	if n := Count("a\xe2\x82\xac\xf0\x9f\x98\x80"); n != 3 {
		t.Errorf("Count: %d", n)
	}
}

func TestSigns(t *testing.T) { // P3.2
	for _, s := range texts {
		var want []int
		for _, r := range s {
			want = append(want, int(r))
		}
		if l := Signs(s); !slices.Equal(l, want) {
			t.Errorf("Signs(%q): %v; want %v", s, l, want)
		}
	}
	for _, s := range invalid() {
		if l := Signs(s); len(l) != 0 {
			t.Errorf("Signs(%q): %v; want none", s, l)
		}
	}
}

func TestSignsAreNewMemory(t *testing.T) { // R3
	s := "a\xe2\x82\xac"
	l := Signs(s)
	l[0], l[1] = 7, 8
	if again := Signs(s); !slices.Equal(again, []int{97, 8364}) {
		t.Errorf("Signs after its result was written to: %v", again)
	}
}

func TestText(t *testing.T) { // P3.2
	if s, ok := Text(); s != "" || !ok {
		t.Errorf("Text of none: %q, %t", s, ok)
	}
	if s, ok := Text([]int{}...); s != "" || !ok {
		t.Errorf("Text of an empty list: %q, %t", s, ok)
	}
	var signs []int
	want := ""
	for _, c := range edges {
		signs = append(signs, c.sign)
		want += c.encoding
		if s, ok := Text(c.sign); s != c.encoding || !ok {
			t.Errorf("Text(%d): %q, %t", c.sign, s, ok)
		}
	}
	given := slices.Clone(signs)
	if s, ok := Text(given...); s != want || !ok {
		t.Errorf("Text of the edges: %q, %t; want %q", s, ok, want)
	}
	if !slices.Equal(given, signs) {
		t.Errorf("Text changed its argument: %v", given)
	}
	for _, sign := range outside {
		for _, l := range [][]int{{sign}, {97, sign}, {sign, 97}, {8364, sign, 128512}} {
			if s, ok := Text(l...); s != "" || ok {
				t.Errorf("Text(%v): %q, %t; want nothing", l, s, ok)
			}
		}
	}
}

// longestPrefix is the chapter's definition of Cut, by trial.
func longestPrefix(s string, most int) string {
	for size := min(most, len(s)); size > 0; size-- {
		if utf8.ValidString(s[:size]) {
			return s[:size]
		}
	}
	return ""
}

func TestCut(t *testing.T) { // P3.3
	for _, s := range texts {
		for most := -3; most <= len(s)+3; most++ {
			if got, want := Cut(s, most), longestPrefix(s, most); got != want {
				t.Errorf("Cut(%q, %d): %q; want %q", s, most, got, want)
			}
		}
		for _, most := range []int{math.MinInt64, math.MinInt32} {
			if got := Cut(s, most); got != "" {
				t.Errorf("Cut(%q, %d): %q; want the empty string", s, most, got)
			}
		}
		for _, most := range []int{math.MaxInt32, math.MaxInt64} {
			if got := Cut(s, most); got != s {
				t.Errorf("Cut(%q, %d): %q; want all of it", s, most, got)
			}
		}
	}
	for i, want := range []string{"", "a", "a", "a", "a\xe2\x82\xac", "a\xe2\x82\xac"} {
		if got := Cut("a\xe2\x82\xac\xf0\x9f\x98\x80", i); got != want {
			t.Errorf("Cut at %d: %q; want %q", i, got, want)
		}
	}
}

func TestCutOfInvalid(t *testing.T) { // P3.3
	for _, s := range invalid() {
		for most := -1; most <= len(s)+1; most++ {
			if got := Cut(s, most); got != "" {
				t.Errorf("Cut(%q, %d): %q; want the empty string", s, most, got)
			}
		}
	}
}

func TestNoEncodingIsPrefixOfAnother(t *testing.T) { // P3.4
	all := make([]string, 0, 1112064)
	for sign := range 1114112 {
		if s, ok := Put(sign); ok {
			all = append(all, s)
		}
	}
	if len(all) != 1112064 {
		t.Fatalf("%d encodings", len(all))
	}
	// In order, a string comes immediately before one that it is a prefix of,
	// if it is a prefix of any.
	slices.Sort(all)
	for i := range len(all) - 1 {
		if strings.HasPrefix(all[i+1], all[i]) {
			t.Fatalf("%q is a prefix of %q", all[i], all[i+1])
		}
	}
}

func TestRoundTripOfAll(t *testing.T) { // P3.4, P7
	for sign := range 1114112 {
		s, ok := Put(sign)
		if !ok {
			continue
		}
		for _, behind := range []string{"", "\x00", "\x80", "\xbf\xbf\xbf", "\xff"} {
			got, size, ok := Read(s + behind)
			if got != sign || size != len(s) || !ok {
				t.Fatalf("Read(%q): %d, %d, %t; want %d", s+behind, got, size, ok, sign)
			}
		}
	}
}

func TestReadBeforeAnything(t *testing.T) { // P3.4
	for _, c := range edges {
		for behind := range 256 {
			checkRead(t, c.encoding+string([]byte{byte(behind)}), c.sign, len(c.encoding), true)
		}
		for _, s := range broken {
			checkRead(t, c.encoding+s, c.sign, len(c.encoding), true)
		}
		for _, d := range edges {
			checkRead(t, c.encoding+d.encoding, c.sign, len(c.encoding), true)
			l := []int{c.sign, d.sign, c.sign}
			s, ok := Text(l...)
			if !ok || !slices.Equal(Signs(s), l) {
				t.Errorf("%v: %q, read as %v", l, s, Signs(s))
			}
		}
	}
}

func TestRoundTripOfTexts(t *testing.T) { // P7
	for _, s := range texts {
		if again, ok := Text(Signs(s)...); again != s || !ok {
			t.Errorf("%q: %q after Signs and Text", s, again)
		}
	}
	// Whatever is read has exactly these bytes.
	for n := range 1 << 16 {
		s := string([]byte{byte(n >> 8), byte(n)})
		if !Right(s) {
			continue
		}
		if again, ok := Text(Signs(s)...); again != s || !ok {
			t.Fatalf("%q: %q after Signs and Text", s, again)
		}
	}
}

func TestLongStrings(t *testing.T) { // P1
	s := strings.Repeat("a\xc3\xa9\xe2\x82\xac\xf0\x9f\x98\x80", 100000)
	if Count(s) != 400000 || len(Signs(s)) != 400000 {
		t.Errorf("Count %d, Signs %d", Count(s), len(Signs(s)))
	}
	if got := Cut(s, 999999); got != s[:len(s)-4] {
		t.Errorf("Cut to %d bytes", len(got))
	}
	if Right(s + "\x80") {
		t.Error("a long string that is not valid at its end")
	}
}

package name

import (
	"fmt"
	"regexp"
	"slices"
	"sort"
	"strings"
	"testing"

	"haulage/api"
)

// names are names: of 1 and of 16 bytes, and with the first and the last of
// the letters and digits.
var names = []string{
	"a", "z", "m", "ab", "a_", "z9", "a0", "t_1", "id", "a__", "zz_09",
	"abcdefghijklmno", "abcdefghijklmnop", "z_0123456789_aaz", strings.Repeat("a", api.MaxName),
}

// noNames are strings that are not names.
var noNames = []string{
	"",
	// Too long, by one byte and by more.
	"abcdefghijklmnopq", strings.Repeat("a", api.MaxName+1), strings.Repeat("z", 2*api.MaxName), strings.Repeat("a", 70000),
	// A first byte that is no lower-case letter.
	"0", "9", "1a", "_", "_a", "__", "A", "Z", "Aa", "\x80", "\x80a", "\xe9", "\xff", "\xffa", "\xe1\x62", "\xc3\xa9", "-a", " a", ".a", "\x00a", "`a", "{a", "/a", ":a",
	// A later byte that is no name character.
	"a b", "a ", "a-b", "a.b", "aB", "aZ", "a\x00", "a\n", "a\x7f", "a\x80", "a\xc3\xa9", "a\xff", "a`", "a{", "a/", "a:", "a^", "a@", "a[",
	"abcdefghijklmno-", "abcdefghijklmnoP", "abcdefghijklmno ",
}

// anyStrings have names, strings of which one is a proper prefix of the
// other, and bytes from 128 on.
var anyStrings = []string{
	"", "\x00", "\x00\x00", "a", "ab", "abc", "abd", "b", "ba", "A", "_", "0", "9", "\x7f", "\x80", "\x80a", "\xff", "\xff\x00", "\xff\xff",
	"a\x00", "a\x7f", "a\x80", "a\xff", "abcdefghijklmnop", "abcdefghijklmnopq", "\"", "\\", "\n", "é", "€",
}

// endings are what may follow a quoted string.
var endings = []string{"", "\"", "\"\"", "\\", "\\\"", "n", "x", "x0a", "a", " ", "\n", "\x00", "\x80", "\xff", "\"a\"", "\\n\"", strings.Repeat("\"\\", 50)}

// nameForm is the chapter's definition of a name, beside its length.
var nameForm = regexp.MustCompile(`\A[a-z][a-z0-9_]*`)

// quotedForm is the chapter's definition of a quoted string: which sequences
// there are, each byte by itself, each with a backslash, and those with x for
// the bytes below 32 (but 10) and above 126.
var quotedForm = regexp.MustCompile(`\A"(?:[ !#-\[\]-~]|\\["\\n]|\\x(?:0[0-9b-f]|1[0-9a-f]|7f|[89a-f][0-9a-f]))*"`)

// byDefinition returns the form of a byte within the quotes.
func byDefinition(b byte) string {
	switch {
	case b == 34 || b == 92:
		return "\\" + string(rune(b))
	case b == 10:
		return "\\n"
	case b < 32 || b > 126:
		return fmt.Sprintf("\\x%02x", b)
	}
	return string(rune(b))
}

func quotedByDefinition(s string) string {
	quoted := "\""
	for _, b := range []byte(s) {
		quoted += byDefinition(b)
	}
	return quoted + "\""
}

// eachString passes each string of the given length of bytes of alphabet.
func eachString(alphabet string, length int, tell func(s string)) {
	index := make([]int, length)
	s := []byte(strings.Repeat(alphabet[:1], length))
	for {
		tell(string(s))
		i := length - 1
		for i >= 0 && index[i] == len(alphabet)-1 {
			index[i], s[i] = 0, alphabet[0]
			i--
		}
		if i < 0 {
			return
		}
		index[i]++
		s[i] = alphabet[index[i]]
	}
}

// P4.1
func TestRight(t *testing.T) {
	for _, s := range names {
		if !Right(s) {
			t.Errorf("Right(%q) is false", s)
		}
	}
	for _, s := range noNames {
		if Right(s) {
			t.Errorf("Right(%q) is true", s)
		}
	}
}

// P4.1
func TestRightAtEachLength(t *testing.T) {
	for n := range 40 {
		want := n >= 1 && n <= 16
		for _, b := range []string{"a", "z", "q"} {
			if s := strings.Repeat(b, n); Right(s) != want {
				t.Errorf("Right of %d times %s is %v", n, b, !want)
			}
		}
		if n > 0 {
			if s := "a" + strings.Repeat("_", n-1); Right(s) != want {
				t.Errorf("Right(%q) is %v", s, !want)
			}
		}
	}
}

// P4.1
func TestRightOfEachByte(t *testing.T) {
	const letters = "abcdefghijklmnopqrstuvwxyz"
	for i := range 256 {
		b := string([]byte{byte(i)})
		first := strings.Contains(letters, b)
		later := strings.Contains(letters+"0123456789_", b)
		if Right(b) != first || Right(b+"a") != first {
			t.Errorf("Right with the first byte %d is %v", i, !first)
		}
		for _, s := range []string{"a" + b, "a" + b + "z", "abcdefghijklmno" + b} {
			if Right(s) != later {
				t.Errorf("Right(%q) is %v", s, !later)
			}
		}
	}
}

// P4.1
func TestRead(t *testing.T) {
	for _, c := range []struct {
		s    string
		want int
	}{
		{"ab-c", 2}, {"", 0}, {"a", 1}, {"a b", 1}, {" a", 0}, {"-", 0}, {"1", 0}, {"1a", 0}, {"_a", 0}, {"Aa", 0}, {"\x80a", 0}, {"\xffa", 0},
		{"aB", 1}, {"a1_", 3}, {"a1_.b", 3}, {"t.id", 1}, {"z9\x80", 2}, {"z9\xc3\xa9", 2}, {"a\x00b", 1}, {"a\nb", 1}, {"a_=1", 2}, {"ab(c)", 2}, {"a__", 3},
		{"abcdefghijklmnop", 16}, {"abcdefghijklmnop,", 16}, {"abcdefghijklmnopq", 17}, {"abcdefghijklmnopq q", 17}, {"abcdefghijklmnopqr", 18},
		{strings.Repeat("a", 255) + "-", 255}, {strings.Repeat("a", 256), 256}, {strings.Repeat("a9_", 30000) + "A", 90000},
	} {
		if got := Read(c.s); got != c.want {
			t.Errorf("Read(%q) is %d, want %d", c.s, got, c.want)
		}
	}
	for _, l := range [][]string{names, noNames, anyStrings} {
		for _, s := range l {
			if got, want := Read(s), len(nameForm.FindString(s)); got != want {
				t.Errorf("Read(%q) is %d, want %d", s, got, want)
			}
		}
	}
}

// P4.1
func TestReadAndRightAgainstTheDefinition(t *testing.T) {
	for length := 1; length <= 5; length++ {
		eachString("az09_A-.\x80", length, func(s string) {
			want := len(nameForm.FindString(s))
			if got := Read(s); got != want {
				t.Fatalf("Read(%q) is %d, want %d", s, got, want)
			}
			if Right(s) != (want == length) {
				t.Fatalf("Right(%q) is %v", s, want != length)
			}
		})
	}
}

// P4.1
func TestOrder(t *testing.T) {
	for _, c := range []struct {
		a, b string
		want int
	}{
		{"", "", 0}, {"a", "a", 0}, {"\xff\x00", "\xff\x00", 0}, {"abcdefghijklmnopq", "abcdefghijklmnopq", 0},
		{"", "a", -1}, {"", "\x00", -1}, {"a", "ab", -1}, {"a", "a\x00", -1}, {"ab", "b", -1}, {"abc", "abd", -1}, {"b", "c", -1}, {"z", "za", -1},
		{"Z", "a", -1}, {"9", "_", -1}, {"_", "a", -1}, {"a", "\x80", -1}, {"\x7f", "\x80", -1}, {"\x00", "\xff", -1}, {"\x80", "\xff", -1}, {"abz", "ac", -1},
		{strings.Repeat("a", 300), strings.Repeat("a", 301), -1}, {"", strings.Repeat("a", 70000), -1},
	} {
		if got := Order(c.a, c.b); got != c.want {
			t.Errorf("Order(%q, %q) is %d, want %d", c.a, c.b, got, c.want)
		}
		if got := Order(c.b, c.a); got != -c.want {
			t.Errorf("Order(%q, %q) is %d, want %d", c.b, c.a, got, -c.want)
		}
	}
}

// P4.1
func TestOrderAgainstTheLibrary(t *testing.T) {
	l := slices.Concat(names, noNames, anyStrings)
	for _, a := range l {
		for _, b := range l {
			if got, want := Order(a, b), strings.Compare(a, b); got != want {
				t.Errorf("Order(%q, %q) is %d, want %d", a, b, got, want)
			}
		}
	}
	for i := range 256 {
		for j := range 256 {
			a, b := string([]byte{'x', byte(i)}), string([]byte{'x', byte(j)})
			if got, want := Order(a, b), strings.Compare(a, b); got != want {
				t.Errorf("Order(%q, %q) is %d, want %d", a, b, got, want)
			}
		}
	}
}

// P4.1
func TestSorted(t *testing.T) {
	for _, c := range []struct {
		l, want []string
	}{
		{nil, nil},
		{[]string{}, nil},
		{[]string{"a"}, []string{"a"}},
		{[]string{""}, []string{""}},
		{[]string{"", ""}, []string{""}},
		{[]string{"b", "a"}, []string{"a", "b"}},
		{[]string{"b", "a", "b"}, []string{"a", "b"}},
		{[]string{"a", "a", "a"}, []string{"a"}},
		{[]string{"ab", "a", "abc", "", "a", "ab"}, []string{"", "a", "ab", "abc"}},
		{[]string{"\xff", "\x80", "a", "Z", "_", "0", "\x00"}, []string{"\x00", "0", "Z", "_", "a", "\x80", "\xff"}},
		{[]string{"c", "b", "a", "c", "b", "a"}, []string{"a", "b", "c"}},
		{[]string{"a", "b", "b", "c", "c", "c"}, []string{"a", "b", "c"}},
	} {
		if got := Sorted(c.l...); !slices.Equal(got, c.want) {
			t.Errorf("Sorted(%q) is %q, want %q", c.l, got, c.want)
		}
	}
	if got := Sorted(); len(got) != 0 {
		t.Errorf("Sorted of nothing is %q", got)
	}
}

// P4.1
func TestSortedOfEachOrder(t *testing.T) {
	texts := map[byte]string{'0': "", '1': "a", '2': "ab", '3': "b"}
	for length := 1; length <= 5; length++ {
		eachString("0123", length, func(s string) {
			var l, want []string
			for _, b := range []byte(s) {
				l = append(l, texts[b])
				if !slices.Contains(want, texts[b]) {
					want = append(want, texts[b])
				}
			}
			sort.Strings(want)
			if got := Sorted(l...); !slices.Equal(got, want) {
				t.Fatalf("Sorted(%q) is %q, want %q", l, got, want)
			}
		})
	}
}

// P4.1: neither is the argument changed, nor is the result its memory.
func TestSortedIsNewMemory(t *testing.T) {
	for _, given := range [][]string{{"a"}, {"a", "b"}, {"b", "a", "b"}, {"c", "c", "a", "a"}} {
		l := slices.Clone(given)
		got := Sorted(l...)
		if !slices.Equal(l, given) {
			t.Errorf("Sorted turned its argument %q into %q", given, l)
		}
		want := slices.Clone(got)
		for i := range l {
			l[i] = "changed"
		}
		if !slices.Equal(got, want) {
			t.Errorf("the result %q changed with the argument to %q", want, got)
		}
		if again := Sorted(given...); !slices.Equal(again, want) {
			t.Errorf("Sorted(%q) is %q, then %q", given, want, again)
		}
	}
	long := make([]string, 8)
	long[0], long[1], long[2] = "b", "a", "b"
	if got := append(Sorted(long[:3]...), "x", "y", "z"); len(got) != 5 || long[2] != "b" || long[3] != "" {
		t.Errorf("appending to the result wrote into the argument: %q", long)
	}
}

// P4.2
func TestQuote(t *testing.T) {
	for _, c := range []struct{ s, want string }{
		{"a\"\n", `"a\"\n"`},
		{"", `""`},
		{"a", `"a"`},
		{" ", `" "`},
		{"~", `"~"`},
		{"a b.c", `"a b.c"`},
		{"\"", `"\""`},
		{"\\", `"\\"`},
		{"\\n", `"\\n"`},
		{"\\x41", `"\\x41"`},
		{"\n", `"\n"`},
		{"n", `"n"`},
		{"x41", `"x41"`},
		{"\x00", `"\x00"`},
		{"\t", `"\x09"`},
		{"\x0b", `"\x0b"`},
		{"\r\n", `"\x0d\n"`},
		{"\x1f", `"\x1f"`},
		{"\x7f", `"\x7f"`},
		{"\x80", `"\x80"`},
		{"\xff\xfe", `"\xff\xfe"`},
		{"é", `"\xc3\xa9"`},
		{"a\"\\\n\x00", `"a\"\\\n\x00"`},
		{"'", `"'"`},
		{"/", `"/"`},
	} {
		if got := Quote(c.s); got != c.want {
			t.Errorf("Quote(%q) is %s, want %s", c.s, got, c.want)
		}
		if s, size, ok := Unquote(c.want); s != c.s || size != len(c.want) || !ok {
			t.Errorf("Unquote(%s) is %q, %d, %v, want %q, %d, true", c.want, s, size, ok, c.s, len(c.want))
		}
	}
}

// P4.2
func TestQuoteOfEachByte(t *testing.T) {
	for i := range 256 {
		b := string([]byte{byte(i)})
		for _, s := range []string{b, b + b, "a" + b, b + "a", "\\" + b, b + "\"", "x" + b + "0a"} {
			want := quotedByDefinition(s)
			if got := Quote(s); got != want {
				t.Errorf("Quote(%q) is %s, want %s", s, got, want)
			}
			if got, size, ok := Unquote(want); got != s || size != len(want) || !ok {
				t.Errorf("Unquote(%s) is %q, %d, %v, want %q, %d, true", want, got, size, ok, s, len(want))
			}
		}
	}
}

// P4.2
func TestUnquoteRejects(t *testing.T) {
	for _, s := range []string{
		// No quote at the beginning.
		"", "a", "a\"", " \"a\"", "\\\"a\"", "'a'", "\n\"\"", "\x00",
		// No end.
		`"`, `"a`, `"abc`, `"a\"`, `"\"`, `"\"a`, `"\\\"`, `"\n`, `"\x00`, `"\xff`, `"a b`,
		// An end within a backslash's sequence.
		`"\`, `"a\`, `"\\\`, `"\x`, `"\x0`, `"\xf`, `"a\xf`,
		`"\x"`, `"\x0"`, `"\xf"`, `"\x0\"`, `"\x"00"`, `"\x0"0"`,
		// A sequence that is none.
		`"\a"`, `"\t"`, `"\r"`, `"\0"`, `"\000"`, `"\'"`, `"\ "`, `"\N"`, `"\X00"`, `"\u0041"`, `"\/"`, `"\` + "\n\"", `"\` + "\x00\"", `"\` + "\x80\"", `"\` + "\xff\"",
		`"\xg0"`, `"\x0g"`, `"\x 0"`, `"\x0 "`, `"\x-1"`, `"\x+1"`, `"\x:0"`, `"\x/0"`, "\"\\x`0\"",
		// Upper-case digits, one and both.
		`"\xFF"`, `"\xFf"`, `"\xfF"`, `"\x0A"`, `"\x0B"`, `"\x1F"`, `"\x7F"`, `"\xC3\xA9"`, `"\xc3\xA9"`,
		// Sequences for bytes that are written otherwise.
		`"\x41"`, `"\x20"`, `"\x7e"`, `"\x22"`, `"\x5c"`, `"\x0a"`, `"\x6e"`, `"\x78"`, `"a\x61"`, `"\x00\x30"`,
		// Bytes by themselves that are written with a backslash.
		"\"\n\"", "\"\x00\"", "\"\t\"", "\"\r\"", "\"\x1f\"", "\"\x7f\"", "\"\x80\"", "\"\xff\"", "\"\xc3\xa9\"", "\"a\nb\"", "\"a\x7f", "\"abc\x80\"",
	} {
		if text, size, ok := Unquote(s); text != "" || size != 0 || ok {
			t.Errorf("Unquote(%q) is %q, %d, %v", s, text, size, ok)
		}
	}
}

// P4.2: of all sequences with x exactly those of the bytes below 32, but 10,
// and above 126 are read.
func TestUnquoteOfEachSequence(t *testing.T) {
	for i := range 256 {
		for j := range 256 {
			s := string([]byte{'"', '\\', 'x', byte(i), byte(j), '"'})
			want := ""
			if quotedForm.MatchString(s) {
				want = string([]byte{unhex(t, s[3:5])})
			}
			text, size, ok := Unquote(s)
			if text != want || ok != (want != "") || ok && size != 6 || !ok && size != 0 {
				t.Errorf("Unquote(%q) is %q, %d, %v, want %q", s, text, size, ok, want)
			}
		}
	}
}

func unhex(t *testing.T, s string) byte {
	var b byte
	if _, err := fmt.Sscanf(s, "%02x", &b); err != nil {
		t.Fatal(err)
	}
	return b
}

// P4.2: all sequences of a backslash and one byte.
func TestUnquoteOfEachByteAfterABackslash(t *testing.T) {
	want := map[byte]string{'"': "\"", '\\': "\\", 'n': "\n"}
	for i := range 256 {
		s := string([]byte{'"', '\\', byte(i), '"'})
		text, size, ok := Unquote(s)
		w, is := want[byte(i)]
		if text != w || ok != is || ok && size != 4 || !ok && size != 0 {
			t.Errorf("Unquote(%q) is %q, %d, %v, want %q, %v", s, text, size, ok, w, is)
		}
	}
}

// P4.2, P4.4: a quoted string is recovered whatever follows it.
func TestUnquoteWhateverFollows(t *testing.T) {
	texts := slices.Concat(anyStrings, names, []string{"a\"\n", "\\", "\\\\", "\\\"", "\"\"", "\\x0a", strings.Repeat("\x80\"\\\n", 300)})
	for i := range 256 {
		texts = append(texts, string([]byte{byte(i)}))
	}
	for _, s := range texts {
		quoted := Quote(s)
		for _, ending := range endings {
			if text, size, ok := Unquote(quoted + ending); text != s || size != len(quoted) || !ok {
				t.Errorf("Unquote(%q) is %q, %d, %v, want %q, %d, true", quoted+ending, text, size, ok, s, len(quoted))
			}
		}
		for n := range len(quoted) {
			if text, size, ok := Unquote(quoted[:n]); text != "" || size != 0 || ok {
				t.Errorf("Unquote(%q) is %q, %d, %v", quoted[:n], text, size, ok)
			}
		}
	}
}

// P4.4: whatever is accepted is the Quote of its result, and nothing that the
// definition has is rejected.
func TestUnquoteAcceptsWhatQuoteWrites(t *testing.T) {
	check := func(s string) {
		text, size, ok := Unquote(s)
		want := quotedForm.FindString(s)
		if ok != (want != "") || size != len(want) {
			t.Fatalf("Unquote(%q) is %q, %d, %v, want the size %d", s, text, size, ok, len(want))
		}
		if ok && Quote(text) != s[:size] {
			t.Fatalf("Unquote(%q) is %q, whose Quote is %q", s, text, Quote(text))
		}
		if !ok && text != "" {
			t.Fatalf("Unquote(%q) is %q beside false", s, text)
		}
	}
	for length := 0; length <= 5; length++ {
		eachString("\"\\nx0faA \n\x80", length, func(s string) {
			check(s)
			check("\"" + s)
			check("\"" + s + "\"")
		})
	}
	for i := range 256 {
		for j := range 256 {
			check(string([]byte{'"', byte(i), byte(j), '"'}))
		}
	}
}

// P4.3
func TestPath(t *testing.T) {
	for _, a := range names {
		for _, b := range names {
			p, ok := Path(a, b)
			if p != a+"."+b || !ok {
				t.Errorf("Path(%q, %q) is %q, %v", a, b, p, ok)
			}
			if x, y, ok := Split(p); x != a || y != b || !ok {
				t.Errorf("Split(%q) is %q, %q, %v", p, x, y, ok)
			}
		}
	}
	for _, good := range names {
		for _, bad := range noNames {
			for _, c := range [][2]string{{good, bad}, {bad, good}, {bad, bad}} {
				if p, ok := Path(c[0], c[1]); p != "" || ok {
					t.Errorf("Path(%q, %q) is %q, %v", c[0], c[1], p, ok)
				}
			}
		}
	}
}

// P4.3
func TestSplitRejects(t *testing.T) {
	l := []string{
		// No dot.
		"", "a", "ab", "t_id", "t,id", "t id", "abcdefghijklmnopq",
		// Two dots and more.
		"a.b.c", "a..b", "..", "...", ".a.b", "a.b.", "a.b..", "a.b.c.d",
		// An empty part.
		".", "a.", ".a", "abc.", ".abc",
	}
	for _, bad := range noNames {
		if bad != "a.b" {
			l = append(l, bad)
		}
		l = append(l, bad+".a", "a."+bad, bad+"."+bad)
	}
	for _, s := range l {
		if a, b, ok := Split(s); a != "" || b != "" || ok {
			t.Errorf("Split(%q) is %q, %q, %v", s, a, b, ok)
		}
	}
}

// P4.3: whatever Split accepts is the Path of its results, and it accepts
// just the paths.
func TestSplitAgainstTheDefinition(t *testing.T) {
	form := regexp.MustCompile(`\A([a-z][a-z0-9_]*)\.([a-z][a-z0-9_]*)\z`)
	for length := 0; length <= 6; length++ {
		eachString("a0_.A", max(length, 1), func(s string) {
			s = s[:length]
			wantA, wantB := "", ""
			m := form.FindStringSubmatch(s)
			if m != nil {
				wantA, wantB = m[1], m[2]
			}
			a, b, ok := Split(s)
			if a != wantA || b != wantB || ok != (m != nil) {
				t.Fatalf("Split(%q) is %q, %q, %v", s, a, b, ok)
			}
			if p, _ := Path(a, b); ok && p != s {
				t.Fatalf("Split(%q) is %q, %q, whose path is %q", s, a, b, p)
			}
		})
	}
	for i := range 40 {
		a := strings.Repeat("a", i)
		want := i >= 1 && i <= 16
		if _, _, ok := Split(a + ".b"); ok != want {
			t.Errorf("Split of %d bytes before the dot is %v", i, ok)
		}
		if _, _, ok := Split("b." + a); ok != want {
			t.Errorf("Split of %d bytes behind the dot is %v", i, ok)
		}
	}
}

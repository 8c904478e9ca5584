package value

import (
	"cmp"
	"encoding/hex"
	"math"
	"math/big"
	"regexp"
	"slices"
	"strconv"
	"strings"
	"testing"
	"unicode/utf8"

	"haulage/api"
)

const (
	least32    = math.MinInt32
	greatest32 = math.MaxInt32
	least64    = math.MinInt64
	greatest64 = math.MaxInt64
)

// numbers32 fit 32 bits, numbers64 only 64: the edges, and numbers of each
// length.
var (
	numbers32 = []int64{0, 1, -1, 5, -5, 9, -9, 10, -10, 11, 99, -99, 100, -100, 101, 12345, -90210, 1000000000, greatest32 - 1, greatest32, least32 + 1, least32}
	numbers64 = []int64{greatest32 + 1, least32 - 1, 1 << 32, -1 << 32, 9999999999, -10000000000, 1 << 62, -1 << 62, 1000000000000000000, -999999999999999999, greatest64 - 1, greatest64, least64 + 1, least64}
)

// The strings of at most 120 bytes: those that are valid UTF-8, and those
// that are not.
var (
	texts = []string{
		"", "a", "x", "\"", "\\", "\n", "null", "0", "a\"\n", "\x00", "\x1f", "\x7f", "é", "€", "\U0010ffff", "x\"00\"", "12l",
		strings.Repeat("a", 119), strings.Repeat("a", 120), strings.Repeat("é", 60), strings.Repeat("€", 40), strings.Repeat("\U0001f600", 30), strings.Repeat("\x00", 120), strings.Repeat("\"", 120),
	}
	noTexts = []string{"\xff", "\x80", "a\x80", "\xc3", "\xc3\xa9\xc3", "\xc0\x80", "\xed\xa0\x80", "\xf4\x90\x80\x80", strings.Repeat("a", 119) + "\xff", strings.Repeat("\x80", 120)}
)

// The strings of more than 120 bytes.
var (
	longTexts   = []string{strings.Repeat("a", 121), strings.Repeat("é", 60) + "a", strings.Repeat("é", 61), strings.Repeat("€", 41), strings.Repeat("a", 70000)}
	longNoTexts = []string{strings.Repeat("a", 120) + "\xff", "\xff" + strings.Repeat("a", 120), strings.Repeat("\x80", 121), strings.Repeat("\xff", 70000)}
)

// valid returns values of each kind that are valid.
func valid() []api.Value {
	l := []api.Value{{}}
	for _, n := range numbers32 {
		l = append(l, api.Value{Kind: api.KInt, N: n}, api.Value{Kind: api.KLong, N: n})
	}
	for _, n := range numbers64 {
		l = append(l, api.Value{Kind: api.KLong, N: n})
	}
	for _, s := range texts {
		l = append(l, api.Value{Kind: api.KText, S: s}, api.Value{Kind: api.KBytes, S: s})
	}
	for _, s := range noTexts {
		l = append(l, api.Value{Kind: api.KBytes, S: s})
	}
	return l
}

// notValid returns values that are not valid.
func notValid() []api.Value {
	var l []api.Value
	// A field that the kind does not mention.
	for _, n := range []int64{1, -1, greatest64, least64} {
		l = append(l, api.Value{N: n}, api.Value{Kind: api.KText, N: n}, api.Value{Kind: api.KText, N: n, S: "a"}, api.Value{Kind: api.KBytes, N: n}, api.Value{Kind: api.KBytes, N: n, S: "\xff"})
	}
	for _, s := range []string{"a", "\x00", "\xff", "null", "0", strings.Repeat("a", 121)} {
		l = append(l, api.Value{S: s}, api.Value{Kind: api.KInt, S: s}, api.Value{Kind: api.KInt, N: 7, S: s}, api.Value{Kind: api.KLong, S: s}, api.Value{Kind: api.KLong, N: least64, S: s})
	}
	l = append(l, api.Value{N: 1, S: "a"})
	// A number beyond 32 bits, a string that is too long or not valid.
	for _, n := range numbers64 {
		l = append(l, api.Value{Kind: api.KInt, N: n})
	}
	for _, s := range noTexts {
		l = append(l, api.Value{Kind: api.KText, S: s})
	}
	for _, s := range slices.Concat(longTexts, longNoTexts) {
		l = append(l, api.Value{Kind: api.KText, S: s}, api.Value{Kind: api.KBytes, S: s})
	}
	// A kind that is none.
	for _, kind := range []int{-1, 5, 6, 256, 257, 1 << 32, 1<<32 + 1, math.MinInt, math.MaxInt} {
		l = append(l, api.Value{Kind: kind}, api.Value{Kind: kind, N: 1}, api.Value{Kind: kind, S: "a"}, api.Value{Kind: kind, N: 1, S: "a"})
	}
	return l
}

// textByDefinition returns the text of a valid value.
func textByDefinition(v api.Value) string {
	switch v.Kind {
	case api.KInt:
		return strconv.FormatInt(v.N, 10)
	case api.KLong:
		return strconv.FormatInt(v.N, 10) + "l"
	case api.KText:
		return quotedByDefinition(v.S)
	case api.KBytes:
		return `x"` + hex.EncodeToString([]byte(v.S)) + `"`
	}
	return "null"
}

func quotedByDefinition(s string) string {
	quoted := `"`
	for _, b := range []byte(s) {
		switch {
		case b == 34 || b == 92:
			quoted += `\` + string(rune(b))
		case b == 10:
			quoted += `\n`
		case b < 32 || b > 126:
			quoted += `\x` + hex.EncodeToString([]byte{b})
		default:
			quoted += string(rune(b))
		}
	}
	return quoted + `"`
}

// The forms of the chapter, at the beginning of a string.
var (
	nameForm   = regexp.MustCompile(`\A[a-z][a-z0-9_]*`)
	minusOr    = regexp.MustCompile(`\A-?[0-9]*`)
	numberForm = regexp.MustCompile(`\A(?:0|-?[1-9][0-9]*)\z`)
	quotedForm = regexp.MustCompile(`\A"(?:[ !#-\[\]-~]|\\["\\n]|\\x(?:0[0-9b-f]|1[0-9a-f]|7f|[89a-f][0-9a-f]))*"`)
	bytesForm  = regexp.MustCompile(`\Ax"(?:[0-9a-f][0-9a-f])*"`)
)

// numberByDefinition says what Number returns.
func numberByDefinition(s string) (int64, int, api.Errno) {
	found := minusOr.FindString(s)
	if !numberForm.MatchString(found) {
		return 0, 0, api.ErrForm
	}
	n, ok := new(big.Int).SetString(found, 10)
	if !ok || !n.IsInt64() {
		return 0, 0, api.ErrRange
	}
	return n.Int64(), len(found), api.OK
}

// readByDefinition says what Read returns.
func readByDefinition(t *testing.T, s string) (api.Value, int, api.Errno) {
	t.Helper()
	switch {
	case nameForm.FindString(s) == "null":
		return api.Value{}, 4, api.OK
	case minusOr.FindString(s) != "":
		n, size, e := numberByDefinition(s)
		switch {
		case e != api.OK:
			return api.Value{}, 0, e
		case strings.HasPrefix(s[size:], "l"):
			return api.Value{Kind: api.KLong, N: n}, size + 1, api.OK
		case n < least32 || n > greatest32:
			return api.Value{}, 0, api.ErrRange
		}
		return api.Value{Kind: api.KInt, N: n}, size, api.OK
	case quotedForm.MatchString(s):
		found := quotedForm.FindString(s)
		text, err := strconv.Unquote(found)
		switch {
		case err != nil:
			t.Fatal(found, err)
		case len(text) > 120:
			return api.Value{}, 0, api.ErrLimit
		case !utf8.ValidString(text):
			return api.Value{}, 0, api.ErrForm
		}
		return api.Value{Kind: api.KText, S: text}, len(found), api.OK
	case bytesForm.MatchString(s):
		found := bytesForm.FindString(s)
		b, err := hex.DecodeString(found[2 : len(found)-1])
		switch {
		case err != nil:
			t.Fatal(found, err)
		case len(b) > 120:
			return api.Value{}, 0, api.ErrLimit
		}
		return api.Value{Kind: api.KBytes, S: string(b)}, len(found), api.OK
	}
	return api.Value{}, 0, api.ErrForm
}

// checkReading holds what is read from s against the definitions, and checks
// that whatever is read is exactly the text of the result.
func checkReading(t *testing.T, s string) {
	t.Helper()
	wantN, wantSize, wantE := numberByDefinition(s)
	if n, size, e := Number(s); n != wantN || size != wantSize || e != wantE {
		t.Errorf("Number(%q) is %d, %d, %d, want %d, %d, %d", s, n, size, e, wantN, wantSize, wantE)
	}
	want, wantSize, wantE := readByDefinition(t, s)
	v, size, e := Read(s)
	if v != want || size != wantSize || e != wantE {
		t.Errorf("Read(%q) is %#v, %d, %d, want %#v, %d, %d", s, v, size, e, want, wantSize, wantE)
	}
	if e == api.OK {
		if text, e := Print(v); size > len(s) || text != s[:size] || e != api.OK || !Right(v) {
			t.Errorf("Read(%q) is %#v, whose text is %q, %d", s, v, text, e)
		}
	}
	if wantE == api.OK && wantSize < len(s) {
		want, wantE = api.Value{}, api.ErrExtra
	}
	if v, e := Parse(s); v != want || e != wantE {
		t.Errorf("Parse(%q) is %#v, %d, want %#v, %d", s, v, e, want, wantE)
	}
}

// eachString passes each string of the given length of bytes of alphabet.
func eachString(alphabet string, length int, tell func(s string)) {
	if length == 0 {
		tell("")
		return
	}
	eachString(alphabet, length-1, func(s string) {
		for i := range len(alphabet) {
			tell(s + alphabet[i:i+1])
		}
	})
}

// P5.1
func TestRight(t *testing.T) {
	for _, v := range valid() {
		if !Right(v) {
			t.Errorf("Right(%#v) is false", v)
		}
	}
	for _, v := range notValid() {
		if Right(v) {
			t.Errorf("Right(%#v) is true", v)
		}
	}
}

// P5.1
func TestInt(t *testing.T) {
	for _, n := range numbers32 {
		if v, e := Int(n); v != (api.Value{Kind: api.KInt, N: n}) || e != api.OK {
			t.Errorf("Int(%d) is %#v, %d", n, v, e)
		}
	}
	for _, n := range numbers64 {
		if v, e := Int(n); v != (api.Value{}) || e != api.ErrRange {
			t.Errorf("Int(%d) is %#v, %d", n, v, e)
		}
	}
}

// P5.1
func TestLong(t *testing.T) {
	for _, n := range slices.Concat(numbers32, numbers64) {
		if v := Long(n); v != (api.Value{Kind: api.KLong, N: n}) {
			t.Errorf("Long(%d) is %#v", n, v)
		}
	}
}

// P5.1
func TestText(t *testing.T) {
	for _, s := range texts {
		if v, e := Text(s); v != (api.Value{Kind: api.KText, S: s}) || e != api.OK {
			t.Errorf("Text(%q) is %#v, %d", s, v, e)
		}
	}
	for _, s := range noTexts {
		if v, e := Text(s); v != (api.Value{}) || e != api.ErrForm {
			t.Errorf("Text(%q) is %#v, %d", s, v, e)
		}
	}
	// ErrLimit is named first.
	for _, s := range slices.Concat(longTexts, longNoTexts) {
		if v, e := Text(s); v != (api.Value{}) || e != api.ErrLimit {
			t.Errorf("Text of %d bytes is %#v, %d", len(s), v, e)
		}
	}
}

// P5.1
func TestBytes(t *testing.T) {
	for _, s := range slices.Concat(texts, noTexts) {
		if v, e := Bytes(s); v != (api.Value{Kind: api.KBytes, S: s}) || e != api.OK {
			t.Errorf("Bytes(%q) is %#v, %d", s, v, e)
		}
	}
	for _, s := range slices.Concat(longTexts, longNoTexts) {
		if v, e := Bytes(s); v != (api.Value{}) || e != api.ErrLimit {
			t.Errorf("Bytes of %d bytes is %#v, %d", len(s), v, e)
		}
	}
}

// P5.1
func TestTextAndBytesAtEachLength(t *testing.T) {
	for length := range 250 {
		s := strings.Repeat("a", length)
		want := api.OK
		if length > 120 {
			want = api.ErrLimit
		}
		if v, e := Text(s); e != want || Right(api.Value{Kind: api.KText, S: s}) != (want == api.OK) || e == api.OK && v.S != s {
			t.Errorf("Text of %d bytes is %#v, %d", length, v, e)
		}
		if v, e := Bytes(s); e != want || Right(api.Value{Kind: api.KBytes, S: s}) != (want == api.OK) || e == api.OK && v.S != s {
			t.Errorf("Bytes of %d bytes is %#v, %d", length, v, e)
		}
	}
}

// P5.2
func TestOrder(t *testing.T) {
	for _, c := range []struct {
		a, b api.Value
		want int
	}{
		{api.Value{}, api.Value{}, 0},
		{api.Value{Kind: 3, S: "é"}, api.Value{Kind: 3, S: "é"}, 0},
		{api.Value{Kind: 9, N: 2, S: "b"}, api.Value{Kind: 9, N: 2, S: "b"}, 0},
		// By Kind, whatever the rest is.
		{api.Value{}, api.Value{Kind: 1}, -1},
		{api.Value{}, api.Value{Kind: 1, N: least32}, -1},
		{api.Value{Kind: 1, N: 9}, api.Value{Kind: 2}, -1},
		{api.Value{Kind: 1, N: greatest32}, api.Value{Kind: 2, N: least64}, -1},
		{api.Value{Kind: 2, N: greatest64}, api.Value{Kind: 3}, -1},
		{api.Value{Kind: 3, S: "z"}, api.Value{Kind: 4}, -1},
		{api.Value{Kind: 3, S: "a"}, api.Value{Kind: 4, S: "a"}, -1},
		{api.Value{Kind: -1, N: 5}, api.Value{}, -1},
		{api.Value{Kind: 4, S: "z"}, api.Value{Kind: 5}, -1},
		{api.Value{Kind: math.MinInt}, api.Value{Kind: math.MaxInt}, -1},
		// By N, whatever S is.
		{api.Value{Kind: 1, N: -1}, api.Value{Kind: 1}, -1},
		{api.Value{Kind: 1, N: 9}, api.Value{Kind: 1, N: 10}, -1},
		{api.Value{Kind: 1, N: least32}, api.Value{Kind: 1, N: greatest32}, -1},
		{api.Value{Kind: 2, N: least64}, api.Value{Kind: 2, N: greatest64}, -1},
		{api.Value{Kind: 2, N: -1}, api.Value{Kind: 2, N: greatest64}, -1},
		{api.Value{Kind: 2, N: least64}, api.Value{Kind: 2, N: 1}, -1},
		{api.Value{Kind: 3, N: 1, S: "z"}, api.Value{Kind: 3, N: 2, S: "a"}, -1},
		// By S.
		{api.Value{Kind: 3}, api.Value{Kind: 3, S: "a"}, -1},
		{api.Value{Kind: 3, S: "ab"}, api.Value{Kind: 3, S: "b"}, -1},
		{api.Value{Kind: 3, S: "a"}, api.Value{Kind: 3, S: "ab"}, -1},
		{api.Value{Kind: 3, S: "Z"}, api.Value{Kind: 3, S: "a"}, -1},
		{api.Value{Kind: 3, S: "z"}, api.Value{Kind: 3, S: "é"}, -1},
		{api.Value{Kind: 4}, api.Value{Kind: 4, S: "\x00"}, -1},
		{api.Value{Kind: 4, S: "\x7f"}, api.Value{Kind: 4, S: "\x80"}, -1},
		{api.Value{Kind: 4, S: "\x00"}, api.Value{Kind: 4, S: "\xff"}, -1},
		{api.Value{Kind: 4, S: "a\xff"}, api.Value{Kind: 4, S: "b"}, -1},
		{api.Value{Kind: 1, N: 3, S: "a"}, api.Value{Kind: 1, N: 3, S: "b"}, -1},
		{api.Value{Kind: 0, S: "a"}, api.Value{Kind: 0, S: "b"}, -1},
	} {
		if got := Order(c.a, c.b); got != c.want {
			t.Errorf("Order(%#v, %#v) is %d, want %d", c.a, c.b, got, c.want)
		}
		if got := Order(c.b, c.a); got != -c.want {
			t.Errorf("Order(%#v, %#v) is %d, want %d", c.b, c.a, got, -c.want)
		}
	}
}

// P5.2: all pairs, valid or not, against the definition.
func TestOrderAgainstTheDefinition(t *testing.T) {
	l := append(valid(), notValid()...)
	for _, a := range l {
		for _, b := range l {
			want := cmp.Compare(a.Kind, b.Kind)
			if want == 0 {
				want = cmp.Compare(a.N, b.N)
			}
			if want == 0 {
				want = strings.Compare(a.S, b.S)
			}
			if got := Order(a, b); got != want {
				t.Fatalf("Order(%#v, %#v) is %d, want %d", a, b, got, want)
			}
			if (Order(a, b) == 0) != (a == b) {
				t.Fatalf("Order(%#v, %#v) is 0", a, b)
			}
		}
	}
}

// P5.3
func TestDigits(t *testing.T) {
	for _, c := range []struct {
		n    int64
		want string
	}{
		{0, "0"}, {1, "1"}, {-1, "-1"}, {9, "9"}, {10, "10"}, {-10, "-10"}, {100, "100"}, {-5, "-5"}, {12345, "12345"},
		{greatest32, "2147483647"}, {least32, "-2147483648"}, {greatest32 + 1, "2147483648"}, {least32 - 1, "-2147483649"},
		{greatest64, "9223372036854775807"}, {least64, "-9223372036854775808"}, {least64 + 1, "-9223372036854775807"},
	} {
		if got := Digits(c.n); got != c.want {
			t.Errorf("Digits(%d) is %q, want %q", c.n, got, c.want)
		}
	}
}

// P5.3, P5.5
func TestDigitsAndNumberAgainstTheLibrary(t *testing.T) {
	check := func(n int64) {
		t.Helper()
		want := strconv.FormatInt(n, 10)
		if got := Digits(n); got != want {
			t.Errorf("Digits(%d) is %q", n, got)
		}
		if got, size, e := Number(want + ","); got != n || size != len(want) || e != api.OK {
			t.Errorf("Number(%q) is %d, %d, %d", want, got, size, e)
		}
	}
	for n := int64(-1200); n <= 1200; n++ {
		check(n)
	}
	for bits := range 64 {
		for off := int64(-2); off <= 2; off++ {
			check(int64(uint64(1)<<bits) + off)
			check(-int64(uint64(1)<<bits) + off)
		}
	}
	for power := int64(1); power <= greatest64/10; power *= 10 {
		for _, n := range []int64{power - 1, power, power + 1, 9 * power} {
			check(n)
			check(-n)
		}
	}
}

// P5.3
func TestNumber(t *testing.T) {
	for _, c := range []struct {
		s    string
		n    int64
		size int
		e    api.Errno
	}{
		{"0", 0, 1, api.OK}, {"7", 7, 1, api.OK}, {"-7", -7, 2, api.OK}, {"10", 10, 2, api.OK}, {"-10", -10, 3, api.OK}, {"1000000", 1000000, 7, api.OK},
		{"2147483647", greatest32, 10, api.OK}, {"2147483648", greatest32 + 1, 10, api.OK}, {"-2147483648", least32, 11, api.OK}, {"-2147483649", least32 - 1, 11, api.OK},
		{"9223372036854775807", greatest64, 19, api.OK}, {"-9223372036854775808", least64, 20, api.OK},
		// What follows the digits is ignored.
		{"0l", 0, 1, api.OK}, {"0x", 0, 1, api.OK}, {"0-", 0, 1, api.OK}, {"0.5", 0, 1, api.OK}, {"12l, 3", 12, 2, api.OK}, {"5 6", 5, 1, api.OK}, {"5-6", 5, 1, api.OK}, {"1_000", 1, 1, api.OK}, {"1e3", 1, 1, api.OK}, {"3\xff", 3, 1, api.OK},
		{"3\x00", 3, 1, api.OK}, {"1/", 1, 1, api.OK}, {"1:", 1, 1, api.OK}, {"9223372036854775807 0", greatest64, 19, api.OK}, {"-1-", -1, 2, api.OK},
		// No digit.
		{"", 0, 0, api.ErrForm}, {"-", 0, 0, api.ErrForm}, {"--1", 0, 0, api.ErrForm}, {"- 1", 0, 0, api.ErrForm}, {"-l", 0, 0, api.ErrForm}, {"l", 0, 0, api.ErrForm}, {"+1", 0, 0, api.ErrForm}, {" 1", 0, 0, api.ErrForm}, {"a1", 0, 0, api.ErrForm}, {".5", 0, 0, api.ErrForm}, {"/", 0, 0, api.ErrForm}, {":", 0, 0, api.ErrForm}, {"-:", 0, 0, api.ErrForm}, {"\x00", 0, 0, api.ErrForm}, {"\xff1", 0, 0, api.ErrForm}, {"٣", 0, 0, api.ErrForm},
		// A zero before other digits.
		{"00", 0, 0, api.ErrForm}, {"01", 0, 0, api.ErrForm}, {"000", 0, 0, api.ErrForm}, {"007l", 0, 0, api.ErrForm}, {"01 ", 0, 0, api.ErrForm},
		// - before 0.
		{"-0", 0, 0, api.ErrForm}, {"-00", 0, 0, api.ErrForm}, {"-01", 0, 0, api.ErrForm}, {"-0l", 0, 0, api.ErrForm}, {"-0 ", 0, 0, api.ErrForm},
		// Beyond 64 bits.
		{"9223372036854775808", 0, 0, api.ErrRange}, {"-9223372036854775809", 0, 0, api.ErrRange}, {"9999999999999999999", 0, 0, api.ErrRange}, {"-9999999999999999999", 0, 0, api.ErrRange}, {"10000000000000000000", 0, 0, api.ErrRange}, {"-10000000000000000000", 0, 0, api.ErrRange},
		{"18446744073709551615", 0, 0, api.ErrRange}, {"18446744073709551616", 0, 0, api.ErrRange}, {"18446744073709551617", 0, 0, api.ErrRange}, {"-18446744073709551617", 0, 0, api.ErrRange}, {"36893488147419103232", 0, 0, api.ErrRange},
		{"92233720368547758070", 0, 0, api.ErrRange}, {"9223372036854775808l", 0, 0, api.ErrRange}, {"1" + strings.Repeat("0", 70000), 0, 0, api.ErrRange},
		// ErrForm is named before ErrRange.
		{"09223372036854775808", 0, 0, api.ErrForm}, {"-09223372036854775809", 0, 0, api.ErrForm}, {strings.Repeat("0", 70000), 0, 0, api.ErrForm},
	} {
		if n, size, e := Number(c.s); n != c.n || size != c.size || e != c.e {
			t.Errorf("Number(%.40q) is %d, %d, %d, want %d, %d, %d", c.s, n, size, e, c.n, c.size, c.e)
		}
	}
}

// P5.4
func TestPrintAndParse(t *testing.T) {
	for _, c := range []struct {
		v    api.Value
		text string
	}{
		{api.Value{}, "null"},
		{api.Value{Kind: api.KInt}, "0"},
		{api.Value{Kind: api.KInt, N: -7}, "-7"},
		{api.Value{Kind: api.KInt, N: 10}, "10"},
		{api.Value{Kind: api.KInt, N: greatest32}, "2147483647"},
		{api.Value{Kind: api.KInt, N: least32}, "-2147483648"},
		{api.Value{Kind: api.KLong}, "0l"},
		{api.Value{Kind: api.KLong, N: -5}, "-5l"},
		{api.Value{Kind: api.KLong, N: greatest32}, "2147483647l"},
		{api.Value{Kind: api.KLong, N: greatest32 + 1}, "2147483648l"},
		{api.Value{Kind: api.KLong, N: greatest64}, "9223372036854775807l"},
		{api.Value{Kind: api.KLong, N: least64}, "-9223372036854775808l"},
		{api.Value{Kind: api.KText}, `""`},
		{api.Value{Kind: api.KText, S: "a\"\n"}, `"a\"\n"`},
		{api.Value{Kind: api.KText, S: "é\\\x00"}, `"\xc3\xa9\\\x00"`},
		{api.Value{Kind: api.KText, S: "null"}, `"null"`},
		{api.Value{Kind: api.KText, S: strings.Repeat("a", 120)}, `"` + strings.Repeat("a", 120) + `"`},
		{api.Value{Kind: api.KBytes}, `x""`},
		{api.Value{Kind: api.KBytes, S: "\x0a\xff"}, `x"0aff"`},
		{api.Value{Kind: api.KBytes, S: "a"}, `x"61"`},
		{api.Value{Kind: api.KBytes, S: "\x01\x23\x45\x67\x89\xab\xcd\xef"}, `x"0123456789abcdef"`},
		{api.Value{Kind: api.KBytes, S: strings.Repeat("\xf0", 120)}, `x"` + strings.Repeat("f0", 120) + `"`},
	} {
		if s, e := Print(c.v); s != c.text || e != api.OK {
			t.Errorf("Print(%#v) is %q, %d, want %q", c.v, s, e, c.text)
		}
		if v, e := Parse(c.text); v != c.v || e != api.OK {
			t.Errorf("Parse(%q) is %#v, %d, want %#v", c.text, v, e, c.v)
		}
		if v, size, e := Read(c.text); v != c.v || size != len(c.text) || e != api.OK {
			t.Errorf("Read(%q) is %#v, %d, %d, want %#v", c.text, v, size, e, c.v)
		}
	}
}

// P5.4
func TestPrintOfEachByte(t *testing.T) {
	for i := range 256 {
		v := api.Value{Kind: api.KBytes, S: string([]byte{byte(i)})}
		want := `x"` + hex.EncodeToString([]byte{byte(i)}) + `"`
		if s, e := Print(v); s != want || e != api.OK {
			t.Errorf("Print(%#v) is %q, %d, want %q", v, s, e, want)
		}
		if got, e := Parse(want); got != v || e != api.OK {
			t.Errorf("Parse(%q) is %#v, %d, want %#v", want, got, e, v)
		}
	}
}

// P5.4
func TestPrintRejects(t *testing.T) {
	for _, v := range notValid() {
		if s, e := Print(v); s != "" || e != api.ErrArg {
			t.Errorf("Print(%#v) is %q, %d", v, s, e)
		}
	}
}

// P5.4: wrong texts, with the error of both Read and Parse.
func TestReadRejects(t *testing.T) {
	for _, c := range []struct {
		s string
		e api.Errno
	}{
		// Nothing that begins a value.
		{"", api.ErrForm}, {" ", api.ErrForm}, {" 1", api.ErrForm}, {" null", api.ErrForm}, {"+1", api.ErrForm}, {"l", api.ErrForm}, {"a", api.ErrForm}, {"_", api.ErrForm}, {"'a'", api.ErrForm}, {"\\", api.ErrForm}, {"\x00", api.ErrForm}, {"\xff", api.ErrForm}, {"true", api.ErrForm}, {".", api.ErrForm}, {"/", api.ErrForm}, {":", api.ErrForm},
		// null and what is not.
		{"n", api.ErrForm}, {"nul", api.ErrForm}, {"Null", api.ErrForm}, {"NULL", api.ErrForm}, {"nulL", api.ErrForm}, {"nulls", api.ErrForm}, {"nulll", api.ErrForm}, {"null0", api.ErrForm}, {"null_", api.ErrForm}, {"nullnull", api.ErrForm}, {"nullx\"00\"", api.ErrForm}, {"null" + strings.Repeat("a", 70000), api.ErrForm},
		// The errors of Number.
		{"-", api.ErrForm}, {"--1", api.ErrForm}, {"-l", api.ErrForm}, {"-a", api.ErrForm}, {"-0", api.ErrForm}, {"-0l", api.ErrForm}, {"00", api.ErrForm}, {"01", api.ErrForm}, {"01l", api.ErrForm}, {"-01", api.ErrForm}, {"- 1", api.ErrForm}, {"-null", api.ErrForm},
		{"9223372036854775808", api.ErrRange}, {"9223372036854775808l", api.ErrRange}, {"-9223372036854775809", api.ErrRange}, {"-9223372036854775809l", api.ErrRange}, {"18446744073709551616", api.ErrRange}, {"18446744073709551617l", api.ErrRange}, {strings.Repeat("9", 70000), api.ErrRange}, {strings.Repeat("9", 70000) + "l", api.ErrRange},
		// Beyond 32 bits without l.
		{"2147483648", api.ErrRange}, {"-2147483649", api.ErrRange}, {"4294967296", api.ErrRange}, {"9223372036854775807", api.ErrRange}, {"-9223372036854775808", api.ErrRange}, {"2147483648 l", api.ErrRange}, {"2147483648L", api.ErrRange}, {"2147483648 ", api.ErrRange},
		// No quoted string.
		{`"`, api.ErrForm}, {`"a`, api.ErrForm}, {`"a\"`, api.ErrForm}, {`"\x41"`, api.ErrForm}, {`"\xFF"`, api.ErrForm}, {`"\t"`, api.ErrForm}, {"\"\n\"", api.ErrForm}, {"\"é\"", api.ErrForm}, {`"` + strings.Repeat("a", 70000), api.ErrForm},
		// The errors of Text.
		{`"\xff"`, api.ErrForm}, {`"\xc3"`, api.ErrForm}, {`"a\x80"`, api.ErrForm}, {`"\xed\xa0\x80"`, api.ErrForm},
		{`"` + strings.Repeat("a", 121) + `"`, api.ErrLimit}, {`"` + strings.Repeat(`\xc3\xa9`, 61) + `"`, api.ErrLimit}, {`"` + strings.Repeat(`\xff`, 121) + `"`, api.ErrLimit}, {`"` + strings.Repeat(`\n`, 70000) + `"`, api.ErrLimit}, {`"` + strings.Repeat("a", 121) + `" `, api.ErrLimit},
		// No bytes.
		{"x", api.ErrForm}, {"x0", api.ErrForm}, {"x 00", api.ErrForm}, {"x '00'", api.ErrForm}, {"x \"00\"", api.ErrForm}, {"xx\"00\"", api.ErrForm}, {`X"00"`, api.ErrForm}, {`ax"00"`, api.ErrForm},
		{`x"`, api.ErrForm}, {`x"0`, api.ErrForm}, {`x"00`, api.ErrForm}, {`x"0a0`, api.ErrForm}, {`x"0"`, api.ErrForm}, {`x"0a0"`, api.ErrForm}, {`x"0"0"`, api.ErrForm}, {`x"0A"`, api.ErrForm}, {`x"A0"`, api.ErrForm}, {`x"FF"`, api.ErrForm}, {`x"0g"`, api.ErrForm}, {`x"g0"`, api.ErrForm}, {`x" 0"`, api.ErrForm}, {`x"0 "`, api.ErrForm}, {`x"00 11"`, api.ErrForm}, {`x"-1"`, api.ErrForm}, {`x"\x"`, api.ErrForm}, {`x"\""`, api.ErrForm}, {`x"00x"`, api.ErrForm}, {`x"` + "\x00\x00" + `"`, api.ErrForm}, {`x"` + "\xff\xff" + `"`, api.ErrForm},
		// The error of Bytes, after those of the form.
		{`x"` + strings.Repeat("00", 121) + `"`, api.ErrLimit}, {`x"` + strings.Repeat("ff", 70000) + `"`, api.ErrLimit}, {`x"` + strings.Repeat("00", 121) + `"0`, api.ErrLimit}, {`x"` + strings.Repeat("00", 121), api.ErrForm}, {`x"` + strings.Repeat("00", 121) + `0"`, api.ErrForm}, {`x"` + strings.Repeat("00", 121) + `0A"`, api.ErrForm},
	} {
		if v, size, e := Read(c.s); v != (api.Value{}) || size != 0 || e != c.e {
			t.Errorf("Read(%.40q) is %#v, %d, %d, want %d", c.s, v, size, e, c.e)
		}
		if v, e := Parse(c.s); v != (api.Value{}) || e != c.e {
			t.Errorf("Parse(%.40q) is %#v, %d, want %d", c.s, v, e, c.e)
		}
	}
}

// P5.4: Read ends at the end of the text, where Parse returns ErrExtra.
func TestSomethingFollows(t *testing.T) {
	for _, c := range []struct {
		s    string
		v    api.Value
		size int
	}{
		{"12l, 3", api.Value{Kind: api.KLong, N: 12}, 3},
		{"1ll", api.Value{Kind: api.KLong, N: 1}, 2},
		{"1l1", api.Value{Kind: api.KLong, N: 1}, 2},
		{"1 ", api.Value{Kind: api.KInt, N: 1}, 1},
		{"1 l", api.Value{Kind: api.KInt, N: 1}, 1},
		{"1L", api.Value{Kind: api.KInt, N: 1}, 1},
		{"0x", api.Value{Kind: api.KInt}, 1},
		{"0-", api.Value{Kind: api.KInt}, 1},
		{"-5-5", api.Value{Kind: api.KInt, N: -5}, 2},
		{"1.5", api.Value{Kind: api.KInt, N: 1}, 1},
		{"null ", api.Value{}, 4},
		{"null,null", api.Value{}, 4},
		{"null\"", api.Value{}, 4},
		{"nullA", api.Value{}, 4},
		{"null-", api.Value{}, 4},
		{"null\xff", api.Value{}, 4},
		{`"a""`, api.Value{Kind: api.KText, S: "a"}, 3},
		{`"a"b`, api.Value{Kind: api.KText, S: "a"}, 3},
		{`"" `, api.Value{Kind: api.KText}, 2},
		{`x"00"0`, api.Value{Kind: api.KBytes, S: "\x00"}, 5},
		{`x""00"`, api.Value{Kind: api.KBytes}, 3},
		{`x"00"x"00"`, api.Value{Kind: api.KBytes, S: "\x00"}, 5},
	} {
		if v, size, e := Read(c.s); v != c.v || size != c.size || e != api.OK {
			t.Errorf("Read(%q) is %#v, %d, %d, want %#v, %d", c.s, v, size, e, c.v, c.size)
		}
		if v, e := Parse(c.s); v != (api.Value{}) || e != api.ErrExtra {
			t.Errorf("Parse(%q) is %#v, %d", c.s, v, e)
		}
	}
}

// excepted reports whether P5.5 excepts what follows the text of v.
func excepted(v api.Value, after string) bool {
	if after == "" {
		return false
	}
	switch v.Kind {
	case api.KNull:
		return strings.Contains("abcdefghijklmnopqrstuvwxyz0123456789_", after[:1])
	case api.KInt:
		return strings.Contains("0123456789l", after[:1])
	}
	return false
}

// P5.5
func TestTextIsReadWhateverFollows(t *testing.T) {
	endings := []string{"", "\"\"", "\\\"", " l", ", 3", "x\"00\"", "-1", "null", "\xff\xff", strings.Repeat("\"\\0al", 50)}
	for i := range 256 {
		endings = append(endings, string([]byte{byte(i)}))
	}
	for _, v := range valid() {
		text, e := Print(v)
		if want := textByDefinition(v); text != want || e != api.OK {
			t.Errorf("Print(%#v) is %q, %d, want %q", v, text, e, want)
		}
		if got, e := Parse(text); got != v || e != api.OK {
			t.Errorf("Parse(%q) is %#v, %d, want %#v", text, got, e, v)
		}
		for _, after := range endings {
			if excepted(v, after) {
				continue
			}
			if got, size, e := Read(text + after); got != v || size != len(text) || e != api.OK {
				t.Errorf("Read(%q) is %#v, %d, %d, want %#v, %d", text+after, got, size, e, v, len(text))
			}
		}
	}
}

// P5.3, P5.4, P5.5: all short strings of the bytes that matter.
func TestReadingOfShortStrings(t *testing.T) {
	for length := range 6 {
		eachString("-0129l\"xa\\n", length, func(s string) { checkReading(t, s) })
	}
	for length := range 6 {
		eachString("0afA\"", length, func(s string) { checkReading(t, `x"`+s) })
		eachString("\\xc3a9\"", length, func(s string) { checkReading(t, `"\xc3`+s) })
		eachString("07859l", length, func(s string) {
			checkReading(t, "21474836"+s)
			checkReading(t, "-21474836"+s)
			checkReading(t, "922337203685477"+s)
			checkReading(t, "-922337203685477"+s)
		})
	}
	for i := range 256 {
		for j := range 256 {
			s := string([]byte{byte(i), byte(j)})
			checkReading(t, s)
			checkReading(t, `x"`+s+`"`)
			checkReading(t, "null"+s)
		}
	}
}

// P5.3, P5.4, P5.5: texts of values in which one byte is missing, is another
// one, or stands before it.
func TestReadingOfAlteredTexts(t *testing.T) {
	const others = "-09l\"xafAF\\n \x00\x80\xff"
	for _, v := range valid() {
		text := textByDefinition(v)
		checkReading(t, text)
		for i := range len(text) {
			checkReading(t, text[:i])
			checkReading(t, text[i:])
			checkReading(t, text[:i]+text[i+1:])
			if i > 20 && i < len(text)-20 && i%7 != 0 {
				continue
			}
			for _, b := range []byte(others) {
				checkReading(t, text[:i]+string([]byte{b})+text[i:])
				checkReading(t, text[:i]+string([]byte{b})+text[i+1:])
			}
		}
	}
}

package sortkey

import (
	"encoding/binary"
	"math"
	"math/rand"
	"regexp"
	"slices"
	"strings"
	"testing"
	"unicode/utf8"

	"haulage/api"
	"haulage/value"
)

const (
	least32    = math.MinInt32
	greatest32 = math.MaxInt32
	least64    = math.MinInt64
	greatest64 = math.MaxInt64
)

func vInt(n int64) api.Value    { return api.Value{Kind: api.KInt, N: n} }
func vLong(n int64) api.Value   { return api.Value{Kind: api.KLong, N: n} }
func vText(s string) api.Value  { return api.Value{Kind: api.KText, S: s} }
func vBytes(s string) api.Value { return api.Value{Kind: api.KBytes, S: s} }

// numbers32 fit 32 bits, numbers64 only 64: the edges, and numbers on both
// sides of each byte.
var (
	numbers32 = []int64{0, 1, -1, 2, -2, 127, 128, -128, -129, 255, 256, -255, -256, -257, 65535, 65536, -65536, -65537, 16777215, 16777216, -16777216, -16777217, greatest32 - 1, greatest32, least32 + 1, least32}
	numbers64 = []int64{greatest32 + 1, least32 - 1, 1<<32 - 1, 1 << 32, 1<<32 + 1, -1 << 32, -1<<32 - 1, 1<<40 - 1, 1 << 40, -1 << 40, 1 << 48, -1<<48 - 1, 1 << 56, -1 << 56, 0x0102030405060708, 1 << 62, -1 << 62, greatest64 - 1, greatest64, least64 + 1, least64}
)

// The strings of at most 120 bytes: those that are valid UTF-8, and those that
// are not.
var (
	texts = []string{
		"", "\x00", "\x00\x00", "\x00\x00\x00", "\x00a", "a\x00", "a\x00a", "a\x00\x00", "a\x00\x00a", "\x00\x01", "\x01", "\x01\x00", "a", "a\x01", "aa", "ab", "b", "a\x7f", "\x7f",
		"é", "aé", "é\x00", "\x00é", "ÿ", "€", "\U0010ffff", "\U0010ffff\x00",
		strings.Repeat("a", 119), strings.Repeat("a", 120), strings.Repeat("a", 119) + "\x00", strings.Repeat("a", 118) + "\x00b", "\x00" + strings.Repeat("a", 119), strings.Repeat("\x00", 119), strings.Repeat("\x00", 120), strings.Repeat("é", 60), strings.Repeat("€", 40), strings.Repeat("\U0010ffff", 30),
	}
	noTexts = []string{
		"\xff", "\xff\xff", "\x00\xff", "\xff\x00", "\x00\xff\x00", "\xff\x00\xff", "\x00\x00\xff", "a\xff", "\xffa", "\xfe", "\xfe\xff", "\xff\xfe", "\x80", "a\x80", "\xc3", "\xc3\x00\xa9", "\xc0\x80", "\xed\xa0\x80", "\xf4\x90\x80\x80",
		strings.Repeat("\xff", 119), strings.Repeat("\xff", 120), strings.Repeat("\x00\xff", 60), strings.Repeat("a", 119) + "\xff",
	}
)

// The strings of more than 120 bytes.
var (
	longTexts   = []string{strings.Repeat("a", 121), strings.Repeat("\x00", 121), strings.Repeat("a", 120) + "\x00", strings.Repeat("é", 60) + "a", strings.Repeat("é", 61), strings.Repeat("€", 41), strings.Repeat("a", 70000)}
	longNoTexts = []string{strings.Repeat("a", 120) + "\xff", "\xff" + strings.Repeat("a", 120), strings.Repeat("\x80", 121), strings.Repeat("\xff", 121), strings.Repeat("\x00\xff", 61), strings.Repeat("a", 119) + "\xc3a", strings.Repeat("\xff", 70000)}
)

// valid returns values of each kind that are valid.
func valid() []api.Value {
	l := []api.Value{{}}
	for _, n := range numbers32 {
		l = append(l, vInt(n), vLong(n))
	}
	for _, n := range numbers64 {
		l = append(l, vLong(n))
	}
	for _, s := range texts {
		l = append(l, vText(s), vBytes(s))
	}
	for _, s := range noTexts {
		l = append(l, vBytes(s))
	}
	return l
}

// chosen returns some of the valid values: those whose keys are the easiest to
// confuse where several are concatenated.
func chosen() []api.Value {
	return []api.Value{
		{}, vInt(least32), vInt(-1), vInt(0), vInt(256), vInt(greatest32), vLong(least64), vLong(-1), vLong(0), vLong(greatest64),
		vText(""), vText("\x00"), vText("\x00\x00"), vText("\x00\x01"), vText("\x01"), vText("a"), vText("a\x00"), vText("ab"),
		vBytes(""), vBytes("\x00"), vBytes("\x00\xff"), vBytes("\x00\xff\x00"), vBytes("\x03"), vBytes("a"), vBytes("\xff"), vBytes("\xff\x00"), vBytes("\xff\xff"),
	}
}

// notValid returns values that are not valid.
func notValid() []api.Value {
	l := []api.Value{{N: 1}, {N: -1}, {S: "a"}, {S: "\x00"}, {N: 1, S: "a"}}
	for _, s := range []string{"a", "\x00", "\xff", strings.Repeat("a", 121)} {
		l = append(l, api.Value{Kind: api.KInt, S: s}, api.Value{Kind: api.KLong, N: 7, S: s})
	}
	for _, n := range []int64{1, -1, least64, greatest64} {
		l = append(l, api.Value{Kind: api.KText, N: n}, api.Value{Kind: api.KText, N: n, S: "a"}, api.Value{Kind: api.KBytes, N: n, S: "a"})
	}
	for _, n := range numbers64 {
		l = append(l, vInt(n))
	}
	for _, s := range noTexts {
		l = append(l, vText(s))
	}
	for _, s := range slices.Concat(longTexts, longNoTexts) {
		l = append(l, vText(s), vBytes(s))
	}
	for _, kind := range []int{-1, 5, 6, 255, 256, 257, 1 << 32, 1<<32 + 1, math.MinInt, math.MaxInt} {
		l = append(l, api.Value{Kind: kind}, api.Value{Kind: kind, N: 1}, api.Value{Kind: kind, S: "a"})
	}
	return l
}

// keyByDefinition returns the key of a value of one of the kinds.
func keyByDefinition(v api.Value) string {
	switch v.Kind {
	case api.KInt:
		return "\x01" + string(binary.BigEndian.AppendUint32(nil, uint32(v.N+1<<31)))
	case api.KLong:
		return "\x02" + string(binary.BigEndian.AppendUint64(nil, uint64(v.N)+1<<63))
	case api.KText:
		return "\x03" + strings.ReplaceAll(v.S, "\x00", "\x00\xff") + "\x00\x00"
	case api.KBytes:
		return "\x04" + strings.ReplaceAll(v.S, "\x00", "\x00\xff") + "\x00\x00"
	}
	return "\x00"
}

func keysByDefinition(l []api.Value) string {
	var keys strings.Builder
	for _, v := range l {
		keys.WriteString(keyByDefinition(v))
	}
	return keys.String()
}

// written matches what a key has between its Kind and its end, or as far as it
// goes on correctly, with each byte as the sign of that number.
var written = regexp.MustCompile(`\A(?:[^\x00]|\x00\xff)*`)

// readByDefinition says what Read returns.
func readByDefinition(s string) (api.Value, int, api.Errno) {
	if s == "" {
		return api.Value{}, 0, api.ErrEnd
	}
	sizes := map[byte]int{0: 1, 1: 5, 2: 9}
	size, fixed := sizes[s[0]]
	switch {
	case s[0] > 4:
		return api.Value{}, 0, api.ErrForm
	case !fixed:
		return stringByDefinition(s)
	case len(s) < size:
		return api.Value{}, 0, api.ErrEnd
	case s[0] == 1:
		return vInt(int64(binary.BigEndian.Uint32([]byte(s[1:5]))) - 1<<31), 5, api.OK
	case s[0] == 2:
		return vLong(int64(binary.BigEndian.Uint64([]byte(s[1:9])) - 1<<63)), 9, api.OK
	}
	return api.Value{}, 1, api.OK
}

// stringByDefinition says what Read returns for the Kind of a string or bytes.
func stringByDefinition(s string) (api.Value, int, api.Errno) {
	var signs []rune
	for _, b := range []byte(s[1:]) {
		signs = append(signs, rune(b))
	}
	size := 1 + utf8.RuneCountInString(written.FindString(string(signs)))
	content := strings.ReplaceAll(s[1:size], "\x00\xff", "\x00")
	switch rest := s[size:]; {
	case rest == "" || rest == "\x00":
		return api.Value{}, 0, api.ErrEnd
	case !strings.HasPrefix(rest, "\x00\x00"):
		return api.Value{}, 0, api.ErrForm
	case s[0] == 3 && !utf8.ValidString(content):
		return api.Value{}, 0, api.ErrForm
	case len(content) > 120:
		return api.Value{}, 0, api.ErrLimit
	}
	return api.Value{Kind: int(s[0]), S: content}, size + 2, api.OK
}

// allByDefinition says what All returns.
func allByDefinition(s string) ([]api.Value, api.Errno) {
	var l []api.Value
	for s != "" {
		v, size, e := readByDefinition(s)
		if e != api.OK {
			return nil, e
		}
		l = append(l, v)
		s = s[size:]
	}
	return l, api.OK
}

// checkReading holds Read and All against the definitions, and what they read
// against what Of writes.
func checkReading(t *testing.T, s string) {
	t.Helper()
	wantV, wantSize, wantE := readByDefinition(s)
	v, size, e := Read(s)
	if v != wantV || size != wantSize || e != wantE {
		t.Errorf("Read(%.60q) is %#v, %d, %d, want %#v, %d, %d", s, v, size, e, wantV, wantSize, wantE)
	}
	if e == api.OK {
		if key, again := Of(v); key != s[:size] || again != api.OK {
			t.Errorf("Read(%.60q) is %#v, whose key is %q, %d", s, v, key, again)
		}
	}
	wantL, wantE := allByDefinition(s)
	l, e := All(s)
	if !slices.Equal(l, wantL) || e != wantE {
		t.Errorf("All(%.60q) is %#v, %d, want %#v, %d", s, l, e, wantL, wantE)
	}
	if e == api.OK {
		if keys, again := Of(l...); keys != s || again != api.OK {
			t.Errorf("All(%.60q) is %#v, whose keys are %q, %d", s, l, keys, again)
		}
	}
}

// eachString passes all strings of this length that consist of the bytes.
func eachString(bytes string, length int, tell func(s string)) {
	if length == 0 {
		tell("")
		return
	}
	eachString(bytes, length-1, func(s string) {
		for i := range len(bytes) {
			tell(s + bytes[i:i+1])
		}
	})
}

// stringsUpTo returns all strings of at most this length that consist of the
// bytes.
func stringsUpTo(bytes string, length int) []string {
	var l []string
	for size := range length + 1 {
		eachString(bytes, size, func(s string) { l = append(l, s) })
	}
	return l
}

// P7.1, P7.2: the bytes of keys, written out.
func TestKeys(t *testing.T) {
	for _, c := range []struct {
		l []api.Value
		s string
	}{
		{nil, ""},
		{[]api.Value{}, ""},
		{[]api.Value{{}}, "\x00"},
		{[]api.Value{vInt(-1)}, "\x01\x7f\xff\xff\xff"},
		{[]api.Value{vInt(0)}, "\x01\x80\x00\x00\x00"},
		{[]api.Value{vInt(1)}, "\x01\x80\x00\x00\x01"},
		{[]api.Value{vInt(0x01020304)}, "\x01\x81\x02\x03\x04"},
		{[]api.Value{vInt(least32)}, "\x01\x00\x00\x00\x00"},
		{[]api.Value{vInt(greatest32)}, "\x01\xff\xff\xff\xff"},
		{[]api.Value{vLong(-1)}, "\x02\x7f\xff\xff\xff\xff\xff\xff\xff"},
		{[]api.Value{vLong(0)}, "\x02\x80\x00\x00\x00\x00\x00\x00\x00"},
		{[]api.Value{vLong(1)}, "\x02\x80\x00\x00\x00\x00\x00\x00\x01"},
		{[]api.Value{vLong(0x0102030405060708)}, "\x02\x81\x02\x03\x04\x05\x06\x07\x08"},
		{[]api.Value{vLong(least32)}, "\x02\x7f\xff\xff\xff\x80\x00\x00\x00"},
		{[]api.Value{vLong(greatest32)}, "\x02\x80\x00\x00\x00\x7f\xff\xff\xff"},
		{[]api.Value{vLong(least64)}, "\x02\x00\x00\x00\x00\x00\x00\x00\x00"},
		{[]api.Value{vLong(greatest64)}, "\x02\xff\xff\xff\xff\xff\xff\xff\xff"},
		{[]api.Value{vText("")}, "\x03\x00\x00"},
		{[]api.Value{vText("a")}, "\x03a\x00\x00"},
		{[]api.Value{vText("\x00")}, "\x03\x00\xff\x00\x00"},
		{[]api.Value{vText("\x00a")}, "\x03\x00\xffa\x00\x00"},
		{[]api.Value{vText("a\x00b")}, "\x03a\x00\xffb\x00\x00"},
		{[]api.Value{vText("a\x00")}, "\x03a\x00\xff\x00\x00"},
		{[]api.Value{vText("\x00\x00")}, "\x03\x00\xff\x00\xff\x00\x00"},
		{[]api.Value{vText("é")}, "\x03\xc3\xa9\x00\x00"},
		{[]api.Value{vText(strings.Repeat("a", 120))}, "\x03" + strings.Repeat("a", 120) + "\x00\x00"},
		{[]api.Value{vText(strings.Repeat("\x00", 120))}, "\x03" + strings.Repeat("\x00\xff", 120) + "\x00\x00"},
		{[]api.Value{vBytes("")}, "\x04\x00\x00"},
		{[]api.Value{vBytes("\x00b")}, "\x04\x00\xffb\x00\x00"},
		{[]api.Value{vBytes("\xff")}, "\x04\xff\x00\x00"},
		{[]api.Value{vBytes("\x00\xff")}, "\x04\x00\xff\xff\x00\x00"},
		{[]api.Value{vBytes("\xff\x00")}, "\x04\xff\x00\xff\x00\x00"},
		{[]api.Value{vBytes(strings.Repeat("\xff", 120))}, "\x04" + strings.Repeat("\xff", 120) + "\x00\x00"},
		{[]api.Value{{}, {}}, "\x00\x00"},
		{[]api.Value{vInt(-1), vText("a"), {}}, "\x01\x7f\xff\xff\xff\x03a\x00\x00\x00"},
		{[]api.Value{vText(""), vBytes(""), vText("")}, "\x03\x00\x00\x04\x00\x00\x03\x00\x00"},
		{[]api.Value{{}, vLong(2), vBytes("\x01"), vInt(3)}, "\x00\x02\x80\x00\x00\x00\x00\x00\x00\x02\x04\x01\x00\x00\x01\x80\x00\x00\x03"},
	} {
		if s, e := Of(c.l...); s != c.s || e != api.OK {
			t.Errorf("Of(%#v) is %q, %d, want %q", c.l, s, e, c.s)
		}
		if l, e := All(c.s); !slices.Equal(l, c.l) || e != api.OK {
			t.Errorf("All(%q) is %#v, %d, want %#v", c.s, l, e, c.l)
		}
	}
}

// P7.1: one value that is not valid, at each place among valid ones.
func TestOfRejects(t *testing.T) {
	good := []api.Value{{}, vInt(7), vText("a"), vBytes("\x00")}
	for _, v := range notValid() {
		for place := range len(good) + 1 {
			l := slices.Insert(slices.Clone(good), place, v)
			if s, e := Of(l...); s != "" || e != api.ErrArg {
				t.Errorf("Of with %#v at %d is %q, %d", v, place, s, e)
			}
		}
		if s, e := Of(v); s != "" || e != api.ErrArg {
			t.Errorf("Of(%#v) is %q, %d", v, s, e)
		}
		if s, e := Of(v, v); s != "" || e != api.ErrArg {
			t.Errorf("Of(%#v twice) is %q, %d", v, s, e)
		}
	}
}

// P7.1: the values of the caller remain as they were.
func TestOfLeavesItsArguments(t *testing.T) {
	l := valid()
	if _, e := Of(l...); e != api.OK || !slices.Equal(l, valid()) {
		t.Errorf("after Of the values are %#v, %d", l, e)
	}
	l = append(valid(), notValid()...)
	if _, e := Of(l...); e != api.ErrArg || !slices.Equal(l, append(valid(), notValid()...)) {
		t.Errorf("after Of the values are %#v, %d", l, e)
	}
}

// P7.2, P7.4: a key is read as its value, whatever follows it.
func TestReadOfKeys(t *testing.T) {
	endings := []string{"\x00\x00", "\x00\xff", "\xff\x00", "\xff\xff", "\x01\x80", "\x03a\x00\x00", strings.Repeat("\xff\x00", 200)}
	for i := range 256 {
		endings = append(endings, string([]byte{byte(i)}))
	}
	for _, v := range valid() {
		want := keyByDefinition(v)
		key, e := Of(v)
		if key != want || e != api.OK {
			t.Errorf("Of(%#v) is %q, %d, want %q", v, key, e, want)
		}
		if l, e := All(key); !slices.Equal(l, []api.Value{v}) || e != api.OK {
			t.Errorf("All(%q) is %#v, %d, want %#v alone", key, l, e, v)
		}
		for _, after := range append(endings, "") {
			if got, size, e := Read(key + after); got != v || size != len(key) || e != api.OK {
				t.Errorf("Read(%q) is %#v, %d, %d, want %#v, %d", key+after, got, size, e, v, len(key))
			}
		}
	}
}

// P7.2: wrong keys, with the error of both Read and All.
func TestReadRejects(t *testing.T) {
	end := "\x00\x00"
	long := strings.Repeat("a", 121)
	for _, c := range []struct {
		s string
		e api.Errno
	}{
		// s ends too early.
		{"\x01", api.ErrEnd}, {"\x01\x80", api.ErrEnd}, {"\x01\x80\x00\x00", api.ErrEnd},
		{"\x02", api.ErrEnd}, {"\x02\x80\x00\x00\x00", api.ErrEnd}, {"\x02\x80\x00\x00\x00\x00\x00\x00", api.ErrEnd},
		{"\x03", api.ErrEnd}, {"\x03a", api.ErrEnd}, {"\x03a\x00", api.ErrEnd}, {"\x03\x00", api.ErrEnd}, {"\x03\x00\xff", api.ErrEnd}, {"\x03\x00\xff\x00", api.ErrEnd},
		{"\x04", api.ErrEnd}, {"\x04a", api.ErrEnd}, {"\x04a\x00", api.ErrEnd}, {"\x04\x00", api.ErrEnd}, {"\x04\xff\x00\xff\x00", api.ErrEnd},
		// It ends too early before it could be found not valid or too long.
		{"\x03\xff", api.ErrEnd}, {"\x03\xff\x00", api.ErrEnd}, {"\x03\x00\xff\xff\x00", api.ErrEnd}, {"\x03" + long, api.ErrEnd}, {"\x03" + long + "\x00", api.ErrEnd}, {"\x04" + long + "\x00", api.ErrEnd}, {"\x03\xff" + long, api.ErrEnd}, {"\x04" + strings.Repeat("\xff", 70000), api.ErrEnd},
		// No Kind, whatever follows.
		{"\x05", api.ErrForm}, {"\x05a\x00\x00", api.ErrForm}, {"\x06", api.ErrForm}, {"\x7f", api.ErrForm}, {"\x80", api.ErrForm}, {"\x81\x80\x00\x00\x00", api.ErrForm}, {"\xff", api.ErrForm}, {"\xff\x00", api.ErrForm},
		// A byte 0 is followed by another byte than 0 and 255.
		{"\x03\x00\x01", api.ErrForm}, {"\x03\x00\xfe", api.ErrForm}, {"\x03a\x00\x01\x00\x00", api.ErrForm}, {"\x03a\x00a", api.ErrForm}, {"\x03\x00\xff\x00\x01", api.ErrForm}, {"\x04\x00\x01", api.ErrForm}, {"\x04\x00\xfe\x00\x00", api.ErrForm}, {"\x04a\x00\xff\x00\x7f", api.ErrForm}, {"\x04\xff\x00\x80", api.ErrForm},
		{"\x03" + long + "\x00\x01", api.ErrForm}, {"\x04" + long + "\x00\x01" + end, api.ErrForm}, {"\x03\xff\x00\x01", api.ErrForm},
		// No UTF-8.
		{"\x03\xff" + end, api.ErrForm}, {"\x03\x80" + end, api.ErrForm}, {"\x03a\xc3" + end, api.ErrForm}, {"\x03\xc3\x00\xff\xa9" + end, api.ErrForm}, {"\x03\x00\xff\xff" + end, api.ErrForm}, {"\x03\xc0\x80" + end, api.ErrForm}, {"\x03\xed\xa0\x80" + end, api.ErrForm}, {"\x03\xf4\x90\x80\x80" + end, api.ErrForm}, {"\x03\xff" + end + "\x05", api.ErrForm},
		// No UTF-8, and too long.
		{"\x03\xff" + strings.Repeat("a", 120) + end, api.ErrForm}, {"\x03" + strings.Repeat("a", 120) + "\xff" + end, api.ErrForm}, {"\x03" + long + "\xff" + end, api.ErrForm}, {"\x03" + strings.Repeat("\xff", 70000) + end, api.ErrForm},
		// Too long.
		{"\x03" + long + end, api.ErrLimit}, {"\x04" + long + end, api.ErrLimit}, {"\x03" + strings.Repeat("\x00\xff", 121) + end, api.ErrLimit}, {"\x04" + strings.Repeat("\x00\xff", 121) + end, api.ErrLimit}, {"\x04" + strings.Repeat("\xff", 121) + end, api.ErrLimit}, {"\x03" + strings.Repeat("é", 61) + end, api.ErrLimit}, {"\x03" + strings.Repeat("a", 70000) + end, api.ErrLimit}, {"\x04" + strings.Repeat("\xff", 70000) + end, api.ErrLimit}, {"\x04" + long + end + "\x05", api.ErrLimit},
	} {
		if v, size, e := Read(c.s); v != (api.Value{}) || size != 0 || e != c.e {
			t.Errorf("Read(%.40q) is %#v, %d, %d, want %d", c.s, v, size, e, c.e)
		}
		if l, e := All(c.s); len(l) != 0 || e != c.e {
			t.Errorf("All(%.40q) is %#v, %d, want %d", c.s, l, e, c.e)
		}
		// All returns the error of the first one that is none.
		for _, before := range []string{"\x00", "\x01\x80\x00\x00\x00", "\x03a\x00\x00\x04\x00\x00"} {
			if l, e := All(before + c.s); len(l) != 0 || e != c.e {
				t.Errorf("All(%q + %.40q) is %#v, %d, want %d", before, c.s, l, e, c.e)
			}
		}
	}
}

// P7.2: All stops at the first key that is none.
func TestFirstError(t *testing.T) {
	end := "\x00\x00"
	wrong := map[string]api.Errno{
		"\x05":                                  api.ErrForm,
		"\x03\xff" + end:                        api.ErrForm,
		"\x04a\x00\x01":                         api.ErrForm,
		"\x03" + strings.Repeat("a", 121) + end: api.ErrLimit,
		"\x04" + strings.Repeat("\xff", 121) + end: api.ErrLimit,
	}
	for first, e1 := range wrong {
		for second := range wrong {
			for _, after := range []string{second, "\x00" + second, "\x01", "\x03", ""} {
				if l, e := All("\x00" + first + after); len(l) != 0 || e != e1 {
					t.Errorf("All(0, %.20q, %.20q) is %#v, %d, want %d", first, after, l, e, e1)
				}
			}
		}
	}
}

// P7.2: each byte as the first one, and each byte after a byte 0.
func TestReadOfEachByte(t *testing.T) {
	for i := range 256 {
		b := string([]byte{byte(i)})
		for _, after := range []string{"", "\x00", "\x00\x00", "\x80\x00\x00\x00", "\x80\x00\x00\x00\x00\x00\x00\x00", "a\x00\x00", "\xff\x00\x00"} {
			_, _, e := Read(b + after)
			if i > 4 && e != api.ErrForm {
				t.Errorf("Read(%q) is %d, want %d", b+after, e, api.ErrForm)
			}
			checkReading(t, b+after)
		}
		for _, kind := range []string{"\x03", "\x04"} {
			_, _, e := Read(kind + "a\x00" + b + "\x00\x00")
			want := api.ErrForm
			if i == 0 || i == 255 {
				want = api.OK
			}
			if e != want {
				t.Errorf("Read(%q, a, 0, %d, 0, 0) is %d, want %d", kind, i, e, want)
			}
			checkReading(t, kind+b)
			checkReading(t, kind+"\x00"+b)
			checkReading(t, kind+b+"\x00\x00")
		}
	}
}

// P7.2: each proper prefix of a key ends too early.
func TestPrefixesOfKeys(t *testing.T) {
	if v, size, e := Read(""); v != (api.Value{}) || size != 0 || e != api.ErrEnd {
		t.Errorf("Read of nothing is %#v, %d, %d", v, size, e)
	}
	if l, e := All(""); len(l) != 0 || e != api.OK {
		t.Errorf("All of nothing is %#v, %d", l, e)
	}
	for _, v := range valid() {
		key := keyByDefinition(v)
		for size := range len(key) {
			if got, n, e := Read(key[:size]); got != (api.Value{}) || n != 0 || e != api.ErrEnd {
				t.Errorf("Read(%q) is %#v, %d, %d, want %d", key[:size], got, n, e, api.ErrEnd)
			}
			if size == 0 {
				continue
			}
			for _, before := range []string{"", "\x00", "\x03a\x00\x00"} {
				if l, e := All(before + key[:size]); len(l) != 0 || e != api.ErrEnd {
					t.Errorf("All(%q) is %#v, %d, want %d", before+key[:size], l, e, api.ErrEnd)
				}
			}
		}
	}
}

// P7.2, P7.4: a value of each length up to the limit, and beyond it.
func TestLengths(t *testing.T) {
	for length := range 130 {
		for _, sign := range []string{"a", "\x00"} {
			s := strings.Repeat(sign, length)
			for _, v := range []api.Value{vText(s), vBytes(s)} {
				got, size, e := Read(keyByDefinition(v))
				if length <= 120 && (got != v || size != len(keyByDefinition(v)) || e != api.OK) {
					t.Errorf("Read of %d times %q is %#v, %d, %d", length, sign, got, size, e)
				}
				if length > 120 && (got != (api.Value{}) || size != 0 || e != api.ErrLimit) {
					t.Errorf("Read of %d times %q is %#v, %d, %d, want %d", length, sign, got, size, e, api.ErrLimit)
				}
			}
		}
	}
}

// P7.2, P7.4: all short strings of the bytes that matter.
func TestReadingOfShortStrings(t *testing.T) {
	for _, s := range stringsUpTo("\x00\x01\x02\x03\x04\x05\xff", 5) {
		checkReading(t, s)
	}
	for _, s := range stringsUpTo("\x00\x01a\x7f\xc3\xa9\xff", 4) {
		checkReading(t, "\x03"+s)
		checkReading(t, "\x03"+s+"\x00\x00")
		checkReading(t, "\x04"+s)
		checkReading(t, "\x04"+s+"\x00\x00")
	}
	for _, s := range stringsUpTo("\x00\x7f\x80\xff", 4) {
		for _, t2 := range []string{"", "\x00\x00\x00\x00", "\xff\xff\xff\xff", "\x01\x02\x03\x04\x05", "\x80"} {
			checkReading(t, "\x01"+s+t2)
			checkReading(t, "\x02"+s+t2)
			checkReading(t, "\x02"+t2+s)
		}
	}
}

// P7.2, P7.4: keys in which one byte is missing, is another one, or stands
// before it.
func TestReadingOfAlteredKeys(t *testing.T) {
	const others = "\x00\x01\x03\x04\x05a\x7f\x80\xc3\xfe\xff"
	for _, v := range valid() {
		key := keyByDefinition(v)
		for i := range len(key) {
			if i > 8 && i < len(key)-8 && i%11 != 0 {
				continue
			}
			checkReading(t, key[i:])
			checkReading(t, key[:i]+key[i+1:])
			for _, b := range []byte(others) {
				checkReading(t, key[:i]+string([]byte{b})+key[i:])
				checkReading(t, key[:i]+string([]byte{b})+key[i+1:])
			}
		}
	}
}

// P7.3
func TestNext(t *testing.T) {
	for _, c := range []struct {
		s, next string
		ok      bool
	}{
		{"a\xff", "b", true},
		{"a", "b", true},
		{"\x00", "\x01", true},
		{"\x00\x00", "\x00\x01", true},
		{"\x00\xff", "\x01", true},
		{"ab", "ac", true},
		{"\x7f", "\x80", true},
		{"\xfe", "\xff", true},
		{"\xfe\xff", "\xff", true},
		{"\xff\xfe", "\xff\xff", true},
		{"\xff\xfe\xff", "\xff\xff", true},
		{"\xff\x00", "\xff\x01", true},
		{"a\xff\xff\xff", "b", true},
		{"a\xffa", "a\xffb", true},
		{"é", "\xc3\xaa", true},
		{"ÿ", "\xc3\xc0", true},
		{strings.Repeat("a", 70000), strings.Repeat("a", 69999) + "b", true},
		{"a" + strings.Repeat("\xff", 70000), "b", true},
		{"", "", false},
		{"\xff", "", false},
		{"\xff\xff", "", false},
		{"\xff\xff\xff", "", false},
		{strings.Repeat("\xff", 70000), "", false},
	} {
		if next, ok := Next(c.s); next != c.next || ok != c.ok {
			t.Errorf("Next(%.40q) is %.40q, %v, want %.40q, %v", c.s, next, ok, c.next, c.ok)
		}
	}
	for i := range 255 {
		s, want := string([]byte{byte(i)}), string([]byte{byte(i + 1)})
		for _, before := range []string{"", "a", "\x00", "\xff"} {
			if next, ok := Next(before + s); next != before+want || !ok {
				t.Errorf("Next(%q) is %q, %v, want %q", before+s, next, ok, before+want)
			}
		}
	}
}

// P7.3: Next(s) is greater than every string that begins with s, and every
// lesser string is not.
func TestNextIsTheLeast(t *testing.T) {
	const bytes = "\x00\x01a\xfe\xff"
	candidates := stringsUpTo(bytes, 5)
	beyond := strings.Repeat("\xff", 10)
	for _, s := range stringsUpTo(bytes, 3) {
		next, ok := Next(s)
		if want := s != strings.Repeat("\xff", len(s)); ok != want {
			t.Errorf("Next(%q) is %q, %v", s, next, ok)
		}
		for _, u := range candidates {
			begins := strings.HasPrefix(u, s)
			// No string that begins with s reaches a candidate that s with
			// more bytes 255 than any candidate has bytes does not reach.
			reached := u <= s+beyond
			switch {
			case begins && ok && u >= next:
				t.Errorf("Next(%q) is %q, not greater than %q", s, next, u)
			case ok && (u < next) != reached:
				t.Errorf("Next(%q) is %q, but for %q it is %v that a string with that beginning reaches it", s, next, u, reached)
			case !ok && !reached:
				t.Errorf("Next(%q) is none, but %q is greater than all strings with that beginning", s, u)
			}
		}
	}
}

// P7.3, P7.4: from the keys of values on, up to Next of them, are just those
// concatenations that begin with them.
func TestNextOfKeys(t *testing.T) {
	for _, v := range chosen() {
		key := keyByDefinition(v)
		next, ok := Next(key)
		if !ok {
			t.Errorf("Next(%q) is none", key)
		}
		for _, l := range lists() {
			keys := keysByDefinition(l)
			within := keys >= key && keys < next
			if begins := len(l) > 0 && l[0] == v; begins != within {
				t.Errorf("%q is from %q on and less than %q: %v", keys, key, next, within)
			}
		}
	}
}

// P7.4
func TestOrderOfKeys(t *testing.T) {
	l := valid()
	keys := make([]string, len(l))
	for i, v := range l {
		keys[i], _ = Of(v)
	}
	for i, a := range l {
		for j, b := range l {
			want := value.Order(a, b)
			if got := strings.Compare(keys[i], keys[j]); got != want {
				t.Errorf("the keys of %#v and %#v are in the order %d, want %d", a, b, got, want)
			}
			if i != j && strings.HasPrefix(keys[j], keys[i]) {
				t.Errorf("the key of %#v is a prefix of that of %#v", a, b)
			}
		}
	}
}

// P7.4: the keys of all short strings and of all bytes.
func TestOrderOfShortStrings(t *testing.T) {
	var l []api.Value
	for _, s := range stringsUpTo("\x00\x01a\xfe\xff", 3) {
		l = append(l, vBytes(s))
	}
	for _, s := range stringsUpTo("\x00\x01\x02\x7f", 3) {
		l = append(l, vText(s))
	}
	for i := range 256 {
		l = append(l, vBytes(string([]byte{'b', byte(i)})))
	}
	slices.SortFunc(l, value.Order)
	before := ""
	for _, v := range l {
		key, e := Of(v)
		if e != api.OK || key <= before || before != "" && strings.HasPrefix(key, before) {
			t.Errorf("Of(%#v) is %q, %d, after %q", v, key, e, before)
		}
		before = key
	}
}

// lists returns lists of up to three values.
func lists() [][]api.Value {
	l := [][]api.Value{nil}
	for _, a := range chosen() {
		l = append(l, []api.Value{a})
		for _, b := range chosen() {
			l = append(l, []api.Value{a, b})
		}
	}
	few := []api.Value{{}, vInt(-1), vText(""), vText("\x00"), vBytes(""), vBytes("\x00\xff")}
	for _, a := range few {
		for _, b := range few {
			for _, c := range few {
				l = append(l, []api.Value{a, b, c})
			}
		}
	}
	return l
}

// P7.4: concatenations are ordered by the first values that differ, and the
// shorter one is less where none do.
func TestOrderOfConcatenations(t *testing.T) {
	l := lists()
	keys := make([]string, len(l))
	for i, values := range l {
		s, e := Of(values...)
		if s != keysByDefinition(values) || e != api.OK {
			t.Errorf("Of(%#v) is %q, %d", values, s, e)
		}
		if got, e := All(s); !slices.Equal(got, values) || e != api.OK {
			t.Errorf("All(%q) is %#v, %d, want %#v", s, got, e, values)
		}
		keys[i] = s
	}
	for i, a := range l {
		for j, b := range l {
			want := slices.CompareFunc(a, b, value.Order)
			if got := strings.Compare(keys[i], keys[j]); got != want {
				t.Errorf("the keys of %#v and of %#v are in the order %d, want %d", a, b, got, want)
			}
		}
	}
}

// P7.4: numbers from all of their range.
func TestNumbers(t *testing.T) {
	r := rand.New(rand.NewSource(7))
	var l []api.Value
	for range 3000 {
		n := int64(r.Uint64()) >> r.Intn(64)
		l = append(l, vLong(n), vInt(int64(int32(n))))
	}
	slices.SortFunc(l, value.Order)
	l = slices.Compact(l)
	before := ""
	for _, v := range l {
		key, e := Of(v)
		if key != keyByDefinition(v) || e != api.OK || key <= before {
			t.Errorf("Of(%#v) is %q, %d, after %q", v, key, e, before)
		}
		if got, size, e := Read(key); got != v || size != len(key) || e != api.OK {
			t.Errorf("Read(%q) is %#v, %d, %d, want %#v", key, got, size, e, v)
		}
		before = key
	}
}

// P7.4: many values at once.
func TestManyValues(t *testing.T) {
	var l []api.Value
	for len(l) < 100000 {
		l = append(l, valid()...)
	}
	s, e := Of(l...)
	if s != keysByDefinition(l) || e != api.OK {
		t.Errorf("Of %d values has %d bytes, %d", len(l), len(s), e)
	}
	if got, e := All(s); !slices.Equal(got, l) || e != api.OK {
		t.Errorf("All of %d values has %d, %d", len(l), len(got), e)
	}
	if got, e := All(s + "\x05"); len(got) != 0 || e != api.ErrForm {
		t.Errorf("All of %d values and no Kind has %d, %d", len(l), len(got), e)
	}
}

// P7.2: the result is the caller's own.
func TestResultsAreNewMemory(t *testing.T) {
	s := keysByDefinition(chosen())
	first, _ := All(s)
	clear(first)
	if second, e := All(s); !slices.Equal(second, chosen()) || e != api.OK {
		t.Errorf("after the result was written to, All is %#v, %d", second, e)
	}
}

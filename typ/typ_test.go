package typ

import (
	"math"
	"math/big"
	"regexp"
	"slices"
	"strconv"
	"strings"
	"testing"

	"haulage/api"
	"haulage/value"
)

const (
	least32    = math.MinInt32
	greatest32 = math.MaxInt32
	least64    = math.MinInt64
	greatest64 = math.MaxInt64
)

var (
	tInt  = api.Type{Kind: api.KInt}
	tLong = api.Type{Kind: api.KLong}
)

func text(most int) api.Type  { return api.Type{Kind: api.KText, Max: most} }
func bytes(most int) api.Type { return api.Type{Kind: api.KBytes, Max: most} }

func vInt(n int64) api.Value     { return api.Value{Kind: api.KInt, N: n} }
func vLong(n int64) api.Value    { return api.Value{Kind: api.KLong, N: n} }
func vText(s string) api.Value   { return api.Value{Kind: api.KText, S: s} }
func vBytes(s string) api.Value  { return api.Value{Kind: api.KBytes, S: s} }
func repeated(length int) string { return strings.Repeat("a", length) }

// all returns all valid types.
func all() []api.Type {
	l := []api.Type{tInt, tLong}
	for most := 1; most <= 120; most++ {
		l = append(l, text(most), bytes(most))
	}
	return l
}

// edges returns the valid types that the limits of the chapter separate.
func edges() []api.Type {
	l := []api.Type{tInt, tLong}
	for _, most := range []int{1, 2, 5, 9, 10, 11, 12, 18, 19, 20, 21, 60, 119, 120} {
		l = append(l, text(most), bytes(most))
	}
	return l
}

// none returns types that are not valid.
func none() []api.Type {
	l := []api.Type{}
	for _, most := range []int{1, -1, 11, 20, 120, 121, 1 << 32, math.MinInt, math.MaxInt} {
		l = append(l, api.Type{Kind: api.KInt, Max: most}, api.Type{Kind: api.KLong, Max: most})
	}
	for _, most := range []int{0, -1, -120, 121, 122, 256, 257, 1 << 32, 1<<32 + 1, math.MinInt, math.MaxInt} {
		l = append(l, text(most), bytes(most))
	}
	for _, kind := range []int{api.KNull, -1, -2, 5, 6, 256, 257, 259, 1 << 32, 1<<32 + 1, 1<<32 + 3, math.MinInt, math.MaxInt} {
		for _, most := range []int{0, 1, 20, 120, -1, 121} {
			l = append(l, api.Type{Kind: kind, Max: most})
		}
	}
	return l
}

// validValues returns valid values of each kind: the numbers of each length in
// digits, and strings of each length at which something changes.
func validValues() []api.Value {
	l := []api.Value{{}}
	numbers := []int64{0, 1, -1, 7, -7, greatest32 - 1, greatest32, least32 + 1, least32}
	for power := int64(10); power <= 1000000000; power *= 10 {
		numbers = append(numbers, power-1, power, -power+1, -power)
	}
	for _, n := range numbers {
		l = append(l, vInt(n), vLong(n))
	}
	for power := int64(10000000000); power <= 1000000000000000000 && power > 0; power *= 10 {
		l = append(l, vLong(power-1), vLong(power), vLong(-power+1), vLong(-power))
	}
	l = append(l, vLong(greatest32+1), vLong(least32-1), vLong(greatest64-1), vLong(greatest64), vLong(least64+1), vLong(least64))
	for _, s := range []string{"", "a", "b", "7", "-7", "\x00", "null", "é", "€€", "\U0010ffff", "\"\\\n", "-2147483648", "-9223372036854775808", strings.Repeat("é", 5), strings.Repeat("é", 60), strings.Repeat("€", 40)} {
		l = append(l, vText(s), vBytes(s))
	}
	for _, length := range []int{2, 5, 9, 10, 11, 12, 18, 19, 20, 21, 59, 60, 61, 118, 119, 120} {
		l = append(l, vText(repeated(length)), vBytes(repeated(length)))
	}
	for _, s := range []string{"\xff", "\x80", "a\xc3", "\xed\xa0\x80", strings.Repeat("\xff", 120)} {
		l = append(l, vBytes(s))
	}
	return l
}

// noValues returns values that are not valid.
func noValues() []api.Value {
	l := []api.Value{
		{N: 1}, {S: "a"}, {Kind: api.KInt, S: "a"}, {Kind: api.KLong, S: "a"}, {Kind: api.KInt, N: 1, S: "1"}, {Kind: api.KText, N: 1}, {Kind: api.KText, N: 1, S: "a"}, {Kind: api.KBytes, N: -1, S: "a"},
		vInt(greatest32 + 1), vInt(least32 - 1), vInt(greatest64), vInt(least64),
		vText("\xff"), vText("a\x80"), vText("\xc3"), vText(repeated(121)), vBytes(repeated(121)), vText(strings.Repeat("é", 61)), vBytes(repeated(70000)),
	}
	for _, kind := range []int{-1, 5, 6, 257, 1<<32 + 1, math.MinInt, math.MaxInt} {
		l = append(l, api.Value{Kind: kind}, api.Value{Kind: kind, N: 1}, api.Value{Kind: kind, S: "a"})
	}
	return l
}

func rightByDefinition(t api.Type) bool {
	return slices.Contains(all(), t)
}

// fitsByDefinition says whether v fits t, which is valid.
func fitsByDefinition(t api.Type, v api.Value) bool {
	return value.Right(v) && v.Kind == t.Kind && (t == tInt || t == tLong || len(v.S) <= t.Max)
}

// wideByDefinition says whether t is as wide as u, both valid, in the words of
// the chapter.
func wideByDefinition(t, u api.Type) bool {
	textOrBytes := t.Kind == api.KText || t.Kind == api.KBytes
	return t == u ||
		u.Kind == api.KInt && t.Kind == api.KLong ||
		u.Kind == api.KText && textOrBytes && t.Max >= u.Max ||
		u.Kind == api.KBytes && t.Kind == api.KBytes && t.Max >= u.Max ||
		u.Kind == api.KInt && textOrBytes && t.Max >= 11 ||
		u.Kind == api.KLong && textOrBytes && t.Max >= 20
}

// castByDefinition says what Cast returns for a valid value and a valid type.
func castByDefinition(v api.Value, t api.Type) (api.Value, api.Errno) {
	if v == (api.Value{}) {
		return api.Value{}, api.OK
	}
	targets := map[int][]int{
		api.KInt:   {api.KInt, api.KLong, api.KText, api.KBytes},
		api.KLong:  {api.KLong, api.KText, api.KBytes},
		api.KText:  {api.KText, api.KBytes},
		api.KBytes: {api.KBytes},
	}
	if !slices.Contains(targets[v.Kind], t.Kind) {
		return api.Value{}, api.ErrType
	}
	if t == tInt || t == tLong {
		return api.Value{Kind: t.Kind, N: v.N}, api.OK
	}
	s := v.S
	if v.Kind == api.KInt || v.Kind == api.KLong {
		s = strconv.FormatInt(v.N, 10)
	}
	if len(s) > t.Max {
		return api.Value{}, api.ErrRange
	}
	return api.Value{Kind: t.Kind, S: s}, api.OK
}

// textByDefinition returns the text of a valid type.
func textByDefinition(t api.Type) string {
	switch t.Kind {
	case api.KInt:
		return "int"
	case api.KLong:
		return "long"
	case api.KText:
		return "text(" + strconv.Itoa(t.Max) + ")"
	}
	return "bytes(" + strconv.Itoa(t.Max) + ")"
}

// byText returns all valid types by their texts.
func byText() map[string]api.Type {
	m := map[string]api.Type{}
	for _, t := range all() {
		m[textByDefinition(t)] = t
	}
	return m
}

var (
	nameForm   = regexp.MustCompile(`\A[a-z][a-z0-9_]*`)
	withMax    = regexp.MustCompile(`\A(?:text|bytes)\([0-9]+\)`)
	withNumber = regexp.MustCompile(`\A(?:text|bytes)\((0|-?[1-9][0-9]*)(\)?)`)
	zeroBefore = regexp.MustCompile(`\A(?:text|bytes)\(0[0-9]`)
)

// readByDefinition says what Read returns: types are all valid types by their
// texts.
func readByDefinition(types map[string]api.Type, s string) (api.Type, int, api.Errno) {
	found := withMax.FindString(s)
	if found == "" {
		found = nameForm.FindString(s)
	}
	if t, ok := types[found]; ok {
		return t, len(found), api.OK
	}
	parts := withNumber.FindStringSubmatch(s)
	if parts == nil || zeroBefore.MatchString(s) {
		return api.Type{}, 0, api.ErrForm
	}
	// A number beyond 64 bits is an error already ahead of what follows it.
	if n, ok := new(big.Int).SetString(parts[1], 10); ok && n.IsInt64() && parts[2] == "" {
		return api.Type{}, 0, api.ErrForm
	}
	return api.Type{}, 0, api.ErrRange
}

// checkReading holds what is read from s against the definitions, and checks
// that whatever is read is exactly the text of the result.
func checkReading(t *testing.T, types map[string]api.Type, s string) {
	t.Helper()
	want, wantSize, wantE := readByDefinition(types, s)
	got, size, e := Read(s)
	if got != want || size != wantSize || e != wantE {
		t.Errorf("Read(%q) is %v, %d, %d, want %v, %d, %d", s, got, size, e, want, wantSize, wantE)
	}
	if e == api.OK {
		if text, e := Print(got); size > len(s) || text != s[:size] || e != api.OK || !Right(got) {
			t.Errorf("Read(%q) is %v, whose text is %q, %d", s, got, text, e)
		}
	}
	if wantE == api.OK && wantSize < len(s) {
		want, wantE = api.Type{}, api.ErrExtra
	}
	if got, e := Parse(s); got != want || e != wantE {
		t.Errorf("Parse(%q) is %v, %d, want %v, %d", s, got, e, want, wantE)
	}
}

// eachSequence passes each sequence of so many of the parts.
func eachSequence(parts []string, count int, tell func(s string)) {
	if count == 0 {
		tell("")
		return
	}
	eachSequence(parts, count-1, func(s string) {
		for _, part := range parts {
			tell(s + part)
		}
	})
}

// P6.1
func TestRight(t *testing.T) {
	for _, c := range []struct {
		t    api.Type
		want bool
	}{
		{tInt, true}, {tLong, true}, {text(1), true}, {text(120), true}, {bytes(1), true}, {bytes(120), true}, {text(60), true},
		{api.Type{}, false}, {api.Type{Max: 1}, false}, {api.Type{Kind: api.KInt, Max: 1}, false}, {api.Type{Kind: api.KInt, Max: -1}, false}, {api.Type{Kind: api.KLong, Max: 1}, false}, {api.Type{Kind: api.KLong, Max: 20}, false},
		{text(0), false}, {text(-1), false}, {text(121), false}, {bytes(0), false}, {bytes(-1), false}, {bytes(121), false}, {api.Type{Kind: 5}, false}, {api.Type{Kind: 5, Max: 1}, false}, {api.Type{Kind: -1}, false},
	} {
		if got := Right(c.t); got != c.want {
			t.Errorf("Right(%v) is %t", c.t, got)
		}
	}
	for _, u := range none() {
		if Right(u) {
			t.Errorf("Right(%v) is true", u)
		}
	}
	for kind := -3; kind <= 9; kind++ {
		for most := -130; most <= 260; most++ {
			u := api.Type{Kind: kind, Max: most}
			if got := Right(u); got != rightByDefinition(u) {
				t.Errorf("Right(%v) is %t", u, got)
			}
		}
	}
}

// P6.1
func TestFits(t *testing.T) {
	for _, c := range []struct {
		t    api.Type
		v    api.Value
		want bool
	}{
		{tInt, vInt(0), true}, {tInt, vInt(least32), true}, {tInt, vInt(greatest32), true}, {tLong, vLong(0), true}, {tLong, vLong(least64), true}, {tLong, vLong(greatest64), true},
		// Just Max bytes, and one more; bytes are counted, not code points.
		{text(1), vText(""), true}, {text(1), vText("a"), true}, {text(1), vText("ab"), false}, {text(5), vText("abcde"), true}, {text(5), vText("abcdef"), false}, {text(2), vText("é"), true}, {text(1), vText("é"), false},
		{text(120), vText(repeated(120)), true}, {text(119), vText(repeated(120)), false}, {bytes(1), vBytes("\xff"), true}, {bytes(1), vBytes("\xff\xff"), false}, {bytes(120), vBytes(repeated(120)), true}, {bytes(119), vBytes(repeated(120)), false},
		// Another kind, even where it can be cast.
		{tInt, vLong(1), false}, {tLong, vInt(1), false}, {text(20), vInt(1), false}, {text(5), vBytes("a"), false}, {bytes(5), vText("a"), false}, {tInt, vText("1"), false}, {tInt, vText(""), false}, {text(5), vLong(1), false},
		// Null fits no type.
		{tInt, api.Value{}, false}, {tLong, api.Value{}, false}, {text(5), api.Value{}, false}, {bytes(5), api.Value{}, false},
		// Values and types that are not valid.
		{tInt, vInt(greatest32 + 1), false}, {tInt, vInt(least32 - 1), false}, {tInt, api.Value{Kind: api.KInt, S: "a"}, false}, {text(5), vText("\xff"), false}, {text(5), api.Value{Kind: api.KText, N: 1}, false}, {text(120), vText(repeated(121)), false}, {bytes(120), vBytes(repeated(121)), false},
		{api.Type{}, api.Value{}, false}, {api.Type{Kind: api.KInt, Max: 1}, vInt(1), false}, {api.Type{Kind: api.KLong, Max: 20}, vLong(1), false}, {text(0), vText(""), false}, {text(121), vText("a"), false}, {text(121), vText(repeated(121)), false}, {bytes(0), vBytes(""), false}, {bytes(121), vBytes("a"), false}, {api.Type{Kind: 5, Max: 5}, api.Value{Kind: 5}, false},
	} {
		if got := Fits(c.t, c.v); got != c.want {
			t.Errorf("Fits(%v, %#v) is %t", c.t, c.v, got)
		}
	}
}

// P6.1: all valid types and others, with values that are valid and others.
func TestFitsAgainstTheDefinition(t *testing.T) {
	values := slices.Concat(validValues(), noValues())
	for _, u := range all() {
		for _, v := range values {
			if got := Fits(u, v); got != fitsByDefinition(u, v) {
				t.Errorf("Fits(%v, %#v) is %t", u, v, got)
			}
		}
	}
	for _, u := range none() {
		for _, v := range values {
			if Fits(u, v) {
				t.Errorf("Fits(%v, %#v) is true", u, v)
			}
		}
	}
}

// P6.1: each pair of kinds, with the least Max that suffices and the one below.
func TestWide(t *testing.T) {
	for _, c := range []struct {
		t, than api.Type
		want    bool
	}{
		{tInt, tInt, true}, {tInt, tLong, false}, {tInt, text(1), false}, {tInt, text(120), false}, {tInt, bytes(1), false},
		{tLong, tInt, true}, {tLong, tLong, true}, {tLong, text(1), false}, {tLong, text(20), false}, {tLong, bytes(1), false},
		{text(10), tInt, false}, {text(11), tInt, true}, {text(12), tInt, true}, {text(120), tInt, true}, {text(1), tInt, false},
		{text(11), tLong, false}, {text(19), tLong, false}, {text(20), tLong, true}, {text(21), tLong, true}, {text(120), tLong, true},
		{text(5), text(4), true}, {text(5), text(5), true}, {text(5), text(6), false}, {text(120), text(1), true}, {text(1), text(120), false},
		{text(5), bytes(5), false}, {text(120), bytes(1), false}, {text(5), bytes(4), false},
		{bytes(10), tInt, false}, {bytes(11), tInt, true}, {bytes(12), tInt, true}, {bytes(120), tInt, true}, {bytes(1), tInt, false},
		{bytes(11), tLong, false}, {bytes(19), tLong, false}, {bytes(20), tLong, true}, {bytes(21), tLong, true}, {bytes(120), tLong, true},
		{bytes(5), text(4), true}, {bytes(5), text(5), true}, {bytes(5), text(6), false}, {bytes(120), text(120), true},
		{bytes(5), bytes(4), true}, {bytes(5), bytes(5), true}, {bytes(5), bytes(6), false}, {bytes(119), bytes(120), false},
		// Types that are not valid.
		{api.Type{}, api.Type{}, false}, {api.Type{Kind: 5}, api.Type{Kind: 5}, false}, {api.Type{Kind: api.KInt, Max: 1}, api.Type{Kind: api.KInt, Max: 1}, false}, {text(0), text(0), false}, {text(121), text(121), false}, {text(121), tInt, false}, {text(121), text(120), false}, {text(5), text(0), false}, {text(5), text(-1), false},
		{tLong, api.Type{}, false}, {tLong, api.Type{Kind: api.KInt, Max: 1}, false}, {api.Type{Kind: api.KLong, Max: 1}, tInt, false}, {bytes(121), bytes(1), false}, {bytes(5), api.Type{}, false}, {api.Type{Kind: 5, Max: 120}, tInt, false}, {api.Type{Kind: 5, Max: 120}, bytes(5), false}, {bytes(120), api.Type{Kind: -1}, false},
	} {
		if got := Wide(c.t, c.than); got != c.want {
			t.Errorf("Wide(%v, %v) is %t", c.t, c.than, got)
		}
	}
}

// P6.1: all pairs of valid types, and pairs with types that are not valid.
func TestWideAgainstTheDefinition(t *testing.T) {
	for _, u := range all() {
		for _, w := range all() {
			if got := Wide(u, w); got != wideByDefinition(u, w) {
				t.Errorf("Wide(%v, %v) is %t", u, w, got)
			}
		}
	}
	for _, u := range none() {
		for _, w := range slices.Concat(all(), none()) {
			if Wide(u, w) || Wide(w, u) {
				t.Errorf("Wide of %v and %v is true", u, w)
			}
		}
	}
}

// P6.1: each pair of kinds.
func TestJoin(t *testing.T) {
	for _, c := range []struct{ a, b, want api.Type }{
		{tInt, tInt, tInt}, {tInt, tLong, tLong}, {tLong, tLong, tLong},
		{tInt, text(5), text(11)}, {tInt, text(1), text(11)}, {tInt, text(10), text(11)}, {tInt, text(11), text(11)}, {tInt, text(12), text(12)}, {tInt, text(120), text(120)},
		{tLong, text(5), text(20)}, {tLong, text(11), text(20)}, {tLong, text(19), text(20)}, {tLong, text(20), text(20)}, {tLong, text(21), text(21)}, {tLong, text(120), text(120)},
		{tInt, bytes(1), bytes(11)}, {tInt, bytes(10), bytes(11)}, {tInt, bytes(11), bytes(11)}, {tInt, bytes(12), bytes(12)}, {tInt, bytes(120), bytes(120)},
		{tLong, bytes(1), bytes(20)}, {tLong, bytes(19), bytes(20)}, {tLong, bytes(20), bytes(20)}, {tLong, bytes(21), bytes(21)}, {tLong, bytes(120), bytes(120)},
		{text(5), text(5), text(5)}, {text(5), text(7), text(7)}, {text(1), text(120), text(120)},
		{text(5), bytes(5), bytes(5)}, {text(5), bytes(3), bytes(5)}, {text(3), bytes(5), bytes(5)}, {text(120), bytes(1), bytes(120)},
		{bytes(5), bytes(5), bytes(5)}, {bytes(5), bytes(7), bytes(7)},
	} {
		if got, ok := Join(c.a, c.b); got != c.want || !ok {
			t.Errorf("Join(%v, %v) is %v, %t, want %v", c.a, c.b, got, ok, c.want)
		}
		if got, ok := Join(c.b, c.a); got != c.want || !ok {
			t.Errorf("Join(%v, %v) is %v, %t, want %v", c.b, c.a, got, ok, c.want)
		}
	}
}

// P6.1: of all pairs of valid types the join is as wide as both, and every
// other such type is as wide as the join.
func TestJoinIsTheLeast(t *testing.T) {
	types := all()
	for _, a := range types {
		for _, b := range types {
			join, ok := Join(a, b)
			if !ok || !rightByDefinition(join) || !wideByDefinition(join, a) || !wideByDefinition(join, b) {
				t.Fatalf("Join(%v, %v) is %v, %t", a, b, join, ok)
			}
			for _, u := range types {
				if wideByDefinition(u, a) && wideByDefinition(u, b) && !wideByDefinition(u, join) {
					t.Fatalf("Join(%v, %v) is %v, but %v is not as wide", a, b, join, u)
				}
			}
		}
	}
}

// P6.1
func TestJoinRejects(t *testing.T) {
	for _, u := range none() {
		for _, w := range slices.Concat(all(), none()) {
			if got, ok := Join(u, w); got != (api.Type{}) || ok {
				t.Errorf("Join(%v, %v) is %v, %t", u, w, got, ok)
			}
			if got, ok := Join(w, u); got != (api.Type{}) || ok {
				t.Errorf("Join(%v, %v) is %v, %t", w, u, got, ok)
			}
		}
	}
}

// P6.2: each pair of kinds.
func TestCast(t *testing.T) {
	for _, c := range []struct {
		v    api.Value
		t    api.Type
		want api.Value
	}{
		{vInt(-7), tInt, vInt(-7)}, {vInt(least32), tInt, vInt(least32)}, {vInt(greatest32), tLong, vLong(greatest32)}, {vInt(least32), tLong, vLong(least32)}, {vInt(0), tLong, vLong(0)},
		{vInt(-7), text(11), vText("-7")}, {vInt(-7), text(2), vText("-7")}, {vInt(0), text(1), vText("0")}, {vInt(greatest32), text(10), vText("2147483647")}, {vInt(least32), text(11), vText("-2147483648")},
		{vInt(-7), bytes(11), vBytes("-7")}, {vInt(0), bytes(1), vBytes("0")}, {vInt(greatest32), bytes(10), vBytes("2147483647")}, {vInt(least32), bytes(11), vBytes("-2147483648")},
		{vLong(5), tLong, vLong(5)}, {vLong(least64), tLong, vLong(least64)},
		{vLong(-12), text(3), vText("-12")}, {vLong(greatest64), text(19), vText("9223372036854775807")}, {vLong(least64), text(20), vText("-9223372036854775808")}, {vLong(10), text(120), vText("10")},
		{vLong(-12), bytes(3), vBytes("-12")}, {vLong(greatest64), bytes(19), vBytes("9223372036854775807")}, {vLong(least64), bytes(20), vBytes("-9223372036854775808")},
		{vText("abc"), text(3), vText("abc")}, {vText(""), text(1), vText("")}, {vText("é"), text(2), vText("é")}, {vText(repeated(120)), text(120), vText(repeated(120))},
		{vText("abc"), bytes(3), vBytes("abc")}, {vText(""), bytes(1), vBytes("")}, {vText("é"), bytes(2), vBytes("\xc3\xa9")}, {vText(repeated(120)), bytes(120), vBytes(repeated(120))},
		{vBytes("\xff"), bytes(1), vBytes("\xff")}, {vBytes(""), bytes(1), vBytes("")}, {vBytes(repeated(120)), bytes(120), vBytes(repeated(120))},
	} {
		if got, e := Cast(c.v, c.t); got != c.want || e != api.OK {
			t.Errorf("Cast(%#v, %v) is %#v, %d, want %#v", c.v, c.t, got, e, c.want)
		}
	}
}

// P6.2
func TestCastOfNull(t *testing.T) {
	for _, u := range all() {
		if got, e := Cast(api.Value{}, u); got != (api.Value{}) || e != api.OK {
			t.Errorf("Cast of null to %v is %#v, %d", u, got, e)
		}
	}
}

// P6.2: ErrType is named before ErrRange.
func TestCastRejects(t *testing.T) {
	for _, c := range []struct {
		v api.Value
		t api.Type
		e api.Errno
	}{
		{vLong(5), tInt, api.ErrType}, {vLong(greatest64), tInt, api.ErrType}, {vLong(0), tInt, api.ErrType},
		{vText("7"), tInt, api.ErrType}, {vText(""), tInt, api.ErrType}, {vText("7"), tLong, api.ErrType}, {vText(repeated(120)), tLong, api.ErrType},
		{vBytes("7"), tInt, api.ErrType}, {vBytes("7"), tLong, api.ErrType}, {vBytes("7"), text(1), api.ErrType}, {vBytes(""), text(1), api.ErrType}, {vBytes("7"), text(120), api.ErrType}, {vBytes("ab"), text(1), api.ErrType}, {vBytes(repeated(120)), text(1), api.ErrType},
		{vInt(-7), text(1), api.ErrRange}, {vInt(10), text(1), api.ErrRange}, {vInt(greatest32), text(9), api.ErrRange}, {vInt(least32), text(10), api.ErrRange}, {vInt(least32), bytes(10), api.ErrRange}, {vInt(10), bytes(1), api.ErrRange}, {vInt(greatest32), bytes(9), api.ErrRange},
		{vLong(least64), text(19), api.ErrRange}, {vLong(greatest64), text(18), api.ErrRange}, {vLong(least64), bytes(19), api.ErrRange}, {vLong(greatest64), bytes(18), api.ErrRange}, {vLong(-1), bytes(1), api.ErrRange},
		{vText("abc"), text(2), api.ErrRange}, {vText("é"), text(1), api.ErrRange}, {vText("abc"), bytes(2), api.ErrRange}, {vText(repeated(120)), text(119), api.ErrRange}, {vText(repeated(120)), bytes(119), api.ErrRange},
		{vBytes("ab"), bytes(1), api.ErrRange}, {vBytes(repeated(120)), bytes(119), api.ErrRange},
	} {
		if got, e := Cast(c.v, c.t); got != (api.Value{}) || e != c.e {
			t.Errorf("Cast(%#v, %v) is %#v, %d, want %d", c.v, c.t, got, e, c.e)
		}
	}
}

// P6.2: ErrArg is named first, also before null.
func TestCastRejectsWhatIsNotValid(t *testing.T) {
	check := func(v api.Value, u api.Type) {
		t.Helper()
		if got, e := Cast(v, u); got != (api.Value{}) || e != api.ErrArg {
			t.Errorf("Cast(%#v, %v) is %#v, %d", v, u, got, e)
		}
	}
	for _, v := range noValues() {
		for _, u := range slices.Concat(all(), none()) {
			check(v, u)
		}
	}
	for _, v := range validValues() {
		for _, u := range none() {
			check(v, u)
		}
	}
}

// P6.2
func TestCastAgainstTheDefinition(t *testing.T) {
	for _, v := range validValues() {
		for _, u := range all() {
			want, wantE := castByDefinition(v, u)
			if got, e := Cast(v, u); got != want || e != wantE {
				t.Errorf("Cast(%#v, %v) is %#v, %d, want %#v, %d", v, u, got, e, want, wantE)
			}
		}
	}
}

// P6.3
func TestPrintAndParse(t *testing.T) {
	for _, c := range []struct {
		t    api.Type
		text string
	}{
		{tInt, "int"}, {tLong, "long"}, {text(1), "text(1)"}, {text(5), "text(5)"}, {text(10), "text(10)"}, {text(120), "text(120)"}, {bytes(1), "bytes(1)"}, {bytes(11), "bytes(11)"}, {bytes(120), "bytes(120)"},
	} {
		if s, e := Print(c.t); s != c.text || e != api.OK {
			t.Errorf("Print(%v) is %q, %d, want %q", c.t, s, e, c.text)
		}
		if got, e := Parse(c.text); got != c.t || e != api.OK {
			t.Errorf("Parse(%q) is %v, %d, want %v", c.text, got, e, c.t)
		}
		if got, size, e := Read(c.text); got != c.t || size != len(c.text) || e != api.OK {
			t.Errorf("Read(%q) is %v, %d, %d, want %v", c.text, got, size, e, c.t)
		}
	}
}

// P6.3
func TestPrintRejects(t *testing.T) {
	for _, u := range none() {
		if s, e := Print(u); s != "" || e != api.ErrArg {
			t.Errorf("Print(%v) is %q, %d", u, s, e)
		}
	}
}

// P6.3: wrong texts, with the error of both Read and Parse.
func TestReadRejects(t *testing.T) {
	for _, c := range []struct {
		s string
		e api.Errno
	}{
		// No name, or another one.
		{"", api.ErrForm}, {" ", api.ErrForm}, {" int", api.ErrForm}, {"(", api.ErrForm}, {"(5)", api.ErrForm}, {"5", api.ErrForm}, {"_int", api.ErrForm}, {"\x00", api.ErrForm}, {"\xff", api.ErrForm}, {"Int", api.ErrForm}, {"INT", api.ErrForm}, {"inT", api.ErrForm},
		{"i", api.ErrForm}, {"in", api.ErrForm}, {"lon", api.ErrForm}, {"tex", api.ErrForm}, {"tex(5)", api.ErrForm}, {"byte(5)", api.ErrForm}, {"word", api.ErrForm}, {"word(5)", api.ErrForm}, {"null", api.ErrForm}, {"null(5)", api.ErrForm}, {"char(5)", api.ErrForm}, {"Text(5)", api.ErrForm}, {"BYTES(5)", api.ErrForm}, {strings.Repeat("int", 30000), api.ErrForm},
		// A name character behind the name.
		{"ints", api.ErrForm}, {"int0", api.ErrForm}, {"int5", api.ErrForm}, {"int_", api.ErrForm}, {"intlong", api.ErrForm}, {"longs", api.ErrForm}, {"long9", api.ErrForm}, {"long_", api.ErrForm}, {"longint", api.ErrForm}, {"text5(5)", api.ErrForm}, {"texts(5)", api.ErrForm}, {"text_(5)", api.ErrForm}, {"bytess(5)", api.ErrForm}, {"bytes0(5)", api.ErrForm}, {"textbytes(5)", api.ErrForm},
		// Without (.
		{"text", api.ErrForm}, {"bytes", api.ErrForm}, {"text ", api.ErrForm}, {"text (5)", api.ErrForm}, {"text)", api.ErrForm}, {"text5", api.ErrForm}, {"text 5)", api.ErrForm}, {"text[5]", api.ErrForm}, {"bytes (5)", api.ErrForm}, {"bytes-5)", api.ErrForm}, {"bytes\xff", api.ErrForm},
		// Without a number, and the other errors of the number.
		{"text(", api.ErrForm}, {"text()", api.ErrForm}, {"text( 5)", api.ErrForm}, {"text(a)", api.ErrForm}, {"text(-)", api.ErrForm}, {"text(+5)", api.ErrForm}, {"text((5))", api.ErrForm}, {"text(x5)", api.ErrForm}, {"bytes(", api.ErrForm}, {"bytes()", api.ErrForm}, {"bytes(\x00)", api.ErrForm}, {"text(--5)", api.ErrForm},
		{"text(01)", api.ErrForm}, {"text(00)", api.ErrForm}, {"text(005)", api.ErrForm}, {"text(-0)", api.ErrForm}, {"text(-05)", api.ErrForm}, {"bytes(01)", api.ErrForm}, {"bytes(-0)", api.ErrForm}, {"text(0121)", api.ErrForm}, {"text(" + strings.Repeat("0", 70000) + ")", api.ErrForm},
		{"text(9223372036854775808)", api.ErrRange}, {"text(-9223372036854775809)", api.ErrRange}, {"text(18446744073709551621)", api.ErrRange}, {"bytes(9223372036854775808)", api.ErrRange}, {"bytes(99999999999999999999)", api.ErrRange}, {"text(" + strings.Repeat("9", 70000) + ")", api.ErrRange},
		// The error of the number is met before what follows the number.
		{"text(9223372036854775808", api.ErrRange}, {"text(9223372036854775808 )", api.ErrRange}, {"bytes(99999999999999999999x", api.ErrRange},
		// Without ), which is met before the range of the number.
		{"text(5", api.ErrForm}, {"text(5 )", api.ErrForm}, {"text(5(", api.ErrForm}, {"text(5,6)", api.ErrForm}, {"text(5l)", api.ErrForm}, {"text(5.0)", api.ErrForm}, {"text(5]", api.ErrForm}, {"text(5\xff", api.ErrForm}, {"bytes(5", api.ErrForm}, {"bytes(120", api.ErrForm}, {"bytes(5_)", api.ErrForm}, {"text(0", api.ErrForm}, {"text(121", api.ErrForm}, {"text(-5", api.ErrForm}, {"text(0x5)", api.ErrForm}, {"bytes(1e2)", api.ErrForm}, {"bytes(9223372036854775807", api.ErrForm},
		// A number that is not from 1 to MaxLen.
		{"text(0)", api.ErrRange}, {"text(121)", api.ErrRange}, {"text(-1)", api.ErrRange}, {"text(-120)", api.ErrRange}, {"text(122)", api.ErrRange}, {"text(1200)", api.ErrRange}, {"text(4294967301)", api.ErrRange}, {"text(-4294967291)", api.ErrRange}, {"text(9223372036854775807)", api.ErrRange}, {"text(-9223372036854775808)", api.ErrRange}, {"text(0) ", api.ErrRange}, {"text(121)x", api.ErrRange},
		{"bytes(0)", api.ErrRange}, {"bytes(121)", api.ErrRange}, {"bytes(-1)", api.ErrRange}, {"bytes(257)", api.ErrRange}, {"bytes(4294967297)", api.ErrRange}, {"bytes(0)(5)", api.ErrRange},
	} {
		if got, size, e := Read(c.s); got != (api.Type{}) || size != 0 || e != c.e {
			t.Errorf("Read(%.40q) is %v, %d, %d, want %d", c.s, got, size, e, c.e)
		}
		if got, e := Parse(c.s); got != (api.Type{}) || e != c.e {
			t.Errorf("Parse(%.40q) is %v, %d, want %d", c.s, got, e, c.e)
		}
	}
}

// P6.3: Read ends at the end of the text, where Parse returns ErrExtra.
func TestSomethingFollows(t *testing.T) {
	for _, c := range []struct {
		s    string
		t    api.Type
		size int
	}{
		{"int ", tInt, 3}, {"int(5)", tInt, 3}, {"int)", tInt, 3}, {"int,", tInt, 3}, {"int-1", tInt, 3}, {"intA", tInt, 3}, {"int\x00", tInt, 3}, {"int\xff", tInt, 3}, {"int int", tInt, 3},
		{"long null", tLong, 4}, {"long(20)", tLong, 4}, {"long\n", tLong, 4}, {"longL", tLong, 4},
		{"text(5) ", text(5), 7}, {"text(5)a", text(5), 7}, {"text(5)0", text(5), 7}, {"text(5))", text(5), 7}, {"text(5)(5)", text(5), 7}, {"text(5)text(6)", text(5), 7}, {"text(5)\xff", text(5), 7},
		{"bytes(120)_", bytes(120), 10}, {"bytes(120), b", bytes(120), 10}, {"bytes(1)\x00", bytes(1), 8},
	} {
		if got, size, e := Read(c.s); got != c.t || size != c.size || e != api.OK {
			t.Errorf("Read(%q) is %v, %d, %d, want %v, %d", c.s, got, size, e, c.t, c.size)
		}
		if got, e := Parse(c.s); got != (api.Type{}) || e != api.ErrExtra {
			t.Errorf("Parse(%q) is %v, %d", c.s, got, e)
		}
	}
}

// P6.3: the text of each type is read as the type, whatever follows it, except
// a name character after int and long.
func TestTextIsReadWhateverFollows(t *testing.T) {
	types := byText()
	for _, u := range all() {
		want := textByDefinition(u)
		if s, e := Print(u); s != want || e != api.OK {
			t.Errorf("Print(%v) is %q, %d, want %q", u, s, e, want)
		}
		if got, e := Parse(want); got != u || e != api.OK {
			t.Errorf("Parse(%q) is %v, %d, want %v", want, got, e, u)
		}
		for i := range 256 {
			checkReading(t, types, want+string([]byte{byte(i)}))
		}
	}
}

// P6.3
func TestReadingOfEachNumber(t *testing.T) {
	types := byText()
	for n := -300; n <= 1300; n++ {
		for _, kind := range []string{"text", "bytes", "int", "long"} {
			for _, end := range []string{")", "", " )", "))"} {
				checkReading(t, types, kind+"("+strconv.Itoa(n)+end)
				checkReading(t, types, kind+"(0"+strconv.Itoa(n)+end)
			}
		}
	}
	for _, digits := range []string{"9223372036854775807", "9223372036854775808", "18446744073709551615", "18446744073709551616", "18446744073709551617", "4294967297"} {
		for _, end := range []string{")", "", " ", "x)"} {
			checkReading(t, types, "text("+digits+end)
			checkReading(t, types, "bytes(-"+digits+end)
		}
	}
}

// P6.3: all short sequences of the parts that matter.
func TestReadingOfShortSequences(t *testing.T) {
	types := byText()
	parts := []string{"int", "long", "text", "bytes", "(", ")", "0", "1", "2", "9", "-", "_", " ", "l", "\xff"}
	for count := range 5 {
		eachSequence(parts, count, func(s string) { checkReading(t, types, s) })
	}
	after := []string{"0", "1", "2", "9", "-", "(", ")", " ", "l"}
	for count := range 6 {
		eachSequence(after, count, func(s string) {
			checkReading(t, types, "text("+s)
			checkReading(t, types, "bytes("+s)
		})
	}
}

// P6.3: texts of types in which one byte is missing, is another one, or stands
// before it.
func TestReadingOfAlteredTexts(t *testing.T) {
	types := byText()
	for s := range types {
		checkReading(t, types, s)
		for i := range len(s) {
			checkReading(t, types, s[:i])
			checkReading(t, types, s[i:])
			checkReading(t, types, s[:i]+s[i+1:])
			for b := range 256 {
				other := string([]byte{byte(b)})
				checkReading(t, types, s[:i]+other+s[i:])
				checkReading(t, types, s[:i]+other+s[i+1:])
			}
		}
	}
}

// P6.4: to be as wide is reflexive, antisymmetric and transitive.
func TestWideIsAPartialOrder(t *testing.T) {
	types := all()
	for _, a := range types {
		if !Wide(a, a) {
			t.Errorf("Wide(%v, %v) is false", a, a)
		}
		for _, b := range types {
			if !Wide(a, b) {
				continue
			}
			if a != b && Wide(b, a) {
				t.Errorf("%v and %v are each as wide as the other", a, b)
			}
			for _, c := range types {
				if Wide(b, c) && !Wide(a, c) {
					t.Fatalf("%v is as wide as %v, and that as %v, but Wide is false", a, b, c)
				}
			}
		}
	}
}

// fitting returns the values of l that fit u.
func fitting(l []api.Value, u api.Type) []api.Value {
	var fit []api.Value
	for _, v := range l {
		if Fits(u, v) {
			fit = append(fit, v)
		}
	}
	return fit
}

// P6.4: every value that fits a type can be cast to every type that is as wide
// and fits it, and different values remain different.
func TestCastToTypesAsWide(t *testing.T) {
	values := validValues()
	for _, u := range all() {
		fit := fitting(values, u)
		if len(fit) == 0 {
			t.Fatalf("no value fits %v", u)
		}
		for _, w := range all() {
			if !Wide(w, u) {
				continue
			}
			before := map[api.Value]api.Value{}
			for _, v := range fit {
				cast, e := Cast(v, w)
				if e != api.OK || !Fits(w, cast) {
					t.Fatalf("Cast(%#v, %v) is %#v, %d", v, w, cast, e)
				}
				if other, ok := before[cast]; ok {
					t.Fatalf("Cast of %#v and of %#v to %v is %#v", v, other, w, cast)
				}
				before[cast] = v
			}
		}
	}
}

// P6.4: of a type that is not as wide there is a value that cannot be cast to
// it, so that Wide admits all the types that it can.
func TestCastToTypesNotAsWide(t *testing.T) {
	widest := func(u api.Type) api.Value {
		switch u.Kind {
		case api.KInt:
			return vInt(least32)
		case api.KLong:
			return vLong(least64)
		}
		return api.Value{Kind: u.Kind, S: repeated(u.Max)}
	}
	for _, u := range all() {
		for _, w := range all() {
			if _, e := Cast(widest(u), w); Wide(w, u) != (e == api.OK) {
				t.Errorf("Cast of the widest value of %v to %v is %d", u, w, e)
			}
		}
	}
}

// P6.4: casting in two steps has the same result as casting at once.
func TestCastInTwoSteps(t *testing.T) {
	values := validValues()
	for _, first := range edges() {
		fit := append(fitting(values, first), api.Value{})
		for _, second := range edges() {
			if !Wide(second, first) {
				continue
			}
			for _, third := range edges() {
				if !Wide(third, second) {
					continue
				}
				for _, v := range fit {
					step, e := Cast(v, second)
					if e != api.OK {
						t.Fatalf("Cast(%#v, %v) is %d", v, second, e)
					}
					twice, e := Cast(step, third)
					once, e2 := Cast(v, third)
					if twice != once || e != api.OK || e2 != api.OK {
						t.Fatalf("%#v as %v and then as %v is %#v, %d, at once %#v, %d", v, second, third, twice, e, once, e2)
					}
				}
			}
		}
	}
}

package word

import (
	"encoding/binary"
	"math"
	"math/big"
	"slices"
	"strings"
	"testing"

	"haulage/api"
)

// numbers are the edges of all sizes: around every power of two.
func numbers() []uint64 {
	l := []uint64{0, math.MaxUint64, 300, 0x0123456789abcdef}
	for i := range 64 {
		p := uint64(1) << i
		l = append(l, p-1, p, p+1, ^p)
	}
	return l
}

// noise are numbers of all lengths without a pattern, the same at every run.
func noise(count int) []uint64 {
	l := make([]uint64, count)
	x := uint64(88172645463325252)
	for i := range l {
		x ^= x << 13
		x ^= x >> 7
		x ^= x << 17
		l[i] = x >> (x % 64)
	}
	return l
}

// widths are counts of bits: all valid ones and the edges of the invalid ones.
func widths() []int {
	l := []int{math.MinInt, -64, -1, 0, 65, 66, 128, math.MaxInt}
	for i := range 64 {
		l = append(l, i+1)
	}
	return l
}

func TestPutFixed(t *testing.T) { // P1.1
	for _, c := range []struct {
		n uint32
		s string
	}{
		{0, "\x00\x00\x00\x00"},
		{1, "\x01\x00\x00\x00"},
		{0x04030201, "\x01\x02\x03\x04"},
		{math.MaxInt32, "\xff\xff\xff\x7f"},
		{math.MaxUint32, "\xff\xff\xff\xff"},
	} {
		if s := Put32(c.n); s != c.s {
			t.Errorf("Put32(%d) = %x, want %x", c.n, s, c.s)
		}
		if n, e := Get32(c.s); n != c.n || e != api.OK {
			t.Errorf("Get32(%x) = %d %d, want %d", c.s, n, e, c.n)
		}
	}
	for _, c := range []struct {
		n uint64
		s string
	}{
		{0, "\x00\x00\x00\x00\x00\x00\x00\x00"},
		{1, "\x01\x00\x00\x00\x00\x00\x00\x00"},
		{0x0807060504030201, "\x01\x02\x03\x04\x05\x06\x07\x08"},
		{math.MaxUint32 + 1, "\x00\x00\x00\x00\x01\x00\x00\x00"},
		{math.MaxUint64, "\xff\xff\xff\xff\xff\xff\xff\xff"},
	} {
		if s := Put64(c.n); s != c.s {
			t.Errorf("Put64(%d) = %x, want %x", c.n, s, c.s)
		}
		if n, e := Get64(c.s); n != c.n || e != api.OK {
			t.Errorf("Get64(%x) = %d %d, want %d", c.s, n, e, c.n)
		}
	}
}

func TestGetFixedOfAllLengths(t *testing.T) { // P1.1
	wanted := func(length, size int) api.Errno {
		switch {
		case length < size:
			return api.ErrEnd
		case length > size:
			return api.ErrExtra
		}
		return api.OK
	}
	for length := range 20 {
		s := strings.Repeat("\xff", length)
		n32, e := Get32(s)
		if e != wanted(length, 4) || e != api.OK && n32 != 0 {
			t.Errorf("Get32 of %d bytes: %d %d", length, n32, e)
		}
		n64, e := Get64(s)
		if e != wanted(length, 8) || e != api.OK && n64 != 0 {
			t.Errorf("Get64 of %d bytes: %d %d", length, n64, e)
		}
	}
}

func TestShort(t *testing.T) { // P1.2
	for _, c := range []struct {
		l []uint64
		s string
	}{
		{nil, ""},
		{[]uint64{}, ""},
		{[]uint64{0}, "\x00"},
		{[]uint64{127}, "\x7f"},
		{[]uint64{128}, "\x80\x01"},
		{[]uint64{300}, "\xac\x02"},
		{[]uint64{16383, 16384}, "\xff\x7f\x80\x80\x01"},
		{[]uint64{0, 0, 1, 300}, "\x00\x00\x01\xac\x02"},
		{[]uint64{1<<63 - 1}, "\xff\xff\xff\xff\xff\xff\xff\xff\x7f"},
		{[]uint64{1 << 63}, "\x80\x80\x80\x80\x80\x80\x80\x80\x80\x01"},
		{[]uint64{math.MaxUint64, 5}, "\xff\xff\xff\xff\xff\xff\xff\xff\xff\x01\x05"},
	} {
		if s := Short(c.l...); s != c.s {
			t.Errorf("Short(%d) = %x, want %x", c.l, s, c.s)
		}
		if l, e := All(c.s); !slices.Equal(l, c.l) || e != api.OK {
			t.Errorf("All(%x) = %d %d, want %d", c.s, l, e, c.l)
		}
	}
	if s := Short(); s != "" {
		t.Errorf("Short() = %x", s)
	}
}

func TestShortAgainstTheLibrary(t *testing.T) { // P1.2
	for _, n := range append(numbers(), noise(2000)...) {
		if s, want := Short(n), string(binary.AppendUvarint(nil, n)); s != want {
			t.Errorf("Short(%d) = %x, want %x", n, s, want)
		}
	}
}

func TestLong(t *testing.T) { // P1.2
	full := strings.Repeat("\x80", 9)
	ones := strings.Repeat("\xff", 9)
	for _, c := range []struct {
		s    string
		n    uint64
		size int
		e    api.Errno
	}{
		{"\x00", 0, 1, api.OK},
		{"\x01", 1, 1, api.OK},
		{"\x7f", 127, 1, api.OK},
		{"\x80\x01", 128, 2, api.OK},
		{"\xac\x02", 300, 2, api.OK},
		{full + "\x01", 1 << 63, 10, api.OK},
		{ones + "\x01", math.MaxUint64, 10, api.OK},
		{ones[:8] + "\x7f", 1<<63 - 1, 9, api.OK},
		// Bytes after the varint are ignored, whatever they are.
		{"\x00\x00", 0, 1, api.OK},
		{"\x05\x80\x00", 5, 1, api.OK},
		{"\xac\x02\xff", 300, 2, api.OK},
		{"\x07" + ones + "\xff", 7, 1, api.OK},
		{"\x07" + full[:8] + "\x02", 7, 1, api.OK},
		{ones + "\x01\xff", math.MaxUint64, 10, api.OK},
		{ones + "\x01\x00", math.MaxUint64, 10, api.OK},
		// The string ends inside the varint.
		{"", 0, 0, api.ErrEnd},
		{"\x80", 0, 0, api.ErrEnd},
		{"\xff", 0, 0, api.ErrEnd},
		{"\x80\x80", 0, 0, api.ErrEnd},
		{full, 0, 0, api.ErrEnd},
		{ones, 0, 0, api.ErrEnd},
		// Ten bytes and none of them is the last digit.
		{full + "\x80", 0, 0, api.ErrForm},
		{ones + "\xff", 0, 0, api.ErrForm},
		{full + "\x80\x01", 0, 0, api.ErrForm},
		{full + "\x81", 0, 0, api.ErrForm},
		// Longer than needed.
		{"\x80\x00", 0, 0, api.ErrForm},
		{"\xff\x00", 0, 0, api.ErrForm},
		{"\x80\x00\x01", 0, 0, api.ErrForm},
		{"\xac\x82\x00", 0, 0, api.ErrForm},
		{full[:8] + "\x00", 0, 0, api.ErrForm},
		{full + "\x00", 0, 0, api.ErrForm},
		{ones + "\x00", 0, 0, api.ErrForm},
		// More than 64 bits.
		{full + "\x02", 0, 0, api.ErrForm},
		{ones + "\x03", 0, 0, api.ErrForm},
		{ones + "\x7f", 0, 0, api.ErrForm},
	} {
		if n, size, e := Long(c.s); n != c.n || size != c.size || e != c.e {
			t.Errorf("Long(%x) = %d %d %d, want %d %d %d", c.s, n, size, e, c.n, c.size, c.e)
		}
	}
}

func TestAllErrors(t *testing.T) { // P1.2
	tooLong := strings.Repeat("\xff", 10)
	for _, c := range []struct {
		s string
		e api.Errno
	}{
		{"\x80", api.ErrEnd},
		{"\x01\x80", api.ErrEnd},
		{"\x01\x02\x80\x80", api.ErrEnd},
		{"\x80\x00", api.ErrForm},
		{"\x01\x80\x00", api.ErrForm},
		{tooLong, api.ErrForm},
		{"\x03" + tooLong, api.ErrForm},
		{"\x03" + tooLong[:9], api.ErrEnd},
		// The first one that is not a varint decides.
		{"\x80\x00\x80", api.ErrForm},
		{"\x80\x00" + tooLong, api.ErrForm},
		{tooLong + "\x80", api.ErrForm},
	} {
		if l, e := All(c.s); len(l) != 0 || e != c.e {
			t.Errorf("All(%x) = %d %d, want %d", c.s, l, e, c.e)
		}
	}
	if l, e := All(""); len(l) != 0 || e != api.OK {
		t.Errorf("All of nothing = %d %d", l, e)
	}
}

func TestZigZag(t *testing.T) { // P1.3
	for _, c := range []struct {
		n int64
		u uint64
	}{
		{0, 0},
		{-1, 1},
		{1, 2},
		{-2, 3},
		{2, 4},
		{math.MaxInt32, 1<<32 - 2},
		{math.MinInt32, 1<<32 - 1},
		{math.MaxInt64, math.MaxUint64 - 1},
		{math.MinInt64, math.MaxUint64},
	} {
		if u := Zig(c.n); u != c.u {
			t.Errorf("Zig(%d) = %d, want %d", c.n, u, c.u)
		}
		if n := Zag(c.u); n != c.n {
			t.Errorf("Zag(%d) = %d, want %d", c.u, n, c.n)
		}
	}
}

func TestZigAgainstItsDefinition(t *testing.T) { // P1.3
	for _, u := range append(numbers(), noise(2000)...) {
		n := int64(u)
		want := new(big.Int).Mul(big.NewInt(2), big.NewInt(n))
		if n < 0 {
			want.Neg(want).Sub(want, big.NewInt(1))
		}
		if got := new(big.Int).SetUint64(Zig(n)); got.Cmp(want) != 0 {
			t.Errorf("Zig(%d) = %v, want %v", n, got, want)
		}
	}
}

func TestFits(t *testing.T) { // P1.3
	for _, c := range []struct {
		n    int64
		bits int
		fits bool
	}{
		{0, 1, true}, {-1, 1, true}, {1, 1, false}, {-2, 1, false},
		{127, 8, true}, {128, 8, false}, {-128, 8, true}, {-129, 8, false},
		{math.MaxInt32, 32, true}, {math.MaxInt32 + 1, 32, false},
		{math.MinInt32, 32, true}, {math.MinInt32 - 1, 32, false},
		{math.MaxInt64, 64, true}, {math.MinInt64, 64, true},
		{math.MaxInt64, 63, false}, {math.MinInt64, 63, false},
		{0, 0, false}, {0, -1, false}, {0, 65, false}, {-1, 0, false}, {-1, 65, false},
		{0, math.MaxInt, false}, {0, math.MinInt, false},
	} {
		if fits := Fits(c.n, c.bits); fits != c.fits {
			t.Errorf("Fits(%d, %d) = %t", c.n, c.bits, fits)
		}
	}
}

func TestLow(t *testing.T) { // P1.3
	for _, c := range []struct {
		n    int64
		bits int
		low  int64
	}{
		{200, 8, -56}, {-56, 8, -56}, {456, 8, -56}, {127, 8, 127}, {128, 8, -128}, {-129, 8, 127}, {256, 8, 0},
		{0, 1, 0}, {1, 1, -1}, {-1, 1, -1}, {2, 1, 0},
		{math.MaxInt64, 64, math.MaxInt64}, {math.MinInt64, 64, math.MinInt64},
		{math.MaxInt64, 63, -1}, {math.MinInt64, 63, 0}, {1 << 62, 63, -1 << 62},
		{1 << 31, 32, math.MinInt32}, {1<<32 - 1, 32, -1},
		{5, 0, 0}, {5, -1, 0}, {5, 65, 0}, {-1, 0, 0}, {-1, 65, 0},
		{5, math.MaxInt, 0}, {5, math.MinInt, 0},
	} {
		if low := Low(c.n, c.bits); low != c.low {
			t.Errorf("Low(%d, %d) = %d, want %d", c.n, c.bits, low, c.low)
		}
	}
}

// widthsAndNumbers calls f for every number with every width.
func widthsAndNumbers(f func(n int64, bits int)) {
	for _, u := range append(numbers(), noise(200)...) {
		for _, bits := range widths() {
			f(int64(u), bits)
		}
	}
}

func TestFitsAgainstItsDefinition(t *testing.T) { // P1.3
	widthsAndNumbers(func(n int64, bits int) {
		want := false
		if bits >= 1 && bits <= 64 {
			end := new(big.Int).Lsh(big.NewInt(1), uint(bits-1))
			start := new(big.Int).Neg(end)
			want = big.NewInt(n).Cmp(start) >= 0 && big.NewInt(n).Cmp(end) < 0
		}
		if got := Fits(n, bits); got != want {
			t.Errorf("Fits(%d, %d) = %t", n, bits, got)
		}
	})
}

func TestLowAgainstItsDefinition(t *testing.T) { // P1.3
	widthsAndNumbers(func(n int64, bits int) {
		low := Low(n, bits)
		if bits < 1 || bits > 64 {
			if low != 0 {
				t.Errorf("Low(%d, %d) = %d, want 0", n, bits, low)
			}
			return
		}
		modulus := new(big.Int).Lsh(big.NewInt(1), uint(bits))
		difference := new(big.Int).Sub(big.NewInt(n), big.NewInt(low))
		if !Fits(low, bits) || difference.Mod(difference, modulus).Sign() != 0 {
			t.Errorf("Low(%d, %d) = %d", n, bits, low)
		}
	})
}

func TestEncodedIsDecoded(t *testing.T) { // P1.4
	l := append(numbers(), noise(2000)...)
	for _, n := range l {
		if got, e := Get64(Put64(n)); got != n || e != api.OK {
			t.Errorf("Get64(Put64(%d)) = %d %d", n, got, e)
		}
		if got, e := Get32(Put32(uint32(n))); got != uint32(n) || e != api.OK {
			t.Errorf("Get32(Put32(%d)) = %d %d", uint32(n), got, e)
		}
		s := Short(n)
		if got, size, e := Long(s); got != n || size != len(s) || e != api.OK {
			t.Errorf("Long(Short(%d)) = %d %d %d", n, got, size, e)
		}
		if got := Zag(Zig(int64(n))); got != int64(n) {
			t.Errorf("Zag(Zig(%d)) = %d", int64(n), got)
		}
		if got := Zig(Zag(n)); got != n {
			t.Errorf("Zig(Zag(%d)) = %d", n, got)
		}
	}
	if got, e := All(Short(l...)); !slices.Equal(got, l) || e != api.OK {
		t.Errorf("All(Short(l)) has %d numbers, %d; want %d", len(got), e, len(l))
	}
}

// checkDecoded checks that whatever is decoded of s has exactly its bytes.
func checkDecoded(t *testing.T, s string) {
	t.Helper()
	if n, e := Get32(s); e == api.OK && Put32(n) != s || e != api.OK && n != 0 {
		t.Errorf("Get32(%x) = %d %d", s, n, e)
	}
	if n, e := Get64(s); e == api.OK && Put64(n) != s || e != api.OK && n != 0 {
		t.Errorf("Get64(%x) = %d %d", s, n, e)
	}
	n, size, e := Long(s)
	if e == api.OK && (size > len(s) || Short(n) != s[:size]) || e != api.OK && (n != 0 || size != 0) {
		t.Errorf("Long(%x) = %d %d %d", s, n, size, e)
	}
	if l, e := All(s); e == api.OK && Short(l...) != s || e != api.OK && len(l) != 0 {
		t.Errorf("All(%x) = %d %d", s, l, e)
	}
}

func TestDecodedHasTheseBytes(t *testing.T) { // P1.4
	checkDecoded(t, "")
	for i := range 256 {
		checkDecoded(t, string([]byte{byte(i)}))
		for j := range 256 {
			checkDecoded(t, string([]byte{byte(i), byte(j)}))
		}
	}
	edges := []byte{0, 1, 2, 127, 128, 129, 255}
	for length := range 13 {
		for _, fill := range edges {
			for _, last := range edges {
				for _, after := range edges {
					s := strings.Repeat(string([]byte{fill}), length)
					checkDecoded(t, s+string([]byte{last}))
					checkDecoded(t, s+string([]byte{last, after}))
				}
			}
		}
	}
	for _, n := range noise(2000) {
		s := Put64(n)
		checkDecoded(t, s)
		checkDecoded(t, s[:n%9])
		checkDecoded(t, s+s)
	}
}

func TestAllIsNewMemory(t *testing.T) { // R3
	l := []uint64{1, 300}
	s := Short(l...)
	first, _ := All(s)
	first[0], first[1] = 9, 9
	if second, e := All(s); !slices.Equal(second, l) || e != api.OK {
		t.Errorf("All after a write into its result: %d %d", second, e)
	}
	if l[0] != 1 || l[1] != 300 || s != "\x01\xac\x02" {
		t.Error("an argument was modified")
	}
}

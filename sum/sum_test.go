package sum

import (
	"hash/crc32"
	"math"
	"slices"
	"strings"
	"testing"

	"haulage/api"
)

// byDefinition is the chapter's definition, bit by bit, for a string that
// follows one with the checksum sum (0 if nothing precedes it).
func byDefinition(sum uint32, s string) uint32 {
	bits := sum ^ 0xffffffff
	for _, b := range []byte(s) {
		bits ^= uint32(b)
		for range 8 {
			out := bits & 1
			bits >>= 1
			if out == 1 {
				bits ^= 0x82f63b78
			}
		}
	}
	return bits ^ 0xffffffff
}

// noise returns a string of that length without a pattern, the same for the
// same seed.
func noise(length int, seed uint64) string {
	b := make([]byte, length)
	x := seed*0x9e3779b97f4a7c15 + 88172645463325252
	for i := range b {
		x ^= x << 13
		x ^= x >> 7
		x ^= x << 17
		b[i] = byte(x >> 24)
	}
	return string(b)
}

// samples are strings of many lengths: the edges, all single bytes, and noise.
func samples() []string {
	l := []string{
		"", "\x00", "\x00\x00\x00\x00", "\xff\xff\xff\xff", "a", "ab", "abc", "abcd", "abcde", "123456789",
		strings.Repeat("\x00", 32), strings.Repeat("\xff", 32), strings.Repeat("x", 1000),
	}
	for i := range 256 {
		l = append(l, string([]byte{byte(i)}))
	}
	for length := range 70 {
		l = append(l, noise(length, uint64(length)))
	}
	return append(l, noise(100000, 7))
}

func TestOf(t *testing.T) { // P2.1
	for _, c := range []struct {
		parts []string
		sum   uint32
	}{
		{nil, 0},
		{[]string{}, 0},
		{[]string{""}, 0},
		{[]string{"", "", ""}, 0},
		{[]string{"123456789"}, 0xe3069283},
		{[]string{"1234", "56789"}, 0xe3069283},
		{[]string{"", "123456789"}, 0xe3069283},
		{[]string{"123456789", ""}, 0xe3069283},
		{[]string{"", "1", "", "", "2345678", "9", ""}, 0xe3069283},
		{[]string{"1", "2", "3", "4", "5", "6", "7", "8", "9"}, 0xe3069283},
		{[]string{"a"}, 0xc1d04330},
		{[]string{"\x00"}, 0x527d5351},
		{[]string{"\x00\x00\x00\x00"}, 0x48674bc7},
		{[]string{"\xff\xff\xff\xff"}, 0xffffffff},
		{[]string{strings.Repeat("\x00", 32)}, 0x8a9136aa},
		{[]string{strings.Repeat("\xff", 32)}, 0x62a8ab43},
	} {
		if sum := Of(c.parts...); sum != c.sum {
			t.Errorf("Of(%q) = %08x, want %08x", c.parts, sum, c.sum)
		}
	}
	if sum := Of(); sum != 0 {
		t.Errorf("Of() = %08x", sum)
	}
}

func TestOfAgainstItsDefinition(t *testing.T) { // P2.1
	library := crc32.MakeTable(crc32.Castagnoli)
	for _, s := range samples() {
		sum := Of(s)
		if want := byDefinition(0, s); sum != want {
			t.Errorf("Of(%.20q) = %08x, want %08x", s, sum, want)
		}
		if want := crc32.Checksum([]byte(s), library); sum != want {
			t.Errorf("Of(%.20q) = %08x, the library has %08x", s, sum, want)
		}
	}
}

func TestOfPartsIsOfTheirConcatenation(t *testing.T) { // P2.1
	s := noise(40, 3)
	want := Of(s)
	for i := range len(s) + 1 {
		for j := range len(s) + 1 - i {
			if sum := Of(s[:i], s[i:i+j], s[i+j:]); sum != want {
				t.Errorf("Of with cuts at %d and %d = %08x, want %08x", i, i+j, sum, want)
			}
		}
	}
	// The order of the parts counts.
	if Of("ab", "c") == Of("c", "ab") {
		t.Error("Of does not depend on the order of its parts")
	}
}

func TestMore(t *testing.T) { // P2.1
	for _, s := range samples() {
		if sum := More(0, s); sum != Of(s) {
			t.Errorf("More(0, %.20q) = %08x, want %08x", s, sum, Of(s))
		}
		if sum := More(Of(s), ""); sum != Of(s) {
			t.Errorf("More of %.20q and nothing = %08x, want %08x", s, sum, Of(s))
		}
	}
	s := noise(60, 5)
	for i := range len(s) + 1 {
		if sum := More(Of(s[:i]), s[i:]); sum != Of(s) {
			t.Errorf("More after %d bytes = %08x, want %08x", i, sum, Of(s))
		}
	}
	if sum := More(Of("1234"), "56789"); sum != 0xe3069283 {
		t.Errorf("More of the digits = %08x", sum)
	}
}

// Every number is the checksum of some string, so More has one for each.
func TestMoreOfAnySum(t *testing.T) { // P2.1
	sums := []uint32{0, 1, 15, 16, 0x80000000, 0x82f63b78, 0xe3069283, math.MaxUint32 - 1, math.MaxUint32}
	for i := range 32 {
		sums = append(sums, 1<<i, ^uint32(1<<i))
	}
	for _, sum := range sums {
		for length := range 12 {
			s := noise(length, uint64(sum))
			if got, want := More(sum, s), byDefinition(sum, s); got != want {
				t.Errorf("More(%08x, %q) = %08x, want %08x", sum, s, got, want)
			}
		}
	}
}

func TestTableOfFourShifts(t *testing.T) { // P2.1
	for low := range uint32(16) {
		want := low
		for range 4 {
			out := want & 1
			want >>= 1
			if out == 1 {
				want ^= 0x82f63b78
			}
		}
		if fourShifts[low] != want {
			t.Errorf("fourShifts[%d] = %08x, want %08x", low, fourShifts[low], want)
		}
	}
}

func TestSeal(t *testing.T) { // P2.2
	for _, c := range []struct {
		s, sealed string
	}{
		{"", "\x00\x00\x00\x00"},
		{"123456789", "123456789\x83\x92\x06\xe3"},
		{"a", "a\x30\x43\xd0\xc1"},
		{"\x00", "\x00\x51\x53\x7d\x52"},
		{"\x00\x00\x00\x00", "\x00\x00\x00\x00\xc7\x4b\x67\x48"},
		{"\xff\xff\xff\xff", "\xff\xff\xff\xff\xff\xff\xff\xff"},
	} {
		if sealed := Seal(c.s); sealed != c.sealed {
			t.Errorf("Seal(%x) = %x, want %x", c.s, sealed, c.sealed)
		}
		if s, e := Open(c.sealed); s != c.s || e != api.OK {
			t.Errorf("Open(%x) = %x %d, want %x", c.sealed, s, e, c.s)
		}
	}
}

func TestOpenErrors(t *testing.T) { // P2.2
	for _, c := range []struct {
		s string
		e api.Errno
	}{
		{"", api.ErrEnd},
		{"\x00", api.ErrEnd},
		{"ab", api.ErrEnd},
		{"\x00\x00\x00", api.ErrEnd},
		{"\xff\xff\xff", api.ErrEnd},
		{"\x00\x00\x00\x01", api.ErrSum},
		{"\x01\x00\x00\x00", api.ErrSum},
		{"\xff\xff\xff\xff", api.ErrSum},
		{"abcd", api.ErrSum},
		{"\x00\x00\x00\x00\x00", api.ErrSum},
		{"223456789\x83\x92\x06\xe3", api.ErrSum},
		// The bytes of the checksum in the other order, or not inverted.
		{"123456789\xe3\x06\x92\x83", api.ErrSum},
		{"123456789\x7c\x6d\xf9\x1c", api.ErrSum},
		// The checksum before the string, or not of all of it.
		{"\x83\x92\x06\xe3123456789", api.ErrSum},
		{"0123456789\x83\x92\x06\xe3", api.ErrSum},
		{"123456789\x83\x92\x06\xe3\x00", api.ErrSum},
		{"123456789\x83\x92\x06", api.ErrSum},
	} {
		if s, e := Open(c.s); s != "" || e != c.e {
			t.Errorf("Open(%x) = %x %d, want %d", c.s, s, e, c.e)
		}
	}
}

func TestSealedIsOpened(t *testing.T) { // P2.2 and P7
	for _, s := range samples() {
		sealed := Seal(s)
		if len(sealed) != len(s)+4 || sealed[:len(s)] != s {
			t.Errorf("Seal(%.20q) does not begin with it, or not four bytes follow", s)
		}
		if got, e := Open(sealed); got != s || e != api.OK {
			t.Errorf("Open(Seal(%.20q)) = %.20q %d", s, got, e)
		}
		if got, e := Open(Seal(sealed)); got != sealed || e != api.OK {
			t.Errorf("Open of %.20q, sealed twice, = %.20q %d", s, got, e)
		}
	}
}

func TestOpenedHasTheseBytes(t *testing.T) { // P2.2 and P7
	for _, s := range samples() {
		for _, sealed := range []string{s, Seal(s), Seal(s) + "\x00", s + "\x00\x00\x00\x00"} {
			got, e := Open(sealed)
			if e == api.OK && Seal(got) != sealed || e != api.OK && got != "" {
				t.Errorf("Open(%.20q) = %.20q %d", sealed, got, e)
			}
		}
	}
}

// A sealed string is the only one among all last bytes, and among all first
// ones, that is sealed.
func TestOpenOfEveryLastAndFirstByte(t *testing.T) { // P2.2
	for _, s := range []string{"", "a", "abc", "123456789"} {
		sealed := Seal(s)
		for _, at := range []int{0, len(sealed) - 4, len(sealed) - 1} {
			for i := range 256 {
				b := []byte(sealed)
				b[at] = byte(i)
				want := api.OK
				if string(b) != sealed {
					want = api.ErrSum
				}
				if _, e := Open(string(b)); e != want {
					t.Errorf("Open(%x) = %d, want %d", b, e, want)
				}
			}
		}
	}
}

func xor(l ...string) string {
	b := make([]byte, len(l[0]))
	for _, s := range l {
		for i := range b {
			b[i] ^= s[i]
		}
	}
	return string(b)
}

func TestExclusiveOrOfThree(t *testing.T) { // P2.3
	for length := range 60 {
		for seed := range uint64(10) {
			a, b, c := noise(length, seed), noise(length, seed+100), noise(length, seed*seed+200)
			if got, want := Of(xor(a, b, c)), Of(a)^Of(b)^Of(c); got != want {
				t.Errorf("the checksum of the exclusive or of %x, %x and %x is %08x, want %08x", a, b, c, got, want)
			}
			if got := Of(xor(a, a, b)); got != Of(b) {
				t.Errorf("the checksum of the exclusive or of %x twice and %x is %08x", a, b, got)
			}
		}
	}
}

// masks are ways to alter four consecutive bytes: every one has a bit.
func masks() []string {
	var l []string
	for i := range 32 {
		b := make([]byte, 4)
		b[i/8] = 1 << (i % 8)
		l = append(l, string(b))
	}
	for i := range 255 {
		l = append(l, string([]byte{byte(i + 1), 0, 0, 0}), string([]byte{0, 0, 0, byte(i + 1)}))
	}
	for seed := range uint64(100) {
		l = append(l, noise(4, seed))
	}
	// The last ones are the divisor itself, in both orders of its bits, and all bits.
	return append(l, "\x78\x3b\xf6\x82", "\x82\xf6\x3b\x78", "\xff\xff\xff\xff")
}

// altered returns s with the bits of the mask inverted from the index on, as
// far as s goes.
func altered(s string, at int, mask string) string {
	b := []byte(s)
	for i := range min(len(mask), len(b)-at) {
		b[at+i] ^= mask[i]
	}
	return string(b)
}

func TestAlteredHasAnotherChecksum(t *testing.T) { // P2.4
	for _, length := range []int{1, 2, 3, 4, 5, 8, 9, 33} {
		s := noise(length, uint64(length))
		for at := range length {
			for _, mask := range masks() {
				other := altered(s, at, mask)
				if other != s && Of(other) == Of(s) {
					t.Errorf("Of(%x) = Of(%x) = %08x", s, other, Of(s))
				}
			}
		}
	}
}

func TestAlteredIsNotSealed(t *testing.T) { // P2.4
	for _, length := range []int{0, 1, 2, 3, 4, 5, 9, 33} {
		sealed := Seal(noise(length, uint64(length)))
		for at := range len(sealed) {
			for _, mask := range masks() {
				other := altered(sealed, at, mask)
				if other == sealed {
					continue
				}
				if s, e := Open(other); s != "" || e != api.ErrSum {
					t.Errorf("Open(%x) = %x %d, and %x is sealed", other, s, e, sealed)
				}
			}
		}
	}
}

// rank returns how many of the vectors of bits are independent of the others.
func rank(l []uint32) int {
	l = slices.Clone(l)
	count := 0
	for bit := range 32 {
		pivot := slices.IndexFunc(l[count:], func(n uint32) bool { return n>>bit&1 == 1 })
		if pivot < 0 {
			continue
		}
		l[count], l[count+pivot] = l[count+pivot], l[count]
		for i := range l {
			if i != count && l[i]>>bit&1 == 1 {
				l[i] ^= l[count]
			}
		}
		count++
	}
	return count
}

// By P2.3 what altered bits change in the checksum is the exclusive or of what
// each of them changes alone: if those 32 numbers are independent, no
// alteration of the four bytes leaves the checksum as it is.
func TestNoAlterationOfFourBytesIsMissed(t *testing.T) { // P2.4
	for _, length := range []int{4, 5, 6, 7, 8, 50, 600} {
		s := noise(length, 9)
		for at := range length - 3 {
			var changes []uint32
			for i := range 32 {
				mask := make([]byte, 4)
				mask[i/8] = 1 << (i % 8)
				changes = append(changes, Of(altered(s, at, string(mask)))^Of(s))
			}
			if r := rank(changes); r != 32 {
				t.Errorf("%d bytes, altered from %d on: rank %d", length, at, r)
			}
		}
	}
}

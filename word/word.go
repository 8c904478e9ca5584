// Package word encodes integers as bytes: with a fixed size, or as varints (LEB128).
package word

import (
	"haulage/api"
)

// A byte of a varint has a digit of digitBits bits; its highest bit, more,
// is set unless it is the last one.
const (
	digitBits = 7
	more      = 1 << digitBits
)

// A number of 64 bits has at most maxDigits digits, and the last of so many
// has only the one bit that is left: it is at most maxLastDigit.
const (
	maxDigits    = 10
	maxLastDigit = 1
)

// Put32 returns the four bytes of n, the least significant one first.
func Put32(n uint32) string {
	return fixed(uint64(n), 4)
}

// Get32 returns the number whose four bytes are s.
func Get32(s string) (uint32, api.Errno) {
	n, e := unfixed(s, 4)
	return uint32(n), e
}

// Put64 returns the eight bytes of n, the least significant one first.
func Put64(n uint64) string {
	return fixed(n, 8)
}

// Get64 returns the number whose eight bytes are s.
func Get64(s string) (uint64, api.Errno) {
	return unfixed(s, 8)
}

func fixed(n uint64, size int) string {
	b := make([]byte, size)
	for i := range size {
		b[i] = byte(n >> (8 * uint(i)))
	}
	return string(b)
}

func unfixed(s string, size int) (uint64, api.Errno) {
	if len(s) < size {
		return 0, api.ErrEnd
	}
	if len(s) > size {
		return 0, api.ErrExtra
	}
	var n uint64
	for i := range size {
		n |= uint64(s[i]) << (8 * uint(i))
	}
	return n, api.OK
}

// Short returns the varints of all numbers, one after the other.
func Short(l ...uint64) string {
	var b []byte
	for _, n := range l {
		b = appendVarint(b, n)
	}
	return string(b)
}

func appendVarint(b []byte, n uint64) []byte {
	for n >= more {
		b = append(b, byte(n)|more)
		n >>= digitBits
	}
	return append(b, byte(n))
}

// Long returns the number whose varint s begins with, and how many bytes it has.
func Long(s string) (n uint64, size int, e api.Errno) {
	for i := range min(len(s), maxDigits) {
		digit := s[i]
		n |= uint64(digit&^more) << (digitBits * uint(i))
		if digit < more {
			if !isLastDigit(digit, i) {
				return 0, 0, api.ErrForm
			}
			return n, i + 1, api.OK
		}
	}
	if len(s) < maxDigits {
		return 0, 0, api.ErrEnd
	}
	return 0, 0, api.ErrForm
}

// isLastDigit reports whether a varint may end with that digit at that index:
// a 0 would make it longer than needed, and bits above the 64th would be lost.
func isLastDigit(digit byte, index int) bool {
	if index > 0 && digit == 0 {
		return false
	}
	return index < maxDigits-1 || digit <= maxLastDigit
}

// All returns the numbers whose varints, one after the other, are s.
func All(s string) ([]uint64, api.Errno) {
	var l []uint64
	for len(s) > 0 {
		n, size, e := Long(s)
		if e != api.OK {
			return nil, e
		}
		l = append(l, n)
		s = s[size:]
	}
	return l, api.OK
}

// Zig returns the zigzag value of n.
func Zig(n int64) uint64 {
	// n >> 63 is all ones if n is negative: the xor turns 2n into -2n - 1.
	return uint64(n)<<1 ^ uint64(n>>63)
}

// Zag returns the number whose zigzag value is u.
func Zag(u uint64) int64 {
	return int64(u>>1) ^ -int64(u&1)
}

// Fits reports whether n is a number of that many bits, one of them for the sign.
func Fits(n int64, bits int) bool {
	return isWidth(bits) && Low(n, bits) == n
}

// Low returns the number of that many bits whose lowest bits are those of n.
func Low(n int64, bits int) int64 {
	if !isWidth(bits) {
		return 0
	}
	// The shift back repeats the highest bit that is kept: it is the sign.
	unused := uint(64 - bits)
	return n << unused >> unused
}

func isWidth(bits int) bool {
	return bits >= 1 && bits <= 64
}

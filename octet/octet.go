// Package octet is layer 1: numbers and texts as bytes.
package octet

import "bytes"

// widest is how many bytes a number has at most.
const widest = 8

// digits stand in the order of what they say.
const digits = "0123456789abcdef"

// Put answers the lowest wide bytes of n, the highest first (P1.1).
func Put(n uint64, wide int) []byte {
	if wide < 1 || wide > widest {
		return nil
	}
	b := make([]byte, wide)
	for i := range wide {
		b[wide-1-i] = byte(n >> (8 * i))
	}
	return b
}

// Number answers the number whose bytes are b, the highest first (P1.2).
func Number(b []byte) uint64 {
	if len(b) > widest {
		return 0
	}
	n := uint64(0)
	for i := range len(b) {
		n = n<<8 | uint64(b[i])
	}
	return n
}

// Join answers all parts, one behind the other (P1.3).
func Join(parts ...[]byte) []byte {
	return bytes.Join(parts, nil)
}

// Cut answers the first n bytes, and the others (P1.3).
func Cut(b []byte, n int) ([]byte, []byte, bool) {
	if n < 0 || n > len(b) {
		return nil, nil, false
	}
	return bytes.Clone(b[:n]), bytes.Clone(b[n:]), true
}

// Same tells whether a and b have the same bytes (P1.3).
func Same(a, b []byte) bool {
	return bytes.Equal(a, b)
}

// Order tells which of a and b stands ahead: -1 is a, 1 is b, 0 neither (P1.4).
func Order(a, b []byte) int {
	return bytes.Compare(a, b)
}

// Hex answers two digits for each byte, the higher one first (P1.5).
func Hex(b []byte) string {
	text := make([]byte, 0, 2*len(b))
	for _, x := range b {
		text = append(text, digits[x>>4], digits[x&15])
	}
	return string(text)
}

// Unhex answers the bytes that the digits of s tell (P1.5).
func Unhex(s string) ([]byte, bool) {
	if len(s)%2 != 0 {
		return nil, false
	}
	b := make([]byte, len(s)/2)
	for i := range len(b) {
		high, ok1 := digit(s[2*i])
		low, ok2 := digit(s[2*i+1])
		if !ok1 || !ok2 {
			return nil, false
		}
		b[i] = high<<4 | low
	}
	return b, true
}

// digit answers what a digit says. Capital letters are none, so that each list of bytes has one text alone.
func digit(c byte) (byte, bool) {
	switch {
	case c >= '0' && c <= '9':
		return c - '0', true
	case c >= 'a' && c <= 'f':
		return c - 'a' + 10, true
	}
	return 0, false
}

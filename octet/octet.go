// Package octet is layer 1: see shared/doc/01-octet.md.
package octet

import "strings"

// The classes.
const (
	Alpha      = 1
	Digit      = 2
	Mark       = 4
	Sub        = 8
	Gen        = 16
	Hex        = 32
	Unreserved = Alpha | Digit | Mark
	Reserved   = Sub | Gen
)

// The bytes of those classes that are no ranges, and the digits by their values.
const (
	marks  = "-._~"
	subs   = "!$&'()*+,;="
	gens   = ":/?#[]@"
	digits = "0123456789ABCDEF"
)

// Letters of both cases lie this far from each other.
const caseGap = 'a' - 'A'

// Class tells all classes of a byte.
func Class(b byte) int {
	switch {
	case '0' <= b && b <= '9':
		return Digit | Hex
	case 'A' <= b && b <= 'F', 'a' <= b && b <= 'f':
		return Alpha | Hex
	case isUpper(b), isLower(b):
		return Alpha
	case strings.IndexByte(marks, b) >= 0:
		return Mark
	case strings.IndexByte(subs, b) >= 0:
		return Sub
	case strings.IndexByte(gens, b) >= 0:
		return Gen
	}
	return 0
}

// Is tells whether a byte is of one of some classes.
func Is(b byte, classes int) bool { return Class(b)&classes != 0 }

// Lower is a text with its letters in lower case.
func Lower(s string) string {
	out := []byte(s)
	for i, b := range out {
		if isUpper(b) {
			out[i] = b + caseGap
		}
	}
	return string(out)
}

// Upper is a text with its letters in upper case.
func Upper(s string) string {
	out := []byte(s)
	for i, b := range out {
		if isLower(b) {
			out[i] = b - caseGap
		}
	}
	return string(out)
}

// Same tells whether two texts are the same but for the case of letters.
func Same(a, b string) bool {
	return len(a) == len(b) && Lower(a) == Lower(b)
}

// Value is that of a hexadecimal digit.
func Value(b byte) (int, bool) {
	switch {
	case '0' <= b && b <= '9':
		return int(b - '0'), true
	case 'A' <= b && b <= 'F':
		return int(b-'A') + 10, true
	case 'a' <= b && b <= 'f':
		return int(b-'a') + 10, true
	}
	return 0, false
}

// Nibble is the digit of a value.
func Nibble(v int) (byte, bool) {
	if v < 0 || v >= len(digits) {
		return 0, false
	}
	return digits[v], true
}

// Span tells how many bytes at the beginning are of some classes.
func Span(s string, classes int) int {
	n := 0
	for n < len(s) && Is(s[n], classes) {
		n++
	}
	return n
}

// Find is the first place of one of some bytes.
func Find(s string, from int, set string) int {
	// A table of the set keeps the search as long as both texts together, not as their product.
	var wanted [256]bool
	for i := range len(set) {
		wanted[set[i]] = true
	}
	for i := max(from, 0); i < len(s); i++ {
		if wanted[s[i]] {
			return i
		}
	}
	return -1
}

func isUpper(b byte) bool { return 'A' <= b && b <= 'Z' }

func isLower(b byte) bool { return 'a' <= b && b <= 'z' }

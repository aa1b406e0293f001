// Package utf is layer 2: see shared/doc/02-utf.md.
package utf

import (
	"strings"

	"moniker/api"
)

// The sign that stands for a fault, as a code point and as its bytes.
const (
	sign     = 0xFFFD
	signText = "\uFFFD"
)

// The code points that are no scalar values though they lie in between.
const (
	firstSurrogate = 0xD800
	lastSurrogate  = 0xDFFF
)

// The bytes that may stand behind the first one, but where a row has fewer for the second one.
const (
	nextLow  = 0x80
	nextHigh = 0xBF
)

// row tells which bytes begin like a given first one.
type row struct {
	size      int  // how many bytes there are in all; 0: the first byte is no row's
	low, high byte // from where to where the second byte lies
}

// Scalar tells whether a code point is a scalar value.
func Scalar(r rune) bool {
	return 0 <= r && r < firstSurrogate || lastSurrogate < r && r <= api.MaxRune
}

// Encode is a scalar value's bytes.
func Encode(r rune) string {
	if !Scalar(r) {
		return ""
	}
	return string(r)
}

// Decode is the scalar value that begins a text.
func Decode(s string) (r rune, n int, ok bool) {
	for i, first := range s { // only the first one is looked at
		if isFault(s, i, first) {
			return 0, faultSize(s), false
		}
		return first, len(Encode(first)), true
	}
	return 0, 0, false
}

// Valid tells whether a text is well-formed.
func Valid(s string) bool { return Fault(s) < 0 }

// Fault is the place of the first byte that is ill-formed.
func Fault(s string) int {
	for i, r := range s {
		if isFault(s, i, r) {
			return i
		}
	}
	return -1
}

// Runes are a text's scalar values.
func Runes(s string) ([]rune, bool) {
	var out []rune
	for i, r := range s {
		if isFault(s, i, r) {
			return nil, false
		}
		out = append(out, r)
	}
	return out, true
}

// Text is the bytes of scalar values.
func Text(l []rune) (string, bool) {
	var out strings.Builder
	for _, r := range l {
		if !Scalar(r) {
			return "", false
		}
		out.WriteRune(r)
	}
	return out.String(), true
}

// Count tells how many scalar values and faults a text has.
func Count(s string) int {
	n, next := 0, 0
	for i, r := range s {
		if i < next { // the language goes through a fault byte by byte
			continue
		}
		if isFault(s, i, r) {
			next = i + faultSize(s[i:])
		}
		n++
	}
	return n
}

// Repair is a text whose faults are told by one sign each.
func Repair(s string) string {
	var out strings.Builder
	next := 0
	for i, r := range s {
		if i < next {
			continue
		}
		if isFault(s, i, r) {
			next = i + faultSize(s[i:])
		}
		out.WriteRune(r) // at a fault the language has set the sign already
	}
	return out.String()
}

// isFault tells whether r, which going through s by runes gave at a place, stands for a fault there: the sign itself may stand in a text, too.
func isFault(s string, at int, r rune) bool {
	return r == sign && !strings.HasPrefix(s[at:], signText)
}

// faultSize tells how many bytes the fault has with which s begins.
func faultSize(s string) int {
	first := rowOf(s[0])
	low, high := first.low, first.high
	n := 1
	for n < first.size && n < len(s) && low <= s[n] && s[n] <= high {
		low, high = nextLow, nextHigh
		n++
	}
	return n
}

// rowOf is the row that a first byte has in the table of bytes.
func rowOf(b byte) row {
	switch {
	case b <= 0x7F:
		return row{size: 1}
	case 0xC2 <= b && b <= 0xDF:
		return row{2, nextLow, nextHigh}
	case b == 0xE0:
		return row{3, 0xA0, nextHigh}
	case b == 0xED:
		return row{3, nextLow, 0x9F}
	case 0xE1 <= b && b <= 0xEF:
		return row{3, nextLow, nextHigh}
	case b == 0xF0:
		return row{4, 0x90, nextHigh}
	case 0xF1 <= b && b <= 0xF3:
		return row{4, nextLow, nextHigh}
	case b == 0xF4:
		return row{4, nextLow, 0x8F}
	}
	return row{}
}

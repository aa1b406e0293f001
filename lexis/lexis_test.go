package lexis

import (
	"math"
	"math/rand"
	"strings"
	"testing"
	"time"
	"unicode/utf8"
)

// span is some code points, from one to another.
type span struct{ low, high rune }

func among(l []span, r rune) bool {
	for _, s := range l {
		if s.low <= r && r <= s.high {
			return true
		}
	}
	return false
}

// The code points of the chapter, written out.
func common() []span {
	l := []span{{0xA0, 0xD7FF}, {0xF900, 0xFDCF}, {0xFDF0, 0xFFEF}, {0xE1000, 0xEFFFD}}
	for plane := rune(1); plane <= 0xD; plane++ {
		l = append(l, span{plane << 16, plane<<16 + 0xFFFD})
	}
	return l
}

var (
	private    = []span{{0xE000, 0xF8FF}, {0xF0000, 0xFFFFD}, {0x100000, 0x10FFFD}}
	directions = []span{{0x200E, 0x200E}, {0x200F, 0x200F}, {0x202A, 0x202E}}
)

// The bytes of the chapter's table, written out, by their places.
const (
	unreserved = "ABCDEFGHIJKLMNOPQRSTUVWXYZabcdefghijklmnopqrstuvwxyz0123456789-._~"
	sub        = "!$&'()*+,;="
)

var table = map[int]string{
	1: unreserved + sub + ":",
	2: unreserved + sub,
	3: unreserved + sub + ":@",
	4: unreserved + sub + "@",
	5: unreserved + sub + ":@/",
	6: unreserved + sub + ":@/?",
	7: unreserved + sub + ":@/?",
}

var places = []int{math.MinInt, -7, -1, 0, 1, 2, 3, 4, 5, 6, 7, 8, 9, 64, 256 + 3, 1 << 32, 1<<32 + 5, math.MaxInt}

// may is what the chapter says of a code point at a place.
func may(place int, iri bool, r rune) bool {
	bytes, ok := table[place]
	if !ok || r < 0 {
		return false
	}
	if r < 0x80 {
		return strings.ContainsRune(bytes, r)
	}
	return iri && (among(common(), r) || place == 6 && among(private, r))
}

// spanOf is what the chapter says of a text at a place.
func spanOf(place int, iri bool, s string) int {
	n := 0
	if table[place] == "" {
		return 0
	}
	for n < len(s) {
		if rest := s[n:]; len(rest) >= 3 && rest[0] == '%' && isHex(rest[1]) && isHex(rest[2]) {
			n += 3
			continue
		}
		r, size := utf8.DecodeRuneInString(s[n:])
		if r == utf8.RuneError && size == 1 || !may(place, iri, r) {
			break
		}
		n += size
	}
	return n
}

func isHex(b byte) bool { return strings.IndexByte("0123456789ABCDEFabcdef", b) >= 0 }

// farRunes are code points at which a number could run over, or be cut.
var farRunes = []rune{math.MinInt32, math.MinInt32 + 'a', -0x10000, -0xFF, -2, -1, 0x110000, 0x110061, 0x11E000, 0x1E1000, 0x1000061, 0x100 + 'a', 0x10000 + 'a', math.MaxInt32 - 1, math.MaxInt32}

func TestP18_1CodePoints(t *testing.T) {
	l := common()
	for r := rune(-0x300); r <= 0x120000; r++ {
		if Common(r) != among(l, r) {
			t.Fatalf("Common(%X) is %v", r, Common(r))
		}
		if Private(r) != among(private, r) {
			t.Fatalf("Private(%X) is %v", r, Private(r))
		}
		if Direction(r) != among(directions, r) {
			t.Fatalf("Direction(%X) is %v", r, Direction(r))
		}
	}
	for _, r := range farRunes {
		if Common(r) != among(l, r) || Private(r) != among(private, r) || Direction(r) != among(directions, r) {
			t.Errorf("%X is told wrongly", r)
		}
	}
}

func TestP18_1Plain(t *testing.T) {
	for _, place := range places {
		for b := range 256 {
			want := b < 0x80 && strings.IndexByte(table[place], byte(b)) >= 0
			if got := Plain(place, byte(b)); got != want {
				t.Errorf("Plain(%d, %X) is %v", place, b, got)
			}
		}
	}
}

func TestP18_1PlainExamples(t *testing.T) {
	for _, one := range []struct {
		place int
		b     byte
		want  bool
	}{
		{User, ':', true}, {User, '@', false}, {User, '/', false},
		{Name, ':', false}, {Name, ';', true}, {Name, '[', false},
		{Segment, ':', true}, {Segment, '@', true}, {Segment, '/', false}, {Segment, '?', false},
		{First, ':', false}, {First, '@', true},
		{Path, '/', true}, {Path, ':', true}, {Path, '?', false},
		{Query, '?', true}, {Query, '/', true}, {Query, '#', false},
		{Fragment, '?', true}, {Fragment, '#', false},
		{Fragment, '%', false}, {Query, '%', false}, {Segment, '%', false}, {User, '%', false},
		{Segment, ' ', false}, {Segment, '"', false}, {Segment, '\\', false}, {Segment, 0, false}, {Segment, 0x7F, false}, {Segment, 0xFC, false},
		{0, 'a', false}, {8, 'a', false}, {-1, 'a', false},
	} {
		if got := Plain(one.place, one.b); got != one.want {
			t.Errorf("Plain(%d, %q) is %v", one.place, one.b, got)
		}
	}
}

func TestP18_1MayAndP18_2(t *testing.T) {
	l := common()
	for _, place := range places {
		bytes, known := table[place]
		for r := rune(-0x200); r <= 0x111000; r++ {
			ofURI := r >= 0 && r < 0x80 && strings.IndexByte(bytes, byte(r)) >= 0
			ofIRI := ofURI || known && (among(l, r) || place == 6 && among(private, r))
			if got := May(place, false, r); got != ofURI {
				t.Fatalf("May(%d, false, %X) is %v", place, r, got)
			}
			if got := May(place, true, r); got != ofIRI {
				t.Fatalf("May(%d, true, %X) is %v", place, r, got)
			}
		}
		for _, r := range farRunes {
			if May(place, false, r) || May(place, true, r) != may(place, true, r) {
				t.Errorf("May(%d, _, %X) is told wrongly", place, r)
			}
		}
	}
}

// check holds Span and All of one text at all places against the chapter's words, and P18.2.
func check(t *testing.T, s string) {
	t.Helper()
	for place := -1; place <= 9; place++ {
		for _, iri := range []bool{false, true} {
			want := spanOf(place, iri, s)
			if got := Span(place, iri, s); got != want {
				t.Fatalf("Span(%d, %v, %q) is %d, not %d", place, iri, s, got, want)
			}
			if got := All(place, iri, s); got != (want == len(s)) {
				t.Fatalf("All(%d, %v, %q) is %v", place, iri, s, got)
			}
		}
		if Span(place, true, s) < Span(place, false, s) || All(place, false, s) && !All(place, true, s) {
			t.Fatalf("at %d more of %q may stand of a URI than of an IRI", place, s)
		}
	}
}

func TestP18_1SpanExamples(t *testing.T) {
	for _, one := range []struct {
		place int
		iri   bool
		s     string
		want  int
	}{
		{Segment, false, "a%2Fb/c", 5},
		{Segment, false, "%zz", 0},
		{Segment, false, "", 0},
		{Segment, false, "%", 0},
		{Segment, false, "%4", 0},
		{Segment, false, "%41", 3},
		{Segment, false, "%ff%FF%fF", 9},
		{Segment, false, "%4%41", 0},
		{Segment, false, "%%41", 0},
		{Segment, false, "%414", 4},
		{Segment, false, "a%4", 1},
		{Segment, false, "a%4g", 1},
		{Segment, true, "a%ü1", 1},
		{Segment, false, "%C3%BC", 6},
		{Segment, false, "ü", 0},
		{Segment, true, "ü", 2},
		{Segment, true, "aü/", 3},
		{Segment, true, "ü\xC3", 2},
		{Segment, true, "\xBCa", 0},
		{Segment, true, "a\u0080", 1},
		{Segment, true, "a\u009F", 1},
		{Segment, true, "a\u00A0", 3},
		{Segment, true, "a\uFFFD", 1},
		{Segment, true, "\uFFFF", 0},
		{Segment, true, "\uFDD0", 0},
		{Segment, true, "\u200E", 3},
		{Segment, true, "\xED\xA0\x80", 0},
		{Segment, true, "\U000E0001", 0},
		{Segment, true, "\U000E1000", 4},
		{Segment, true, "\uE000", 0},
		{Query, true, "a\uE000?", 5},
		{Query, true, "\U00100000\U0010FFFD", 8},
		{Query, true, "\U0010FFFE", 0},
		{Query, false, "\uE000", 0},
		{Fragment, true, "a\uE000", 1},
		{Path, false, "/a:b@c//?", 8},
		{First, false, "a:b", 1},
		{First, false, "a@b/c", 3},
		{User, false, "u:p@h", 3},
		{Name, false, "h:80", 1},
		{Name, false, "a_b,(c)", 7},
		{Query, false, "a=b&c?/#", 7},
		{Fragment, false, "#", 0},
		{Fragment, false, "a b", 1},
		{0, true, "a", 0},
		{0, true, "%41", 0},
		{8, true, "%41", 0},
		{-1, true, "ü", 0},
	} {
		if got := Span(one.place, one.iri, one.s); got != one.want {
			t.Errorf("Span(%d, %v, %q) is %d, not %d", one.place, one.iri, one.s, got, one.want)
		}
		if got := All(one.place, one.iri, one.s); got != (one.want == len(one.s)) {
			t.Errorf("All(%d, %v, %q) is %v", one.place, one.iri, one.s, got)
		}
		check(t, one.s)
	}
}

func TestP18_1AllOfNothing(t *testing.T) {
	for _, place := range places {
		for _, iri := range []bool{false, true} {
			if !All(place, iri, "") {
				t.Errorf("All(%d, %v) of nothing is false", place, iri)
			}
			if _, known := table[place]; All(place, iri, "a") != known || All(place, iri, "%41") != known {
				t.Errorf("All(%d, %v) of one letter is told wrongly", place, iri)
			}
		}
	}
}

func TestP18_1AndP18_2AllShort(t *testing.T) {
	signs := []string{"%", "4", "a", "g", ":", "@", "/", "?", "#", "\xC3", "\xBC", "\uE000", "\u00FC"}
	var all func(s string, left int)
	all = func(s string, left int) {
		check(t, s)
		if left == 0 {
			return
		}
		for _, one := range signs {
			all(s+one, left-1)
		}
	}
	all("", 4)
}

func TestP18_1AndP18_2Drawn(t *testing.T) {
	r := rand.New(rand.NewSource(181))
	pieces := []string{"%41", "%c3", "%", "a", "Z", "0", "-", "~", "!", "=", ":", "@", "/", "?", "#", "[", " ", "\x00", "\xFF", "\xE2\x82", "\u00A0", "\u0091", "\u200F", "\uD7FF", "\uE000", "\uF8FF", "\uF900", "\uFDCF", "\uFDD0", "\uFDEF", "\uFDF0", "\uFFEF", "\uFFF0", "\U00010000", "\U0001FFFD", "\U0001FFFE", "\U000DFFFD", "\U000E0FFF", "\U000E1000", "\U000EFFFD", "\U000F0000", "\U0010FFFD", "\U0010FFFF"}
	for range 20000 {
		var s strings.Builder
		for range r.Intn(12) {
			s.WriteString(pieces[r.Intn(len(pieces))])
		}
		check(t, s.String())
	}
	for range 20000 {
		b := make([]byte, r.Intn(10))
		for i := range b {
			b[i] = byte(r.Intn(256))
		}
		check(t, string(b))
	}
}

func TestP18_1Scheme(t *testing.T) {
	for s, want := range map[string]bool{
		"a": true, "Z": true, "http": true, "a+b-c.1": true, "HTTP": true, "z9": true, "a.": true, "a-": true, "a+": true, "a+-.": true,
		"": false, "1a": false, "+a": false, "-a": false, ".a": false, "a_b": false, "a~": false, "a:": false, "a/": false, "a%41": false, " a": false, "a ": false, "\u00FC": false, "a\u00FC": false, "a\u0661": false, "\xFF": false, "a\xFF": false, "a\x00": false, "\u212A": false,
	} {
		if got := Scheme(s); got != want {
			t.Errorf("Scheme(%q) is %v", s, got)
		}
	}
}

func TestP18_1SchemeAllShort(t *testing.T) {
	const letters = "ABCDEFGHIJKLMNOPQRSTUVWXYZabcdefghijklmnopqrstuvwxyz"
	begins := func(b int) bool { return strings.IndexByte(letters, byte(b)) >= 0 }
	goesOn := func(b int) bool { return strings.IndexByte(letters+"0123456789+-.", byte(b)) >= 0 }
	for a := range 256 {
		if Scheme(string([]byte{byte(a)})) != begins(a) {
			t.Fatalf("Scheme of %X is wrong", a)
		}
		for b := range 256 {
			if Scheme(string([]byte{byte(a), byte(b)})) != (begins(a) && goesOn(b)) {
				t.Fatalf("Scheme of %X %X is wrong", a, b)
			}
			if Scheme(string([]byte{'x', byte(a), byte(b)})) != (goesOn(a) && goesOn(b)) {
				t.Fatalf("Scheme of x %X %X is wrong", a, b)
			}
		}
	}
}

func TestP18_1Long(t *testing.T) {
	begun := time.Now()
	for _, piece := range []string{"a", "%41", "\u00FC", "\U00010000", "\xBF", "%"} {
		s := strings.Repeat(piece, 1<<20)
		want := len(s)
		if piece == "\xBF" || piece == "%" {
			want = 0
		}
		if got := Span(Path, true, s); got != want {
			t.Errorf("of %q many times %d bytes may stand", piece, got)
		}
		if All(Path, true, s+"#") || !Scheme("a"+strings.Repeat("+", 1<<20)) {
			t.Errorf("the end of %q many times isn't seen", piece)
		}
	}
	if took := time.Since(begun); took > 20*time.Second {
		t.Errorf("long texts took %v", took)
	}
}

func FuzzP18_1AndP18_2(f *testing.F) {
	f.Add("a%2Fb/c")
	f.Add("%zz")
	f.Add("\uE000\xED\xA0\x80")
	f.Fuzz(func(t *testing.T, s string) { check(t, s) })
}

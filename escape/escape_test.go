package escape

import (
	"math"
	"slices"
	"strings"
	"testing"

	"moniker/octet"
)

const (
	great = "0123456789ABCDEF"
	small = "0123456789abcdef"
)

// found is an escape in a text: its place, and its octet.
type found struct {
	at int
	b  byte
}

// allFound are the escapes of a text, looked for in another way than the program does: at every place by itself.
func allFound(s string) []found {
	var out []found
	for at := range len(s) {
		if at+3 > len(s) || s[at] != '%' {
			continue
		}
		high := strings.IndexByte(small, octet.Lower(s[at+1 : at+2])[0])
		low := strings.IndexByte(small, octet.Lower(s[at+2 : at+3])[0])
		if high >= 0 && low >= 0 {
			out = append(out, found{at, byte(16*high + low)})
		}
	}
	return out
}

func told(s string) []found {
	var out []found
	for at, b := range All(s) {
		out = append(out, found{at, b})
	}
	return out
}

func allBytes() string {
	l := make([]byte, 256)
	for i := range l {
		l[i] = byte(i)
	}
	return string(l)
}

func escapeOf(b byte) string { return "%" + string([]byte{great[b>>4], great[b&15]}) }

// classesToTry: all that name classes, and such as name none.
func classesToTry() []int {
	out := []int{-1, math.MinInt, math.MaxInt, 64, 1 << 40, -64}
	for c := range 64 {
		out = append(out, c)
	}
	return out
}

// texts: right and wrong ones, with escapes at their ends and beside each other.
var texts = []string{
	"", "a", "%", "%%", "%%%", "%4", "%41", "%4g", "%g4", "%gg", "%41%", "%41%4", "%%41", "%%%41", "%4%41", "%4%4%41",
	"a b", "a%20b", "%c3%bc", "%C3%bC", "%2541", "%25%34%31", "%25%2541", "%00", "%ff", "%FF\xff", "\xff%fF",
	"ü%c3", "%é1", "%4é", "%\x00\x00", "%-1", "%+1", "% 1", "%0x", "%x0", "%@A", "%`a", "%G0", "%/0", "%:0", "%0:", "%0/",
	"%2f%2F/", "%7e%7E~", "%41%42%43", "x%41y%42z", "%41%4x%42", "%u0041", "%%%41%%42%",
}

// shortTexts are all texts of some length, of bytes that matter to escapes.
func shortTexts(length int) []string {
	out := []string{""}
	for range length {
		var next []string
		for _, s := range out {
			for _, c := range []string{"%", "4", "a", "F", "g", "\xff"} {
				next = append(next, s+c)
			}
		}
		out = next
	}
	return out
}

func TestP4_1AtAllPairs(t *testing.T) {
	for a := range 256 {
		for b := range 256 {
			s := string([]byte{'%', byte(a), byte(b)})
			high, low := max(strings.IndexByte(great, byte(a)), strings.IndexByte(small, byte(a))), max(strings.IndexByte(great, byte(b)), strings.IndexByte(small, byte(b)))
			want, wantOK := byte(0), high >= 0 && low >= 0
			if wantOK {
				want = byte(16*high + low)
			}
			if got, ok := At(s, 0); got != want || ok != wantOK {
				t.Fatalf("At(%q, 0) = %#x, %v", s, got, ok)
			}
		}
	}
	for c := range 256 {
		if _, ok := At(string([]byte{byte(c), '4', '1'}), 0); ok != (c == '%') {
			t.Errorf("an escape that begins with %#x: %v", c, ok)
		}
	}
}

func TestP4_1AtPlaces(t *testing.T) {
	for _, i := range []int{math.MinInt, math.MinInt + 1, math.MinInt32, -4, -3, -2, -1, 0, 2, 3, 4, 5, 6, 7, math.MaxInt32, math.MaxInt - 2, math.MaxInt - 1, math.MaxInt} {
		for _, s := range []string{"", "%", "%4", "a%41bc", "x%41"} {
			want := i == 1 && len(s) > 3
			b, ok := At(s, i)
			if i == 1 && want && b != 'A' || ok != want || !ok && b != 0 {
				t.Errorf("At(%q, %d) = %#x, %v", s, i, b, ok)
			}
		}
	}
	if b, ok := At("a%41bc", 1); b != 'A' || !ok {
		t.Error("within a text", b, ok)
	}
	if b, ok := At("%41", 0); b != 'A' || !ok {
		t.Error("a whole text", b, ok)
	}
	if b, ok := At("%00", 0); b != 0 || !ok {
		t.Error("the octet 0 is one", b, ok)
	}
}

func TestP4_1Of(t *testing.T) {
	for i := range 256 {
		s := Of(byte(i))
		if s != escapeOf(byte(i)) {
			t.Errorf("Of(%#x) = %q", i, s)
		}
		if b, ok := At(s, 0); b != byte(i) || !ok {
			t.Errorf("At of Of(%#x): %#x, %v", i, b, ok)
		}
	}
}

func TestP4_1Right(t *testing.T) {
	for s, want := range map[string]bool{
		"": true, "abc": true, "%41": true, "%aF%Fa": true, "x%00y": true, "\xff": true, "41": true,
		"%": false, "%%": false, "%4": false, "%4g": false, "%g4": false, "%41%": false, "%%41": false, "%41%4": false, "%%4141": false, "a%": false,
	} {
		if got := Right(s); got != want {
			t.Errorf("Right(%q) = %v", s, got)
		}
	}
}

func TestP4_1Count(t *testing.T) {
	for s, want := range map[string]int{
		"": 0, "abc": 0, "%": 0, "%%41%42": 2, "%41": 1, "%4%41": 1, "%2541": 1, "%41%42%43": 3, "%4g": 0, "x%ffy%Ff%": 2,
	} {
		if got := Count(s); got != want {
			t.Errorf("Count(%q) = %d", s, got)
		}
	}
	if got := Count(strings.Repeat("%41", 20000)); got != 20000 {
		t.Error("many", got)
	}
}

func TestP4_1Encode(t *testing.T) {
	for _, x := range []struct {
		s       string
		classes int
		want    string
	}{
		{"a b", octet.Unreserved, "a%20b"}, // the chapter's example
		{"", octet.Unreserved, ""}, {"", 0, ""}, {"aB", 0, "%61%42"},
		{"a/b", octet.Unreserved, "a%2Fb"}, {"a/b", octet.Unreserved | octet.Reserved, "a/b"},
		{"ü", octet.Unreserved, "%C3%BC"}, {"ü", -1, "%C3%BC"}, {"\xff\x00", -1, "%FF%00"},
		{"%41", octet.Unreserved, "%2541"}, {"%", -1, "%25"}, {"afg", octet.Hex, "af%67"}, {"a", 64, "%61"},
	} {
		if got := Encode(x.s, x.classes); got != x.want {
			t.Errorf("Encode(%q, %d) = %q, want %q", x.s, x.classes, got, x.want)
		}
	}
	for _, classes := range classesToTry() {
		for i := range 256 {
			b := byte(i)
			want := escapeOf(b)
			if octet.Is(b, classes) {
				want = string([]byte{b})
			}
			if got := Encode(string([]byte{b}), classes); got != want {
				t.Fatalf("Encode(%#x, %d) = %q", b, classes, got)
			}
		}
	}
}

func TestP4_1Decode(t *testing.T) {
	for _, x := range []struct {
		s, want string
		ok      bool
	}{
		{"", "", true}, {"abc", "abc", true}, {"a%20b", "a b", true}, {"%41", "A", true}, {"%c3%BC", "ü", true},
		{"%2541", "%41", true}, {"%25%34%31", "%41", true}, {"%2525", "%25", true}, {"%00%ff", "\x00\xff", true}, {"\xff+", "\xff+", true},
		{"%", "", false}, {"%4", "", false}, {"%41%", "", false}, {"%%41", "", false}, {"abc%4g", "", false}, {"%g1", "", false}, {"%41%4x%42", "", false}, {"a%41%", "", false},
	} {
		if got, ok := Decode(x.s); got != x.want || ok != x.ok {
			t.Errorf("Decode(%q) = %q, %v", x.s, got, ok)
		}
	}
	for i := range 256 {
		b := byte(i)
		for _, s := range []string{escapeOf(b), octet.Lower(escapeOf(b))} {
			if got, ok := Decode("x" + s + "1"); got != "x"+string([]byte{b})+"1" || !ok {
				t.Errorf("Decode(%q) = %q, %v", "x"+s+"1", got, ok)
			}
		}
	}
}

func TestP4_1Some(t *testing.T) {
	for _, x := range []struct {
		s       string
		classes int
		want    string
	}{
		{"%41%2f", octet.Unreserved, "A%2f"}, // the chapter's example
		{"", octet.Unreserved, ""}, {"%", octet.Unreserved, "%"}, {"%%41%4", octet.Unreserved, "%A%4"}, {"%4%31", octet.Unreserved, "%41"},
		{"%2f%2F", octet.Gen, "//"}, {"%2f%2F", octet.Alpha, "%2f%2F"}, {"%c3%BC", -1, "%c3%BC"}, {"%25%2541", -1, "%25%2541"},
		{"%41", 0, "%41"}, {"%41", 64, "%41"}, {"%61%67", octet.Hex, "a%67"}, {"a b\xff%7E", octet.Mark, "a b\xff~"}, {"%00%fF%20", -1, "%00%fF%20"},
	} {
		if got := Some(x.s, x.classes); got != x.want {
			t.Errorf("Some(%q, %d) = %q, want %q", x.s, x.classes, got, x.want)
		}
	}
	for _, classes := range classesToTry() {
		for i := range 256 {
			b := byte(i)
			for _, s := range []string{escapeOf(b), octet.Lower(escapeOf(b))} {
				want := s
				if octet.Is(b, classes) {
					want = string([]byte{b})
				}
				if got := Some("%"+s+"%4", classes); got != "%"+want+"%4" {
					t.Fatalf("Some(%q, %d) = %q", "%"+s+"%4", classes, got)
				}
			}
		}
	}
}

func TestP4_1Upper(t *testing.T) {
	for s, want := range map[string]string{
		"": "", "%c3x%": "%C3x%", "abc": "abc", "%aa%aB%Bb": "%AA%AB%BB", "%4g": "%4g", "%ga%ab": "%ga%AB",
		"%%ff": "%%FF", "%a%ab": "%a%AB", "%f": "%f", "ü%c3%bc\xff": "ü%C3%BC\xff", "%25aa": "%25aa", "%41ff": "%41ff", "%00": "%00",
	} {
		if got := Upper(s); got != want {
			t.Errorf("Upper(%q) = %q, want %q", s, got, want)
		}
	}
}

func TestP4_1All(t *testing.T) {
	if got := told("a%41%c3%4%5aB%"); !slices.Equal(got, []found{{1, 'A'}, {4, 0xC3}, {9, 'Z'}}) {
		t.Error(got)
	}
	for _, s := range append(shortTexts(6), texts...) {
		want := allFound(s)
		if got := told(s); !slices.Equal(got, want) {
			t.Fatalf("All(%q) = %v, want %v", s, got, want)
		}
		if got := Count(s); got != len(want) {
			t.Fatalf("Count(%q) = %d", s, got)
		}
		if got := Right(s); got != (len(want) == strings.Count(s, "%")) {
			t.Fatalf("Right(%q) = %v", s, got)
		}
	}
}

func TestP4_1AllAsFarAsAsked(t *testing.T) {
	const s = "%41%42%43"
	for stop := 1; stop <= 3; stop++ {
		n := 0
		All(s)(func(at int, b byte) bool {
			if at != 3*n || b != byte('A'+n) {
				t.Errorf("escape %d: %d, %q", n, at, b)
			}
			n++
			return n < stop
		})
		if n != stop {
			t.Errorf("asked for %d, told %d", stop, n)
		}
	}
	seq := All(s)
	for range 2 { // what is ranged over twice begins anew
		n := 0
		for at := range seq {
			n++
			if at == 3 {
				break
			}
		}
		if n != 2 {
			t.Error(n)
		}
	}
	pairs := 0
	for range seq {
		for range seq {
			pairs++
		}
	}
	if pairs != 9 {
		t.Error("one within the other", pairs)
	}
}

func TestP4_1NoCallPanics(t *testing.T) {
	for _, s := range append(texts, allBytes(), strings.Repeat("%", 5000), strings.Repeat("%4", 5000)) {
		for i := -4; i < 8; i++ {
			if b, ok := At(s, i); ok && (i < 0 || s[i] != '%') || !ok && b != 0 {
				t.Errorf("At(%.40q, %d)", s, i)
			}
		}
		for _, classes := range classesToTry() {
			Encode(s, classes)
			Some(s, classes)
		}
		if out, ok := Decode(s); ok != Right(s) || !ok && out != "" {
			t.Errorf("Decode(%.40q) = %.40q, %v", s, out, ok)
		}
		if len(Upper(s)) != len(s) {
			t.Errorf("Upper(%.40q)", s)
		}
	}
}

func TestP4_2DecodeOfEncode(t *testing.T) {
	for _, s := range append(shortTexts(4), append(texts, allBytes(), "Bücher 😀", strings.Repeat("%41 ", 2000))...) {
		for _, classes := range classesToTry() {
			in := Encode(s, classes)
			if !Right(in) {
				t.Fatalf("Encode(%.40q, %d) = %.40q: not right", s, classes, in)
			}
			if got, ok := Decode(in); got != s || !ok {
				t.Fatalf("Decode of Encode(%.40q, %d) = %.40q, %v", s, classes, got, ok)
			}
		}
	}
}

func TestP4_3UpperTwice(t *testing.T) {
	for _, s := range append(shortTexts(5), append(texts, allBytes())...) {
		once := Upper(s)
		if twice := Upper(once); twice != once {
			t.Fatalf("Upper of %q: %q, then %q", s, once, twice)
		}
		if !slices.Equal(told(once), told(s)) {
			t.Fatalf("Upper(%q) = %q: other escapes", s, once)
		}
	}
}

func TestP4_3SomeGoesOnceFromLeftToRight(t *testing.T) {
	if got := Some("%2541", octet.Unreserved); got != "%2541" {
		t.Errorf("the chapter's text: %q", got)
	}
	// What comes out isn't looked at again, though a second call may find more in it.
	once := Some("%4%31", octet.Unreserved)
	if once != "%41" {
		t.Errorf("once: %q", once)
	}
	if twice := Some(once, octet.Unreserved); twice != "A" {
		t.Errorf("twice: %q", twice)
	}
	if got := Some("%%34%31", octet.Digit); got != "%41" {
		t.Errorf("digits that come out: %q", got)
	}
	// In a text that is right, nothing can come together to a new escape.
	for _, s := range append(shortTexts(6), texts...) {
		if !Right(s) {
			continue
		}
		for _, classes := range []int{octet.Unreserved, octet.Hex, -1} {
			once := Some(s, classes)
			if twice := Some(once, classes); twice != once || !Right(once) {
				t.Fatalf("Some(%q, %d) = %q, then %q", s, classes, once, twice)
			}
		}
	}
}

func FuzzEscapes(f *testing.F) {
	f.Add("a%41%c3%", 7)
	f.Add("%2541", -1)
	f.Fuzz(func(t *testing.T, s string, classes int) {
		want := allFound(s)
		if !slices.Equal(told(s), want) || Count(s) != len(want) {
			t.Errorf("All(%q)", s)
		}
		if got, ok := Decode(Encode(s, classes)); got != s || !ok {
			t.Errorf("Decode of Encode(%q, %d) = %q, %v", s, classes, got, ok)
		}
		if once := Upper(s); Upper(once) != once || !slices.Equal(told(once), want) {
			t.Errorf("Upper(%q) = %q", s, once)
		}
		if out, ok := Decode(s); ok != Right(s) || ok && len(out) != len(s)-2*len(want) {
			t.Errorf("Decode(%q) = %q, %v", s, out, ok)
		}
		decoded := 0
		for _, x := range want {
			if octet.Is(x.b, classes) {
				decoded++
			}
		}
		if got := Some(s, classes); len(got) != len(s)-2*decoded {
			t.Errorf("Some(%q, %d) = %q", s, classes, got)
		}
	})
}

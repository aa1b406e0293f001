package octet

import (
	"math"
	"strings"
	"testing"
)

const (
	lowers = "abcdefghijklmnopqrstuvwxyz"
	uppers = "ABCDEFGHIJKLMNOPQRSTUVWXYZ"
)

// classMembers: what the chapter names of each class, written out.
var classMembers = []struct {
	class int
	bytes string
}{
	{1, lowers + uppers},
	{2, "0123456789"},
	{4, "-._~"},
	{8, "!$&'()*+,;="},
	{16, ":/?#[]@"},
	{32, "0123456789ABCDEFabcdef"},
}

// numbers: those at which a call with a number could go wrong.
var numbers = []int{math.MinInt, math.MinInt32, -65, -64, -16, -2, -1, 0, 1, 2, 3, 7, 9, 10, 15, 16, 24, 32, 63, 64, 128, 255, 256, math.MaxInt32, math.MaxInt}

func wantClass(b byte) int {
	sum := 0
	for _, m := range classMembers {
		if strings.IndexByte(m.bytes, b) >= 0 {
			sum += m.class
		}
	}
	return sum
}

func allBytes() string {
	l := make([]byte, 256)
	for i := range l {
		l[i] = byte(i)
	}
	return string(l)
}

func TestConstants(t *testing.T) {
	got := []int{Alpha, Digit, Mark, Sub, Gen, Hex, Unreserved, Reserved}
	want := []int{1, 2, 4, 8, 16, 32, 7, 24}
	for i := range want {
		if got[i] != want[i] {
			t.Errorf("constant %d: %d, want %d", i, got[i], want[i])
		}
	}
}

func TestP1_1Class(t *testing.T) {
	for i := range 256 {
		b := byte(i)
		if got, want := Class(b), wantClass(b); got != want {
			t.Errorf("Class(%#x) = %d, want %d", b, got, want)
		}
	}
	if Class('a') != 33 {
		t.Error("the chapter's example")
	}
	for b := 0x80; b < 0x100; b++ {
		if Class(byte(b)) != 0 {
			t.Errorf("Class(%#x): beyond ASCII nothing is of a class", b)
		}
	}
}

func TestP1_1Is(t *testing.T) {
	for i := range 256 {
		b := byte(i)
		for classes := range 128 {
			want := false
			for _, m := range classMembers {
				want = want || classes&m.class != 0 && strings.IndexByte(m.bytes, b) >= 0
			}
			if got := Is(b, classes); got != want {
				t.Fatalf("Is(%#x, %d) = %v", b, classes, got)
			}
		}
		for _, n := range []int{0, 64, 128, 64 + 512, 1 << 40, math.MinInt, -64} {
			if Is(b, n) {
				t.Fatalf("Is(%#x, %d): the bits name no class", b, n)
			}
		}
		if Is(b, -1) != (wantClass(b) != 0) || Is(b, math.MaxInt) != (wantClass(b) != 0) {
			t.Fatalf("Is(%#x) with all bits", b)
		}
	}
}

func TestP1_1Cases(t *testing.T) {
	for _, x := range []struct{ in, lower, upper string }{
		{"", "", ""},
		{"a", "a", "A"},
		{"Z", "z", "Z"},
		{"@AZ[`az{", "@az[`az{", "@AZ[`AZ{"},
		{"aB-9~\x00\xff", "ab-9~\x00\xff", "AB-9~\x00\xff"},
		{"Ü\u212A\u0130\u017F", "Ü\u212A\u0130\u017F", "Ü\u212A\u0130\u017F"},
		{"\xc1\xe1\xda", "\xc1\xe1\xda", "\xc1\xe1\xda"},
	} {
		if got := Lower(x.in); got != x.lower {
			t.Errorf("Lower(%q) = %q", x.in, got)
		}
		if got := Upper(x.in); got != x.upper {
			t.Errorf("Upper(%q) = %q", x.in, got)
		}
	}
	if Lower(uppers) != lowers || Upper(lowers) != uppers {
		t.Error("the letters")
	}
}

func TestP1_1Same(t *testing.T) {
	for _, x := range []struct {
		a, b string
		want bool
	}{
		{"", "", true}, {"", "a", false}, {"a", "", false},
		{"HTTP", "http", true}, {"hTTp", "HttP", true}, {"http", "https", false}, {"https", "http", false},
		{"@", "`", false}, {"[", "{", false}, {"ü", "Ü", false}, {"k", "\u212A", false}, {"s", "\u017F", false},
		{"\xff", "\xff", true}, {"\xff", "\xfe", false}, {"\xc1", "\xe1", false}, {"\xff", "\uFFFD", false}, {"a\x00", "A\x00", true},
	} {
		if got := Same(x.a, x.b); got != x.want {
			t.Errorf("Same(%q, %q) = %v", x.a, x.b, got)
		}
	}
	for i := range 256 {
		for j := range 256 {
			a, b := string([]byte{byte(i)}), string([]byte{byte(j)})
			at, bt := strings.Index(lowers, a), strings.Index(uppers, b)
			if at < 0 || bt < 0 {
				at, bt = strings.Index(uppers, a), strings.Index(lowers, b)
			}
			if want := i == j || at >= 0 && at == bt; Same(a, b) != want {
				t.Fatalf("Same(%q, %q) = %v", a, b, !want)
			}
		}
	}
}

func TestP1_1ValueAndNibble(t *testing.T) {
	const small, great = "0123456789abcdef", "0123456789ABCDEF"
	for i := range 256 {
		b := byte(i)
		want := max(strings.IndexByte(small, b), strings.IndexByte(great, b))
		got, ok := Value(b)
		if ok != (want >= 0) || got != max(want, 0) {
			t.Errorf("Value(%#x) = %d, %v", b, got, ok)
		}
		if ok != Is(b, Hex) {
			t.Errorf("Value(%#x) and the class Hex", b)
		}
	}
	for v := -300; v < 300; v++ {
		got, ok := Nibble(v)
		if v < 0 || v > 15 {
			if got != 0 || ok {
				t.Errorf("Nibble(%d) = %q, %v", v, got, ok)
			}
			continue
		}
		if got != great[v] || !ok {
			t.Errorf("Nibble(%d) = %q, %v", v, got, ok)
		}
	}
	for _, v := range []int{-1, 16, 256, 1 << 32, math.MinInt, math.MaxInt} {
		if got, ok := Nibble(v); got != 0 || ok {
			t.Errorf("Nibble(%d) = %q, %v", v, got, ok)
		}
	}
}

func TestP1_1Span(t *testing.T) {
	for _, x := range []struct {
		s       string
		classes int
		want    int
	}{
		{"ab-1/", Unreserved, 4}, // the chapter's example
		{"", Unreserved, 0}, {"", -1, 0}, {"abc", Alpha, 3}, {"abc", 0, 0}, {"abc", 64, 0},
		{"/abc", Alpha, 0}, {"fFg", Hex, 2}, {"0a", Digit | Alpha, 2}, {"a%", -1, 1},
		{"!:", Reserved, 2}, {"!:", Sub, 1}, {"aü", -1, 1}, {"a\x00b", Alpha, 1}, {"abc", math.MinInt, 0}, {"a-~!@9 ", math.MaxInt, 6},
	} {
		if got := Span(x.s, x.classes); got != x.want {
			t.Errorf("Span(%q, %d) = %d, want %d", x.s, x.classes, got, x.want)
		}
	}
}

func TestP1_1Find(t *testing.T) {
	for _, x := range []struct {
		s    string
		from int
		set  string
		want int
	}{
		{"a:b/c", 0, ":/", 1}, {"a:b/c", 1, ":/", 1}, {"a:b/c", 2, ":/", 3}, {"a:b/c", 4, ":/", -1},
		{"a:b/c", 0, "/:", 1}, {"aaa", 0, "a", 0}, {"aaa", 2, "a", 2},
		{"abc", -5, "c", 2}, {"abc", math.MinInt, "a", 0}, {"abc", -1, "x", -1},
		{"abc", 3, "abc", -1}, {"abc", 4, "abc", -1}, {"abc", math.MaxInt, "abc", -1},
		{"", 0, "a", -1}, {"", -1, "a", -1}, {"", 1, "a", -1}, {"", 0, "", -1}, {"abc", 0, "", -1},
		{"a\x00b", 0, "\x00", 1}, {"\xff\xfe", 0, "\xfe", 1},
		// Bytes, not runes: a part of a code point counts, and ill-formed bytes aren't all one.
		{"\xc3\xa4", 0, "\xc3\xbc", 0}, {"x\xa4", 0, "\xc3\xa4", 1}, {"\xfe", 0, "\xff", -1}, {"\xff", 0, "\uFFFD", -1}, {"\uFFFD", 0, "\xff", -1},
	} {
		if got := Find(x.s, x.from, x.set); got != x.want {
			t.Errorf("Find(%q, %d, %q) = %d, want %d", x.s, x.from, x.set, got, x.want)
		}
	}
	all := allBytes()
	for i := range all {
		if got := Find(all, 0, all[i:i+1]); got != i {
			t.Errorf("Find of byte %#x: %d", i, got)
		}
	}
}

func TestP1_1NoCallPanics(t *testing.T) {
	texts := []string{"", "a", "\xff", "\xe2\x82", "\x00", allBytes(), strings.Repeat("aZ%", 1000)}
	for _, s := range texts {
		Lower(s)
		Upper(s)
		for _, n := range numbers {
			Nibble(n)
			if got := Span(s, n); got < 0 || got > len(s) {
				t.Errorf("Span(%q, %d) = %d", s, n, got)
			}
			for _, set := range texts {
				got := Find(s, n, set)
				if got < -1 || got >= len(s) || got >= 0 && (got < n || strings.IndexByte(set, s[got]) < 0) {
					t.Errorf("Find(%q, %d, %q) = %d", s, n, set, got)
				}
			}
		}
	}
}

func TestP1_2CasesOfCases(t *testing.T) {
	for _, s := range []string{"", "aZ", allBytes(), lowers + uppers, "Bücher-\u0130\u212A\xff", strings.Repeat("xY", 5000)} {
		if Lower(Upper(s)) != Lower(s) {
			t.Errorf("Lower of Upper of %.40q", s)
		}
		if Upper(Lower(s)) != Upper(s) {
			t.Errorf("Upper of Lower of %.40q", s)
		}
	}
}

func TestP1_2NothingElseChanges(t *testing.T) {
	all := allBytes()
	low, up := Lower(all), Upper(all)
	if len(low) != len(all) || len(up) != len(all) {
		t.Fatal("the length changed")
	}
	for i := range all {
		wantLow, wantUp := byte(i), byte(i)
		if at := strings.IndexByte(uppers, byte(i)); at >= 0 {
			wantLow = lowers[at]
		}
		if at := strings.IndexByte(lowers, byte(i)); at >= 0 {
			wantUp = uppers[at]
		}
		if low[i] != wantLow || up[i] != wantUp {
			t.Errorf("byte %#x: %#x and %#x", i, low[i], up[i])
		}
	}
}

func FuzzCases(f *testing.F) {
	f.Add("aZ\xff", "Az\xff", 1)
	f.Add("", "", -1)
	f.Fuzz(func(t *testing.T, a, b string, n int) {
		if Lower(Upper(a)) != Lower(a) || Upper(Lower(a)) != Upper(a) {
			t.Errorf("cases of %q", a)
		}
		if Same(a, b) != (Lower(a) == Lower(b)) || !Same(a, Upper(a)) {
			t.Errorf("Same of %q and %q", a, b)
		}
		if got := Span(a, n); got < len(a) && Is(a[got], n) {
			t.Errorf("Span(%q, %d) ends too early", a, n)
		}
		if got := Find(a, n, b); got >= 0 && strings.IndexByte(b, a[got]) < 0 {
			t.Errorf("Find(%q, %d, %q) = %d", a, n, b, got)
		}
	})
}

package utf

import (
	"math"
	"slices"
	"strings"
	"testing"
	"unicode/utf8"
)

// rows: the table of bytes, written out once more, each row with its ends.
var rows = []struct {
	first, last         rune
	firstText, lastText string
}{
	{0x00, 0x7F, "\x00", "\x7f"},
	{0x80, 0x7FF, "\xc2\x80", "\xdf\xbf"},
	{0x800, 0xFFF, "\xe0\xa0\x80", "\xe0\xbf\xbf"},
	{0x1000, 0xCFFF, "\xe1\x80\x80", "\xec\xbf\xbf"},
	{0xD000, 0xD7FF, "\xed\x80\x80", "\xed\x9f\xbf"},
	{0xE000, 0xFFFF, "\xee\x80\x80", "\xef\xbf\xbf"},
	{0x10000, 0x3FFFF, "\xf0\x90\x80\x80", "\xf0\xbf\xbf\xbf"},
	{0x40000, 0xFFFFF, "\xf1\x80\x80\x80", "\xf3\xbf\xbf\xbf"},
	{0x100000, 0x10FFFF, "\xf4\x80\x80\x80", "\xf4\x8f\xbf\xbf"},
}

// noScalars: code points that are no scalar values.
var noScalars = []rune{math.MinInt32, -0x110000, -0xD800, -2, -1, 0xD800, 0xD801, 0xDBFF, 0xDC00, 0xDFFE, 0xDFFF, 0x110000, 0x110001, 0x200000, math.MaxInt32}

// edgeBytes: those at which the table's columns begin and end, and their neighbours.
var edgeBytes = []byte{0x00, 0x7F, 0x80, 0x8F, 0x90, 0x9F, 0xA0, 0xBD, 0xBF, 0xC0, 0xC1, 0xC2, 0xDF, 0xE0, 0xE1, 0xEC, 0xED, 0xEE, 0xEF, 0xF0, 0xF1, 0xF3, 0xF4, 0xF5, 0xFF}

// bytesOf makes a scalar value's bytes of its bits, by the chapter's counts.
func bytesOf(r rune) string {
	low := func(shift int) byte { return 0x80 | byte(r>>shift&0x3F) }
	switch {
	case r < 0x80:
		return string([]byte{byte(r)})
	case r < 0x800:
		return string([]byte{0xC0 | byte(r>>6), low(0)})
	case r < 0x10000:
		return string([]byte{0xE0 | byte(r>>12), low(6), low(0)})
	}
	return string([]byte{0xF0 | byte(r>>18), low(12), low(6), low(0)})
}

// oracle holds what begins a scalar value's bytes: for whole ones the value, for others -1.
type oracle map[string]rune

func newOracle() oracle {
	o := oracle{}
	for r := rune(0); r <= 0x10FFFF; r++ {
		if 0xD800 <= r && r <= 0xDFFF {
			continue
		}
		s := bytesOf(r)
		for n := 1; n < len(s); n++ {
			o[s[:n]] = -1
		}
		o[s] = r
	}
	return o
}

func (o oracle) decode(s string) (rune, int, bool) {
	n := 0
	for n < len(s) && n < 4 {
		r, begins := o[s[:n+1]]
		if !begins {
			break
		}
		n++
		if r >= 0 {
			return r, n, true
		}
	}
	if s != "" {
		n = max(n, 1)
	}
	return 0, n, false
}

// check holds every call that takes a text against the oracle.
func (o oracle) check(t *testing.T, s string) {
	t.Helper()
	r, n, ok := Decode(s)
	if wr, wn, wok := o.decode(s); r != wr || n != wn || ok != wok {
		t.Fatalf("Decode(%q) = %x, %d, %v; want %x, %d, %v", s, r, n, ok, wr, wn, wok)
	}
	fault, count, repaired := -1, 0, ""
	var runes []rune
	for at := 0; at < len(s); count++ {
		r, n, ok := o.decode(s[at:])
		if !ok {
			r = 0xFFFD
			if fault < 0 {
				fault = at
			}
		}
		runes = append(runes, r)
		repaired += bytesOf(r)
		at += n
	}
	if got := Fault(s); got != fault {
		t.Fatalf("Fault(%q) = %d, want %d", s, got, fault)
	}
	if got := Valid(s); got != (fault < 0) {
		t.Fatalf("Valid(%q) = %v", s, got)
	}
	if got := Count(s); got != count {
		t.Fatalf("Count(%q) = %d, want %d", s, got, count)
	}
	if got := Repair(s); got != repaired {
		t.Fatalf("Repair(%q) = %q, want %q", s, got, repaired)
	}
	if fault >= 0 {
		runes = nil
	}
	if got, ok := Runes(s); !slices.Equal(got, runes) || ok != (fault < 0) {
		t.Fatalf("Runes(%q) = %x, %v", s, got, ok)
	}
}

func TestP2_1Scalar(t *testing.T) {
	for _, x := range rows {
		if !Scalar(x.first) || !Scalar(x.last) {
			t.Errorf("row %x to %x", x.first, x.last)
		}
	}
	for _, r := range noScalars {
		if Scalar(r) {
			t.Errorf("Scalar(%x)", r)
		}
	}
	for r := rune(-5); r < 0x110005; r++ {
		if want := r >= 0 && r <= 0x10FFFF && (r < 0xD800 || r > 0xDFFF); Scalar(r) != want {
			t.Fatalf("Scalar(%x) = %v", r, !want)
		}
	}
}

func TestP2_1Encode(t *testing.T) {
	if Encode(0xFC) != "\xc3\xbc" {
		t.Error("the chapter's example")
	}
	for _, x := range rows {
		if got := Encode(x.first); got != x.firstText {
			t.Errorf("Encode(%x) = %q", x.first, got)
		}
		if got := Encode(x.last); got != x.lastText {
			t.Errorf("Encode(%x) = %q", x.last, got)
		}
	}
	for _, r := range noScalars {
		if got := Encode(r); got != "" {
			t.Errorf("Encode(%x) = %q", r, got)
		}
	}
	if Encode(0xFFFD) != "\xef\xbf\xbd" {
		t.Error("FFFD is a scalar value as others are")
	}
}

func TestP2_1EncodeAndDecodeEachScalar(t *testing.T) {
	for r := rune(0); r <= 0x10FFFF; r++ {
		if !Scalar(r) {
			continue
		}
		s := bytesOf(r)
		if got := Encode(r); got != s {
			t.Fatalf("Encode(%x) = %q", r, got)
		}
		if got, n, ok := Decode(s + "\xbf"); got != r || n != len(s) || !ok {
			t.Fatalf("Decode(%q..) = %x, %d, %v", s, got, n, ok)
		}
	}
}

func TestP2_1DecodeFaults(t *testing.T) {
	for _, x := range []struct {
		s string
		n int
	}{
		{"", 0},
		{"\xe2\x82", 2}, {"\xc0\x80", 1}, {"\x80", 1}, {"\xbf\xbf", 1}, {"\xc1\xbf", 1}, {"\xc2", 1}, {"\xc2a", 1}, {"\xc2\xc2", 1},
		{"\xe0\x80\x80", 1}, {"\xe0\x9f\xbf", 1}, {"\xe0\xa0", 2}, {"\xe0\xa0a", 2},
		{"\xed\xa0\x80", 1}, {"\xed\xbf\xbf", 1}, {"\xed\x9f", 2}, {"\xef\xbf", 2}, {"\xef\xbf\xef", 2},
		{"\xf0\x8f\xbf\xbf", 1}, {"\xf0\x90", 2}, {"\xf0\x90\x80", 3}, {"\xf0\x90\x80a", 3}, {"\xf0\x90\xc2\x80", 2},
		{"\xf3\xbf\xbf\xc0", 3}, {"\xf4\x90\x80\x80", 1}, {"\xf4\x8f\xbf", 3}, {"\xf5\x80\x80\x80", 1}, {"\xf8\x88\x80\x80\x80", 1}, {"\xfe", 1}, {"\xff", 1},
	} {
		if r, n, ok := Decode(x.s); r != 0 || n != x.n || ok {
			t.Errorf("Decode(%q) = %x, %d, %v; want a fault of %d", x.s, r, n, ok, x.n)
		}
	}
}

func TestP2_1CutOffInEachPlace(t *testing.T) {
	o := newOracle()
	for _, x := range rows {
		for _, s := range []string{x.firstText, x.lastText} {
			for n := 1; n < len(s); n++ {
				for _, behind := range []string{"", "a", "ü", "\xff", "\uFFFD", "\xf0\x90"} {
					if r, size, ok := Decode(s[:n] + behind); r != 0 || size != n || ok {
						t.Errorf("Decode(%q) = %x, %d, %v", s[:n]+behind, r, size, ok)
					}
					o.check(t, s[:n]+behind)
					o.check(t, "xü"+s[:n]+behind+s)
				}
			}
		}
	}
}

func TestP2_1AllShortTexts(t *testing.T) {
	o := newOracle()
	o.check(t, "")
	for a := range 256 {
		o.check(t, string([]byte{byte(a)}))
		for b := range 256 {
			o.check(t, string([]byte{byte(a), byte(b)}))
		}
	}
	for _, a := range edgeBytes {
		for _, b := range edgeBytes {
			for _, c := range edgeBytes {
				o.check(t, string([]byte{a, b, c}))
			}
		}
	}
	for _, a := range []byte{0xC2, 0xE0, 0xED, 0xEF, 0xF0, 0xF3, 0xF4, 0xF5} {
		for _, b := range edgeBytes {
			for _, c := range []byte{'a', 0x7F, 0x80, 0xBF, 0xC0, 0xE1, 0xF0} {
				for _, d := range edgeBytes {
					o.check(t, string([]byte{a, b, c, d}))
				}
			}
		}
	}
}

func TestP2_1Texts(t *testing.T) {
	for _, x := range []struct {
		s            string
		fault, count int
		repaired     string
	}{
		{"", -1, 0, ""},
		{"abc", -1, 3, "abc"},
		{"aü€😀", -1, 4, "aü€😀"},
		{"\uFFFD", -1, 1, "\uFFFD"},
		{"a\uFFFD\xff", 4, 3, "a\uFFFD\uFFFD"},
		{"\xe2\x82", 0, 1, "\uFFFD"},
		{"\xc0\x80", 0, 2, "\uFFFD\uFFFD"},
		{"ab\xff", 2, 3, "ab\uFFFD"},
		{"ü\xe2\x82ü", 2, 3, "ü\uFFFDü"},
		{"\xe2\x82\xe2\x82\xac", 0, 2, "\uFFFD€"},
		{"\xed\xa0\x80", 0, 3, "\uFFFD\uFFFD\uFFFD"},
		{"\xf0\x9f\x98\xf0\x9f\x98\x80", 0, 2, "\uFFFD😀"},
		{"\xf4\x90\x80\x80", 0, 4, "\uFFFD\uFFFD\uFFFD\uFFFD"},
		{"a\xf1\x80\x80\xe1\x80\xc2b\x80c\x80\xbfd", 1, 10, "a\uFFFD\uFFFD\uFFFDb\uFFFDc\uFFFD\uFFFDd"},
	} {
		if got := Fault(x.s); got != x.fault {
			t.Errorf("Fault(%q) = %d", x.s, got)
		}
		if got := Valid(x.s); got != (x.fault < 0) {
			t.Errorf("Valid(%q) = %v", x.s, got)
		}
		if got := Count(x.s); got != x.count {
			t.Errorf("Count(%q) = %d", x.s, got)
		}
		if got := Repair(x.s); got != x.repaired {
			t.Errorf("Repair(%q) = %q", x.s, got)
		}
	}
}

func TestP2_1RunesAndText(t *testing.T) {
	if l, ok := Runes(""); len(l) != 0 || !ok {
		t.Error("Runes of the empty text", l, ok)
	}
	if l, ok := Runes("aü€😀\uFFFD"); !slices.Equal(l, []rune{'a', 0xFC, 0x20AC, 0x1F600, 0xFFFD}) || !ok {
		t.Error("Runes", l, ok)
	}
	if l, ok := Runes("abc\xe2\x82"); len(l) != 0 || ok {
		t.Error("Runes of an ill-formed text", l, ok)
	}
	for _, l := range [][]rune{nil, {}} {
		if s, ok := Text(l); s != "" || !ok {
			t.Error("Text of no runes", s, ok)
		}
	}
	if s, ok := Text([]rune{'a', 0, 0xFC, 0x10FFFF, 0xFFFD}); s != "a\x00ü\U0010FFFF\uFFFD" || !ok {
		t.Errorf("Text: %q %v", s, ok)
	}
	for _, r := range noScalars {
		for _, l := range [][]rune{{r}, {'a', r}, {r, 'a'}, {0xFC, r, 0xFC}} {
			if s, ok := Text(l); s != "" || ok {
				t.Errorf("Text(%x) = %q, %v", l, s, ok)
			}
		}
	}
}

func TestP2_1ArgumentsStay(t *testing.T) {
	room := []rune{'a', 0xFC, 0x20AC, 'x', 'y'}
	l := room[:3]
	s, _ := Text(l)
	if !slices.Equal(room, []rune{'a', 0xFC, 0x20AC, 'x', 'y'}) {
		t.Error("Text changed what it was handed")
	}
	l[0] = 'z'
	if s != "aü€" {
		t.Error("Text's answer hangs on its argument")
	}
	first, _ := Runes("abc")
	second, _ := Runes("abc")
	first[0] = 'z'
	if second[0] != 'a' {
		t.Error("two answers share memory")
	}
}

func TestP2_2ThereAndBack(t *testing.T) {
	for _, s := range []string{"", "a", "Bücher", "aü€😀\uFFFD\x00\U0010FFFF", strings.Repeat("€x", 5000)} {
		l, ok := Runes(s)
		back, ok2 := Text(l)
		if !ok || !ok2 || back != s {
			t.Errorf("Text of Runes of %.40q: %.40q", s, back)
		}
		if len(l) != Count(s) {
			t.Errorf("Count(%.40q) = %d", s, Count(s))
		}
	}
	var l []rune
	for _, x := range rows {
		l = append(l, x.first, x.last)
	}
	for r := rune(0); r <= 0x10FFFF; r += 97 {
		if r < 0xD800 || r > 0xDFFF {
			l = append(l, r)
		}
	}
	s, ok := Text(l)
	back, ok2 := Runes(s)
	if !ok || !ok2 || !slices.Equal(back, l) {
		t.Error("Runes of Text")
	}
}

func TestP2_3Repaired(t *testing.T) {
	check := func(s string) {
		got := Repair(s)
		if !utf8.ValidString(got) || !Valid(got) {
			t.Fatalf("Repair(%q) = %q: ill-formed", s, got)
		}
		if utf8.ValidString(s) && got != s {
			t.Fatalf("Repair(%q) = %q: a well-formed text stays", s, got)
		}
		if Count(got) != Count(s) {
			t.Fatalf("Repair(%q) = %q: %d signs of %d", s, got, Count(got), Count(s))
		}
	}
	check("")
	check("Bücher \uFFFD 😀")
	check(strings.Repeat("\xf0\x9f\x98", 5000))
	for _, a := range edgeBytes {
		for _, b := range edgeBytes {
			for _, c := range edgeBytes {
				check(string([]byte{'x', a, b, c, 'y'}))
				check(string([]byte{a, b, c}))
			}
		}
	}
}

func FuzzTexts(f *testing.F) {
	f.Add("")
	f.Add("aü€😀")
	f.Add("\xe2\x82a\xc0\x80\uFFFD")
	o := newOracle()
	f.Fuzz(func(t *testing.T, s string) {
		o.check(t, s)
		if Valid(s) != utf8.ValidString(s) || !Valid(Repair(s)) {
			t.Errorf("%q", s)
		}
	})
}

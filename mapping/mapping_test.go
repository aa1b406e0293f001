package mapping

import (
	"math"
	"math/rand"
	"slices"
	"strings"
	"testing"

	"moniker/api"
	"moniker/nfc"
	"moniker/pair"
	"moniker/ucd"
)

func mapper() *Mapper { return New(ucd.New(), pair.New()) }

// modelMap does the chapter's four steps, one behind the other.
func modelMap(f *nfc.Former, l []rune) []rune {
	var out []rune
	for _, r := range l {
		out = append(out, pair.Lower(r))
	}
	for i := range out {
		out[i] = pair.Width(out[i])
	}
	out = f.NFC(out)
	for i := range out {
		if out[i] == 0x3002 {
			out[i] = 0x2E
		}
	}
	return out
}

// check holds Map and Mapped against the model, and P15.2 with them.
func check(t *testing.T, m *Mapper, f *nfc.Former, l []rune) {
	t.Helper()
	got, want := m.Map(l), modelMap(f, l)
	if !slices.Equal(got, want) {
		t.Fatalf("Map(%x) = %x, want %x", l, got, want)
	}
	if stays := m.Mapped(l); stays != slices.Equal(l, want) {
		t.Fatalf("Mapped(%x) = %v", l, stays)
	}
	if again := m.Map(got); !slices.Equal(again, got) {
		t.Fatalf("Map(%x) = %x, again %x", l, got, again)
	}
	if !m.Mapped(got) {
		t.Fatalf("Mapped(%x), of %x, is false", got, l)
	}
}

func TestP15_1New(t *testing.T) {
	b, p := ucd.New(), pair.New()
	if New(b, p) == nil {
		t.Error("both are there")
	}
	if New(nil, p) != nil || New(b, nil) != nil || New(nil, nil) != nil {
		t.Error("one of both isn't there")
	}
}

// Behind the chapter's example and its edges, these were told apart from the program, by the standard's data of another language's library.
func TestP15_1Examples(t *testing.T) {
	m := mapper()
	for _, x := range []struct{ l, want []rune }{
		{[]rune{0x41, 0x3002, 0xFF21}, []rune{0x61, 0x2E, 0x61}},
		{nil, nil}, {[]rune{}, nil}, {[]rune{'a', '-', '1', '.'}, []rune{'a', '-', '1', '.'}},
		{[]rune{0x2E, 0x3002, 0xFF0E, 0xFF61}, []rune{0x2E, 0x2E, 0x2E, 0x2E}}, // a full stop, and all that is typed for it
		{[]rune{0x3001, 0x3003, 0x30FB, 0xFF65}, []rune{0x3001, 0x3003, 0x30FB, 0x30FB}},
		{[]rune{0xDF, 0x3C2, 0x3A3, 0x200C, 0x200D, 0xAD}, []rune{0xDF, 0x3C2, 0x3C3, 0x200C, 0x200D, 0xAD}}, // nothing is told of them
		{[]rune{0x130}, []rune{0x69}}, {[]rune{0x49, 0x307}, []rune{0x69, 0x307}}, {[]rune{0x130, 0x301}, []rune{0xED}}, // the case goes ahead of putting together
		{[]rune{0x212A, 0x212B, 0x2126}, []rune{0x6B, 0xE5, 0x3C9}}, {[]rune{0x41, 0x30A}, []rune{0xE5}}, {[]rune{0x37E, 0x387}, []rune{0x3B, 0xB7}},
		{[]rune{0xFF76, 0xFF9E}, []rune{0x30AC}}, {[]rune{0xFF8A, 0xFF9F}, []rune{0x30D1}}, {[]rune{0xFF21, 0x301}, []rune{0xE1}}, // so does the width
		{[]rune{0x958}, []rune{0x915, 0x93C}}, {[]rune{0x344}, []rune{0x308, 0x301}}, {[]rune{0x61, 0x301, 0x323}, []rune{0x1EA1, 0x301}},
		{[]rune{0x1112, 0x1161, 0x11AB}, []rune{0xD55C}}, {[]rune{0x10400, 0x10427, 0x10428}, []rune{0x10428, 0x1044F, 0x10428}},
		{[]rune{-1, math.MinInt32, math.MaxInt32, api.MaxRune + 1, 0xD800, 0xE01}, []rune{-1, math.MinInt32, math.MaxInt32, api.MaxRune + 1, 0xD800, 0xE01}},

		{[]rune{0x1EF4, 0x130, 0x302, 0x10415}, []rune{0x1EF5, 0xEE, 0x1043D}},
		{[]rune{0x61, 0xFF21, 0xFF35, 0xFF8C, 0xFF9F, 0x1041C}, []rune{0x61, 0x61, 0x75, 0x30D7, 0x10444}},
		{[]rune{0x65, 0x5B7, 0x304, 0x2126, 0x30AB}, []rune{0x113, 0x5B7, 0x3C9, 0x30AB}},
		{[]rune{0x4F, 0x302, 0x308, 0xFF9F}, []rune{0xF4, 0x309A, 0x308}},
		{[]rune{0xFF76, 0xFF8A, 0x3099, 0x654}, []rune{0x30AB, 0x30D0, 0x654}},
		{[]rune{0xFF21, 0x301, 0x31C, 0x5B4, 0x308, 0xFF52}, []rune{0xE1, 0x5B4, 0x31C, 0x308, 0x72}},
		{[]rune{0x332, 0xFF9E, 0x65, 0x304}, []rune{0x3099, 0x332, 0x113}},
		{[]rune{0xFF35, 0x45, 0x45, 0x3099, 0x304, 0x3002}, []rune{0x75, 0x65, 0x113, 0x3099, 0x2E}},
		{[]rune{0x4F, 0x308, 0x31B}, []rune{0x1A1, 0x308}},
		{[]rune{0xFF2F, 0x302, 0x45, 0xFF0E, 0x31B}, []rune{0xF4, 0x65, 0x2E, 0x31B}},
		{[]rune{0xFF21, 0x33A, 0x301, 0x650}, []rune{0xE1, 0x650, 0x33A}},
		{[]rune{0x304, 0x30A, 0x6F, 0x64D, 0x312, 0x323}, []rune{0x304, 0x30A, 0x1ECD, 0x64D, 0x312}},
		{[]rune{0x164, 0x41F, 0x304, 0x337}, []rune{0x165, 0x43F, 0x337, 0x304}},
		{[]rune{0x399, 0x5BF, 0xFF9E}, []rune{0x3B9, 0x3099, 0x5BF}},
		{[]rune{0x147, 0x308, 0xFF55, 0x389}, []rune{0x148, 0x308, 0x75, 0x3AE}},
		{[]rune{0xFF61, 0xFF35, 0x670, 0x94D, 0x33E}, []rune{0x2E, 0x75, 0x94D, 0x670, 0x33E}},
		{[]rune{0xFF76, 0x308, 0x325, 0x3099}, []rune{0x30AC, 0x325, 0x308}},
		{[]rune{0x1EEC, 0x301, 0x301}, []rune{0x1EED, 0x301, 0x301}},
	} {
		if got := m.Map(x.l); !slices.Equal(got, x.want) {
			t.Errorf("Map(%x) = %x, want %x", x.l, got, x.want)
		}
		if got := m.Mapped(x.l); got != slices.Equal(x.l, x.want) {
			t.Errorf("Mapped(%x) = %v", x.l, got)
		}
	}
}

func TestP15_1AndP15_2EachAlone(t *testing.T) {
	m, f := mapper(), nfc.New(ucd.New(), pair.New())
	for r := rune(-3); r <= api.MaxRune+3; r++ {
		check(t, m, f, []rune{r})
	}
	for _, r := range []rune{math.MinInt32, math.MinInt32 + 1, math.MaxInt32 - 1, math.MaxInt32} {
		check(t, m, f, []rune{r})
	}
}

// The numbers were told apart from the program, by the standard's data of another language's library, of all code points that are known and not private.
func TestP15_1Counted(t *testing.T) {
	m, b := mapper(), ucd.New()
	known, turned, sum := 0, 0, uint32(0)
	for r := rune(0); r <= api.MaxRune; r++ {
		if k := b.Kind(r); k == ucd.Unassigned || k == ucd.Private {
			continue
		}
		known++
		alone := []rune{r}
		if !m.Mapped(alone) {
			turned++
		}
		for _, x := range m.Map(alone) {
			sum = sum*31 + uint32(x)
		}
		sum *= 31
	}
	if known != 33737 || turned != 469 || sum != 2804597188 {
		t.Error(known, turned, sum)
	}
}

// signs: of each sort of code points some, and numbers that are none.
var signs = []rune{
	'a', 'A', 'O', 'i', 'I', '.', '-', 0x3002, 0xFF61, 0xFF0E, 0x3001,
	0xFF21, 0xFF41, 0xFF2F, 0xFF76, 0xFF8A, 0xFF9E, 0xFF9F, 0xFF65, 0x30AB, 0x30AC, 0x3099,
	0x130, 0x212A, 0x212B, 0x2126, 0xC5, 0xE5, 0x1EA0, 0x1EAD, 0x1D5,
	0x301, 0x302, 0x307, 0x30A, 0x31B, 0x323, 0x308, 0x304, 0x344, 0x345, 0x334,
	0x1100, 0x1161, 0x11A8, 0xAC00, 0x958, 0x93C, 0x37E, 0xDF, 0x10400,
	-1, 0xD800, 0x110000,
}

// few: signs that meet in every order, in lists of several.
var few = []rune{'A', 0xFF21, 0x301, 0x302, 0x323, 0x3002, '.', 0x130, 0x307}

// short tells all lists of at most n of some code points.
func short(of []rune, n int) func(yield func([]rune) bool) {
	return func(yield func([]rune) bool) {
		lists := [][]rune{nil}
		for range n + 1 {
			var longer [][]rune
			for _, l := range lists {
				if !yield(l) {
					return
				}
				for _, r := range of {
					longer = append(longer, append(slices.Clone(l), r))
				}
			}
			lists = longer
		}
	}
}

func TestP15_1AndP15_2AllShort(t *testing.T) {
	m, f := mapper(), nfc.New(ucd.New(), pair.New())
	for l := range short(signs, 3) {
		check(t, m, f, l)
	}
	for l := range short(few, 5) {
		check(t, m, f, l)
	}
}

// turning are all code points that a step turns, or that are made of others, and all marks.
func turning(m *Mapper) []rune {
	b, p := ucd.New(), pair.New()
	out := slices.Clone(signs)
	for r := rune(0); r <= api.MaxRune; r++ {
		_, _, n := p.Down(r)
		if n > 0 || b.Class(r) > 0 || p.Second(r) || !m.Mapped([]rune{r}) {
			out = append(out, r)
		}
	}
	return out
}

func TestP15_2EachWithEachMark(t *testing.T) {
	m, f, b := mapper(), nfc.New(ucd.New(), pair.New()), ucd.New()
	all := turning(m)
	for _, mark := range all {
		if b.Class(mark) == 0 && pair.Width(mark) != 0x3099 && mark != 0x958 && mark != 0x3002 {
			continue
		}
		for _, r := range all {
			check(t, m, f, []rune{r, mark})
		}
	}
}

func TestP15_1AndP15_2Drawn(t *testing.T) {
	m, f := mapper(), nfc.New(ucd.New(), pair.New())
	all := turning(m)
	draw := rand.New(rand.NewSource(15))
	for range 30000 {
		l := make([]rune, draw.Intn(16))
		for i := range l {
			if draw.Intn(2) == 0 {
				l[i] = signs[draw.Intn(len(signs))]
			} else {
				l[i] = all[draw.Intn(len(all))]
			}
		}
		check(t, m, f, l)
	}
}

// modelSplit goes by texts, whose parts are those between full stops too; one sign stands for all that are none.
func modelSplit(l []rune) []int {
	var b strings.Builder
	for _, r := range l {
		if r == 0x2E {
			b.WriteByte('.')
		} else {
			b.WriteByte('x')
		}
	}
	var sizes []int
	for _, part := range strings.Split(b.String(), ".") {
		sizes = append(sizes, len(part))
	}
	return sizes
}

// checkSplit holds Split against the model, and P15.3 with it.
func checkSplit(t *testing.T, l []rune) {
	t.Helper()
	parts, sizes := Split(l), modelSplit(l)
	if len(parts) != len(sizes) {
		t.Fatalf("Split(%x) = %x", l, parts)
	}
	at := 0
	for i, part := range parts {
		if !slices.Equal(part, l[at:at+sizes[i]]) {
			t.Fatalf("Split(%x) = %x", l, parts)
		}
		at += sizes[i] + 1
	}
	if joined := Join(parts); !slices.Equal(joined, l) {
		t.Fatalf("Join(Split(%x)) = %x", l, joined)
	}
}

func TestP15_1Split(t *testing.T) {
	for _, x := range []struct {
		l    []rune
		want [][]rune
	}{
		{nil, [][]rune{nil}}, {[]rune{}, [][]rune{nil}}, {[]rune{'.'}, [][]rune{nil, nil}}, {[]rune{'.', '.'}, [][]rune{nil, nil, nil}},
		{[]rune{'a'}, [][]rune{{'a'}}}, {[]rune{'a', '.', 'b', 'c'}, [][]rune{{'a'}, {'b', 'c'}}}, {[]rune{'a', '.'}, [][]rune{{'a'}, nil}}, {[]rune{'.', 'a'}, [][]rune{nil, {'a'}}},
		{[]rune{'a', 0x3002, 0xFF0E, 0xFF61, 'b'}, [][]rune{{'a', 0x3002, 0xFF0E, 0xFF61, 'b'}}}, // these aren't full stops till they are mapped
		{[]rune{-1, '.', math.MaxInt32, 0x12E, -0x2E}, [][]rune{{-1}, {math.MaxInt32, 0x12E, -0x2E}}},
	} {
		got := Split(x.l)
		if !slices.EqualFunc(got, x.want, slices.Equal[[]rune]) {
			t.Errorf("Split(%x) = %x", x.l, got)
		}
	}
}

func TestP15_1Join(t *testing.T) {
	for _, x := range []struct {
		labels [][]rune
		want   []rune
	}{
		{nil, nil}, {[][]rune{}, nil}, {[][]rune{nil}, nil}, {[][]rune{{}}, nil}, {[][]rune{nil, nil}, []rune{'.'}}, {[][]rune{nil, {}, nil}, []rune{'.', '.'}},
		{[][]rune{{'a'}}, []rune{'a'}}, {[][]rune{{'a'}, {'b', 'c'}}, []rune{'a', '.', 'b', 'c'}}, {[][]rune{{'a'}, nil}, []rune{'a', '.'}}, {[][]rune{nil, {'a'}}, []rune{'.', 'a'}},
		{[][]rune{{'a', '.'}, {'.', 'b'}, {-1}}, []rune{'a', '.', '.', '.', 'b', '.', -1}}, // full stops within a part stay
	} {
		if got := Join(x.labels); !slices.Equal(got, x.want) {
			t.Errorf("Join(%x) = %x", x.labels, got)
		}
	}
}

func TestP15_1AndP15_3AllShort(t *testing.T) {
	for l := range short([]rune{'a', '.', 0x3002, -1}, 7) {
		checkSplit(t, l)
	}
}

func TestP15_1AndP15_3Drawn(t *testing.T) {
	draw := rand.New(rand.NewSource(153))
	for range 2000 {
		l := make([]rune, draw.Intn(200))
		for i := range l {
			l[i] = rune(draw.Uint32())
			if draw.Intn(3) == 0 {
				l[i] = '.'
			}
		}
		checkSplit(t, l)
	}
}

func TestP15_1WhatIsHandedInStays(t *testing.T) {
	m := mapper()
	room := []rune{'A', 0x301, '.', 'o', 0x302, 0x323, 0x3002, 0xFF21, 'b', '.'}
	was := slices.Clone(room)
	for n := range len(room) + 1 {
		m.Map(room[:n])
		m.Mapped(room[:n])
		Split(room[:n])
		Join([][]rune{room[:n], room[n:]})
		Join([][]rune{room[:n:n], room[:n]})
		if !slices.Equal(room, was) {
			t.Fatalf("%x, at %d", room, n)
		}
	}
}

// wipe writes over all of a list, its spare room too.
func wipe(l []rune) {
	l = l[:cap(l)]
	for i := range l {
		l[i] = -7
	}
}

func TestP15_1AnswersAreNew(t *testing.T) {
	m := mapper()
	for _, text := range []string{"", "a", "abc", "a.b", "ab..cd.", "A\u0301.\u3002"} {
		l := []rune(text)
		was := slices.Clone(l)
		wipe(m.Map(l))
		wipe(Join([][]rune{l}))
		parts := Split(l)
		for i, part := range parts {
			others := slices.Clone(parts)
			before := Join(slices.Delete(others, i, i+1))
			wipe(part)
			others = slices.Clone(parts)
			if after := Join(slices.Delete(others, i, i+1)); !slices.Equal(before, after) {
				t.Errorf("parts of %q share memory", text)
			}
		}
		wipe(Join([][]rune{l, nil, l}))
		if !slices.Equal(l, was) {
			t.Errorf("%q became %x", text, l)
		}
	}
}

func TestP15_1Long(t *testing.T) {
	m := mapper()
	const many = 1 << 17
	for _, x := range []struct{ l, want []rune }{
		{[]rune{'A'}, []rune{'a'}}, {[]rune{0x3002}, []rune{'.'}}, {[]rune{0xFF76, 0xFF9E}, []rune{0x30AC}}, {[]rune{'A', 0x301}, []rune{0xE1}}, {[]rune{0x301}, []rune{0x301}}, {[]rune{0xAC00}, []rune{0xAC00}},
	} {
		if got := m.Map(slices.Repeat(x.l, many)); !slices.Equal(got, slices.Repeat(x.want, many)) {
			t.Errorf("%x ..", x.l)
		}
	}
	mixed := m.Map(append([]rune{'A'}, slices.Repeat([]rune{0x301, 0x323}, many)...))
	if len(mixed) != 2*many || mixed[0] != 0x1EA1 || mixed[1] != 0x323 || mixed[2*many-1] != 0x301 {
		t.Errorf("%d, %x ..", len(mixed), mixed[:2])
	}
	for _, l := range [][]rune{slices.Repeat([]rune{'.'}, many), slices.Repeat([]rune{'a'}, many), slices.Repeat([]rune{'a', '.'}, many)} {
		checkSplit(t, l)
	}
}

func FuzzP15(f *testing.F) {
	m, former := mapper(), nfc.New(ucd.New(), pair.New())
	for _, s := range []string{"", "a.b", "A\u3002\uff21", "\uff76\uff9e", "e\u0301.\u212b", "\u0130\u0307"} {
		f.Add(s)
	}
	f.Fuzz(func(t *testing.T, s string) {
		check(t, m, former, []rune(s))
		checkSplit(t, []rune(s))
	})
}

package rule

import (
	"math"
	"math/rand"
	"slices"
	"testing"

	"moniker/ucd"
)

// The model below asks at each place anew, as the chapter's table says.

func modelHas(r rune) bool {
	for _, x := range []rune{0x200C, 0x200D, 0x00B7, 0x0375, 0x05F3, 0x05F4, 0x30FB} {
		if x == r {
			return true
		}
	}
	return r >= 0x0660 && r <= 0x0669 || r >= 0x06F0 && r <= 0x06F9
}

func modelJoins(b *ucd.Book, l []rune, i int) bool {
	a := i - 1
	for a >= 0 && b.Join(l[a]) == ucd.Through {
		a--
	}
	z := i + 1
	for z < len(l) && b.Join(l[z]) == ucd.Through {
		z++
	}
	if a < 0 || z >= len(l) {
		return false
	}
	return b.Join(l[a]) == ucd.Dual && (b.Join(l[z]) == ucd.Dual || b.Join(l[z]) == ucd.Right)
}

func modelMet(b *ucd.Book, l []rune, i int) bool {
	if i < 0 || i >= len(l) {
		return false
	}
	r := l[i]
	hasAhead, hasBehind := i > 0, i < len(l)-1
	switch {
	case r == 0x200C:
		return hasAhead && b.Class(l[i-1]) == 9 || modelJoins(b, l, i)
	case r == 0x200D:
		return hasAhead && b.Class(l[i-1]) == 9
	case r == 0x00B7:
		return hasAhead && hasBehind && l[i-1] == 0x6C && l[i+1] == 0x6C
	case r == 0x0375:
		return hasBehind && b.Script(l[i+1]) == ucd.Greek
	case r == 0x05F3 || r == 0x05F4:
		return hasAhead && b.Script(l[i-1]) == ucd.Hebrew
	case r == 0x30FB:
		for _, x := range l {
			if s := b.Script(x); s == ucd.Hiragana || s == ucd.Katakana || s == ucd.Han {
				return true
			}
		}
		return false
	case r >= 0x0660 && r <= 0x0669:
		for _, x := range l {
			if x >= 0x06F0 && x <= 0x06F9 {
				return false
			}
		}
	case r >= 0x06F0 && r <= 0x06F9:
		for _, x := range l {
			if x >= 0x0660 && x <= 0x0669 {
				return false
			}
		}
	}
	return true
}

// check holds all calls at one label against the model.
func check(t *testing.T, b *ucd.Book, l []rune) {
	t.Helper()
	wantAt, wantOk := 0, false
	for i := -2; i < len(l)+2; i++ {
		want := modelMet(b, l, i)
		if got := Met(b, l, i); got != want {
			t.Fatalf("Met(%x, %d) = %v", l, i, got)
		}
		if !want && !wantOk && i >= 0 && i < len(l) {
			wantAt, wantOk = i, true
		}
	}
	if at, ok := First(b, l); at != wantAt || ok != wantOk {
		t.Fatalf("First(%x) = %d, %v, want %d, %v", l, at, ok, wantAt, wantOk)
	}
}

func TestP13_1Has(t *testing.T) {
	for r := rune(-10); r <= 0x110010; r++ {
		if Has(r) != modelHas(r) {
			t.Errorf("Has(%X) = %v", r, Has(r))
		}
	}
	for _, r := range []rune{math.MinInt32, math.MaxInt32} {
		if Has(r) {
			t.Errorf("Has(%d)", r)
		}
	}
}

func TestP13_1Examples(t *testing.T) {
	b := ucd.New()
	for _, x := range []struct {
		l    []rune
		i    int
		want bool
	}{
		{[]rune{0x6C, 0xB7, 0x6C}, 1, true}, {[]rune{0xB7}, 0, false}, {[]rune{0x0915, 0x094D, 0x200D}, 2, true},

		// 200D: the one ahead alone counts
		{[]rune{0x200D}, 0, false}, {[]rune{0x200D, 0x094D}, 0, false}, {[]rune{0x094D, 0x0301, 0x200D}, 2, false},
		{[]rune{0x0628, 0x200D, 0x0628}, 1, false}, {[]rune{0x094D, 0x200D}, 1, true}, {[]rune{0x093C, 0x200D}, 1, false},

		// 200C: so it does, or what would join
		{[]rune{0x200C}, 0, false}, {[]rune{0x094D, 0x200C}, 1, true}, {[]rune{0x200C, 0x094D}, 0, false}, {[]rune{0x094D, 0x0301, 0x200C}, 2, false},
		{[]rune{0x0628, 0x200C, 0x0628}, 1, true}, {[]rune{0x0628, 0x200C, 0x0627}, 1, true},
		{[]rune{0x0627, 0x200C, 0x0628}, 1, false}, {[]rune{0x0640, 0x200C, 0x0628}, 1, false}, {[]rune{0x0628, 0x200C, 0x0640}, 1, false},
		{[]rune{0x0628, 0x200C}, 1, false}, {[]rune{0x200C, 0x0628}, 0, false}, {[]rune{0x0628, 0x200C, 0x64E}, 1, false}, {[]rune{0x64E, 0x200C, 0x0628}, 1, false},
		{[]rune{0x0628, 0x64E, 0x301, 0x200C, 0x64F, 0x00AD, 0x0627}, 3, true}, {[]rune{0x0628, 'a', 0x200C, 0x0627}, 2, false}, {[]rune{0x0628, 0x200C, 'a', 0x0627}, 1, false},
		{[]rune{0x0628, 0x200C, 0x200C, 0x0627}, 1, false}, {[]rune{0x0628, 0x200C, 0x200C, 0x0627}, 2, false}, // 200C itself doesn't join Through

		// 00B7
		{[]rune{0x6C, 0xB7}, 1, false}, {[]rune{0xB7, 0x6C}, 0, false}, {[]rune{0x6C, 0xB7, 0x4C}, 1, false}, {[]rune{0x4C, 0xB7, 0x6C}, 1, false},
		{[]rune{0x6C, 0xB7, 0xB7, 0x6C}, 1, false}, {[]rune{0x6C, 0xB7, 0x6C, 0xB7, 0x6C}, 3, true},

		// 0375
		{[]rune{0x0375}, 0, false}, {[]rune{0x0375, 0x03B1}, 0, true}, {[]rune{0x03B1, 0x0375}, 1, false}, {[]rune{0x0375, 'a'}, 0, false},
		{[]rune{0x0375, 0x0375, 0x03B1}, 0, true}, {[]rune{0x0375, 0x0301, 0x03B1}, 0, false},

		// 05F3, 05F4
		{[]rune{0x05F3}, 0, false}, {[]rune{0x05D0, 0x05F3}, 1, true}, {[]rune{0x05F3, 0x05D0}, 0, false}, {[]rune{'a', 0x05F4}, 1, false},
		{[]rune{0x05D0, 0x05F4}, 1, true}, {[]rune{0x05D0, 0x05B4, 0x05F4}, 2, true}, {[]rune{0x05D0, 0x05F3, 0x05F4}, 2, true}, {[]rune{0x05D0, 0x0301, 0x05F4}, 2, false},

		// 30FB
		{[]rune{0x30FB}, 0, false}, {[]rune{0x30FB, 'a', 0x3042}, 0, true}, {[]rune{0x30A2, 'a', 0x30FB}, 2, true}, {[]rune{0x4E00, 0x30FB}, 1, true},
		{[]rune{0x30FC, 0x30FB}, 1, false}, {[]rune{0x3007, 0x30FB}, 1, true}, {[]rune{0x30FB, 0x30FB}, 0, false}, {[]rune{0x30FB, 0xAC00}, 0, false},

		// both rows of digits
		{[]rune{0x0660}, 0, true}, {[]rune{0x0669, 0x06F9}, 0, false}, {[]rune{0x0669, 0x06F9}, 1, false}, {[]rune{0x06F0, 'a', 0x0660}, 2, false},
		{[]rune{0x0660, 0x06EF}, 0, true}, {[]rune{0x0660, 0x06FA}, 0, true}, {[]rune{0x06F0, 0x065F}, 0, true}, {[]rune{0x06F0, 0x066A}, 0, true},
		{[]rune{0x0660, 0x0030}, 0, true}, {[]rune{0x06F5, 0x06F6}, 1, true},

		// all others
		{[]rune{'a'}, 0, true}, {[]rune{0xB7, 'a'}, 1, true}, {[]rune{-1}, 0, true}, {[]rune{0x0E01}, 0, true}, {[]rune{math.MaxInt32}, 0, true}, {[]rune{math.MinInt32}, 0, true},

		// no places
		{nil, 0, false}, {[]rune{}, 0, false}, {[]rune{'a'}, -1, false}, {[]rune{'a'}, 1, false}, {[]rune{'a'}, math.MaxInt, false}, {[]rune{'a'}, math.MinInt, false},
	} {
		if got := Met(b, x.l, x.i); got != x.want {
			t.Errorf("Met(%x, %d) = %v", x.l, x.i, got)
		}
	}
}

func TestP13_1First(t *testing.T) {
	b := ucd.New()
	for _, x := range []struct {
		l  []rune
		at int
		ok bool
	}{
		{nil, 0, false}, {[]rune{}, 0, false}, {[]rune{'a', 'b'}, 0, false},
		{[]rune{0xB7}, 0, true}, {[]rune{'l', 0xB7, 'l'}, 0, false}, {[]rune{'l', 0xB7, 'l', 0xB7, 'a', 0xB7}, 3, true},
		{[]rune{'a', 0x0660, 0x06F0}, 1, true}, {[]rune{'a', 0x06F0, 0x0660}, 1, true},
		{[]rune{0x30FB, 0x30FB, 0x3042, 0x200D}, 3, true},
	} {
		if at, ok := First(b, x.l); at != x.at || ok != x.ok {
			t.Errorf("First(%x) = %d, %v", x.l, at, ok)
		}
	}
}

// some are code points of each sort that a rule asks for, and of none.
var some = []rune{
	'a', 'l', 0xB7, 0x200C, 0x200D, 0x0375, 0x03B1, 0x05F3, 0x05D0, 0x30FB, 0x3042, 0x30A2, 0x4E00,
	0x0660, 0x06F9, 0x094D, 0x0301, 0x0628, 0x0627, 0x0640, -1, 0x05F4, 0x0669, 0x06F0, 0x066A, 0x3007,
}

func TestP13_1AllShort(t *testing.T) {
	b := ucd.New()
	check(t, b, nil)
	for _, w := range some {
		check(t, b, []rune{w})
		for _, x := range some {
			check(t, b, []rune{w, x})
			for _, y := range some {
				check(t, b, []rune{w, x, y})
			}
		}
	}
	four := some[:21]
	for n := range len(four) * len(four) * len(four) * len(four) {
		k := len(four)
		check(t, b, []rune{four[n%k], four[n/k%k], four[n/k/k%k], four[n/k/k/k]})
	}
}

func TestP13_1EachBesideEach(t *testing.T) {
	b := ucd.New()
	ruled := []rune{0x200C, 0x200D, 0x00B7, 0x0375, 0x05F3, 0x05F4, 0x30FB, 0x0660, 0x0669, 0x06F0, 0x06F9}
	for r := rune(-2); r <= 0x3200; r++ {
		for _, x := range ruled {
			for _, l := range [][]rune{{r, x}, {x, r}, {0x0628, x, r}, {r, x, 0x0628}, {'l', x, r}, {r, x, 'l'}} {
				at, ok := First(b, l)
				want := slices.IndexFunc([]int{0, 1, 2}[:len(l)], func(i int) bool { return !modelMet(b, l, i) })
				if ok != (want >= 0) || at != max(want, 0) {
					t.Fatalf("First(%x) = %d, %v, want %d", l, at, ok, want)
				}
			}
		}
	}
}

func TestP13_1Drawn(t *testing.T) {
	b := ucd.New()
	draw := rand.New(rand.NewSource(13))
	for range 20000 {
		few := make([]rune, 1+draw.Intn(6))
		for i := range few {
			few[i] = some[draw.Intn(len(some))]
		}
		l := make([]rune, draw.Intn(20))
		for i := range l {
			l[i] = few[draw.Intn(len(few))]
		}
		check(t, b, l)
	}
}

func TestP13_1WhatIsHandedInStays(t *testing.T) {
	b := ucd.New()
	room := []rune{0x0628, 0x64E, 0x200C, 0x0627, 0x30FB, 0x3042, 0x0660}
	was := slices.Clone(room)
	for n := range room {
		First(b, room[:n])
		for i := range n {
			Met(b, room[:n], i)
		}
	}
	if !slices.Equal(room, was) {
		t.Errorf("%x", room)
	}
}

// What lies in the spare room of a list is not of the label.
func TestP13_1SpareRoom(t *testing.T) {
	b := ucd.New()
	for _, x := range [][]rune{{'l', 0xB7, 'l'}, {'a', 0x30FB, 0x3042}, {'a', 0x0375, 0x03B1}, {0x0628, 0x200C, 0x0627}} {
		if Met(b, x[:2], 1) || !Met(b, x, 1) {
			t.Errorf("%x", x)
		}
	}
	if !Met(b, []rune{'a', 0x0660, 0x06F0}[:2], 1) {
		t.Error("digits")
	}
}

func TestP13_1Long(t *testing.T) {
	b := ucd.New()
	fill := func(last rune, l ...rune) []rune {
		out := slices.Repeat(l, 1<<18/len(l))
		return append(out, last)
	}
	for _, x := range []struct {
		l  []rune
		at int
		ok bool
	}{
		{fill(0x3042, 0x30FB), 0, false},
		{fill('a', 0x30FB), 0, true},
		{fill(0x0660, 0x0660), 0, false},
		{fill(0x06F0, 0x06F0), 0, false},
		{fill(0x06F0, 0x0660), 0, true},
		{fill('l', 'l', 0xB7), 0, false},
		{fill('a', 'l', 0xB7), 1<<18 - 1, true},
		{fill(0x0627, 0x0628, 0x64E, 0x200C, 0x64E), 0, false},
		{append(append([]rune{0x0628}, fill(0x200C, 0x64E)...), fill(0x0628, 0x64E)...), 0, false},
		{fill(0x200C, 0x64E), 1 << 18, true},
	} {
		if at, ok := First(b, x.l); at != x.at || ok != x.ok {
			t.Errorf("First(%x ..) = %d, %v", x.l[:4], at, ok)
		}
	}
}

func FuzzP13_1(f *testing.F) {
	b := ucd.New()
	for _, s := range []string{"", "l\u00b7l", "\u0628\u200c\u0627", "\u0915\u094d\u200d", "\u30fb\u3042", "\u0660\u06f0"} {
		f.Add(s)
	}
	f.Fuzz(func(t *testing.T, s string) { check(t, b, []rune(s)) })
}

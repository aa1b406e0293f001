package order

import (
	"math"
	"math/rand"
	"slices"
	"testing"

	"moniker/ucd"
)

// signs: starters of several kinds (numbers that are no code points have the class 0, too), and marks: two of one class, and others below and above it.
var signs = []rune{'a', 0x110000, 0x301, 0x302, 0x323, 0x334, 0x345}

// wide: signs to draw longer lists from.
var wide = []rune{
	'a', 'b', 0x4E00, 0x901, 0x903, 0x941, 0xD800, 0xE01, -1, math.MinInt32, 0x110000, math.MaxInt32,
	0x300, 0x301, 0x314, 0x315, 0x316, 0x31A, 0x31B, 0x323, 0x327, 0x334, 0x344, 0x345,
	0x5B4, 0x5B7, 0x5BC, 0x5BF, 0x5C1, 0x5C2, 0x64B, 0x650, 0x651, 0x655, 0x670, 0x93C, 0x94D, 0x3099, 0x309A,
}

// short tells all lists of at most n signs.
func short(n int) func(yield func([]rune) bool) {
	return func(yield func([]rune) bool) {
		lists := [][]rune{nil}
		for range n + 1 {
			var longer [][]rune
			for _, l := range lists {
				if !yield(l) {
					return
				}
				for _, r := range signs {
					longer = append(longer, append(slices.Clone(l), r))
				}
			}
			lists = longer
		}
	}
}

// drawn tells longer lists, the same ones each time.
func drawn(n int) func(yield func([]rune) bool) {
	return func(yield func([]rune) bool) {
		from := rand.New(rand.NewSource(9))
		for range n {
			l := make([]rune, from.Intn(60))
			for i := range l {
				l[i] = wide[from.Intn(len(wide))]
			}
			if !yield(l) {
				return
			}
		}
	}
}

// lists are all that the tests go through.
func lists(yield func([]rune) bool) {
	for l := range short(5) {
		if !yield(l) {
			return
		}
	}
	for l := range drawn(3000) {
		if !yield(l) {
			return
		}
	}
}

// swapped puts in order by exchanging neighbours till there is nothing to exchange.
func swapped(b *ucd.Book, l []rune) []rune {
	out := slices.Clone(l)
	for again := true; again; {
		again = false
		for i := 1; i < len(out); i++ {
			if c := b.Class(out[i]); c != 0 && b.Class(out[i-1]) > c {
				out[i-1], out[i] = out[i], out[i-1]
				again = true
			}
		}
	}
	return out
}

// cut looks for runs by their definition, from every place to every other.
func cut(b *ucd.Book, l []rune) [][2]int {
	marks := make([]bool, len(l))
	for i, r := range l {
		marks[i] = b.Class(r) != 0
	}
	var out [][2]int
	for i := range l {
		for j := i + 1; j <= len(l); j++ {
			if !slices.Contains(marks[i:j], false) && (i == 0 || !marks[i-1]) && (j == len(l) || !marks[j]) {
				out = append(out, [2]int{i, j})
			}
		}
	}
	return out
}

func lastStarter(b *ucd.Book, l []rune, i int) int {
	out := -1
	if i < 0 || i >= len(l) {
		return out
	}
	for at, r := range l[:i] {
		if b.Class(r) == 0 {
			out = at
		}
	}
	return out
}

func isBlocked(b *ucd.Book, l []rune, i int) bool {
	s := lastStarter(b, l, i)
	if s < 0 {
		return false
	}
	own := b.Class(l[i])
	if own == 0 {
		return i > s+1
	}
	for _, r := range l[s+1 : i] {
		if !(b.Class(r) < own) {
			return true
		}
	}
	return false
}

func TestP9_1Example(t *testing.T) {
	b := ucd.New()
	l := []rune{'a', 0x301, 0x323}
	if got := Sort(b, l); !slices.Equal(got, []rune{'a', 0x323, 0x301}) {
		t.Errorf("%X", got)
	}
	if Sorted(b, l) || !Sorted(b, []rune{'a', 0x323, 0x301}) {
		t.Error("Sorted")
	}
}

func TestP9_1Sort(t *testing.T) {
	b := ucd.New()
	for _, x := range []struct{ l, want []rune }{
		{nil, nil},
		{[]rune{}, nil},
		{[]rune{0x301}, []rune{0x301}},
		{[]rune{0x301, 0x323}, []rune{0x323, 0x301}},                                                           // a run without a starter
		{[]rune{0x302, 0x301, 0x302}, []rune{0x302, 0x301, 0x302}},                                             // of one class
		{[]rune{0x301, 0x323, 0x302, 0x316}, []rune{0x323, 0x316, 0x301, 0x302}},                               // of two classes, each in its order
		{[]rune{0x301, 'a', 0x323}, []rune{0x301, 'a', 0x323}},                                                 // a starter stands between
		{[]rune{0x301, -1, 0x323, 0x110000, 0x334}, []rune{0x301, -1, 0x323, 0x110000, 0x334}},                 // no code points, but starters
		{[]rune{0x301, 0x901, 0x323}, []rune{0x301, 0x901, 0x323}},                                             // a mark of the class 0
		{[]rune{'z', 'a', 0x345, 0x301, 0x323, 0x334, 'b'}, []rune{'z', 'a', 0x334, 0x323, 0x301, 0x345, 'b'}}, // rising
		{[]rune{0x651, 0x64E, 'a', 0x94D, 0x93C}, []rune{0x64E, 0x651, 'a', 0x93C, 0x94D}},
	} {
		if got := Sort(b, x.l); !slices.Equal(got, x.want) {
			t.Errorf("Sort(%X) = %X, want %X", x.l, got, x.want)
		}
	}
	for l := range lists {
		if got, want := Sort(b, l), swapped(b, l); !slices.Equal(got, want) {
			t.Fatalf("Sort(%X) = %X, want %X", l, got, want)
		}
	}
}

func TestP9_1Sorted(t *testing.T) {
	b := ucd.New()
	for _, l := range [][]rune{nil, {}, {0x301}, {0x301, 0x302}, {0x302, 0x301}, {0x323, 0x301}, {0x301, 'a', 0x323}, {0x301, -5, 0x323}, {'b', 'a'}} {
		if !Sorted(b, l) {
			t.Errorf("%X is in order", l)
		}
	}
	for _, l := range [][]rune{{0x301, 0x323}, {'a', 0x323, 0x301, 'b', 0x301, 0x323}, {0x345, 0x301, 'a'}, {'a', 0x323, 0x301, 0x316}} {
		if Sorted(b, l) {
			t.Errorf("%X isn't in order", l)
		}
	}
	for l := range lists {
		if got, want := Sorted(b, l), slices.Equal(l, swapped(b, l)); got != want {
			t.Fatalf("Sorted(%X) = %v", l, got)
		}
	}
}

func TestP9_1Runs(t *testing.T) {
	b := ucd.New()
	for _, x := range []struct {
		l    []rune
		want [][2]int
	}{
		{nil, nil},
		{[]rune{'a', 'b', -1, 0x901}, nil},
		{[]rune{0x301}, [][2]int{{0, 1}}},
		{[]rune{0x301, 0x323, 0x301}, [][2]int{{0, 3}}},
		{[]rune{'a', 0x301}, [][2]int{{1, 2}}},
		{[]rune{0x301, 'a'}, [][2]int{{0, 1}}},
		{[]rune{0x301, 'a', 0x301, 0x302}, [][2]int{{0, 1}, {2, 4}}},
		{[]rune{'a', 'b', 0x301, 0x302, 'c', 'd', 0x323, 'e'}, [][2]int{{2, 4}, {6, 7}}},
	} {
		if got := Runs(b, x.l); !slices.Equal(got, x.want) {
			t.Errorf("Runs(%X) = %v, want %v", x.l, got, x.want)
		}
	}
	for l := range lists {
		if got, want := Runs(b, l), cut(b, l); !slices.Equal(got, want) {
			t.Fatalf("Runs(%X) = %v, want %v", l, got, want)
		}
	}
}

func TestP9_1Starter(t *testing.T) {
	b := ucd.New()
	l := []rune{0x301, 'a', 0x301, 0x323, 'b', 'c', 0x301}
	for i, want := range []int{-1, -1, 1, 1, 1, 4, 5} {
		if got := Starter(b, l, i); got != want {
			t.Errorf("Starter(%d) = %d, want %d", i, got, want)
		}
	}
	for l := range lists {
		for i := -2; i < len(l)+2; i++ {
			if got, want := Starter(b, l, i), lastStarter(b, l, i); got != want {
				t.Fatalf("Starter(%X, %d) = %d, want %d", l, i, got, want)
			}
		}
	}
}

func TestP9_1Blocked(t *testing.T) {
	b := ucd.New()
	for _, x := range []struct {
		l    []rune
		i    int
		want bool
	}{
		{[]rune{'a', 0x301}, 1, false},
		{[]rune{'a', 0x301, 0x302}, 2, true},         // as great a class
		{[]rune{'a', 0x323, 0x302}, 2, false},        // a lesser one
		{[]rune{'a', 0x345, 0x302}, 2, true},         // a greater one
		{[]rune{'a', 0x301, 0x334, 0x302}, 3, true},  // not the neighbour blocks
		{[]rune{'a', 0x334, 0x323, 0x302}, 3, false}, // several, all of them lesser
		{[]rune{'a', 'b'}, 1, false},
		{[]rune{'a', 0x334, 'b'}, 2, true}, // of the class 0: whatever stands between
		{[]rune{'a', 0x301, 'b', 0x302}, 3, false},
		{[]rune{'a', 0x301, -1, 0x302}, 3, false},
		{[]rune{'a', 0x334, 0x110000}, 2, true},
		{[]rune{0x301, 0x302}, 1, false}, // without a starter
		{[]rune{0x301, 'a'}, 1, false},
		{[]rune{'a'}, 0, false},
	} {
		if got := Blocked(b, x.l, x.i); got != x.want {
			t.Errorf("Blocked(%X, %d) = %v", x.l, x.i, got)
		}
	}
	for l := range lists {
		for i := -2; i < len(l)+2; i++ {
			if got, want := Blocked(b, l, i), isBlocked(b, l, i); got != want {
				t.Fatalf("Blocked(%X, %d) = %v", l, i, got)
			}
		}
	}
}

func TestP9_1NoPlaces(t *testing.T) {
	b := ucd.New()
	for _, l := range [][]rune{nil, {}, {'a'}, {'a', 0x301, 0x302}} {
		for _, i := range []int{math.MinInt, math.MinInt32, -1, len(l), len(l) + 1, math.MaxInt32, math.MaxInt} {
			if got := Starter(b, l, i); got != -1 {
				t.Errorf("Starter(%X, %d) = %d", l, i, got)
			}
			if Blocked(b, l, i) {
				t.Errorf("Blocked(%X, %d)", l, i)
			}
		}
	}
}

func TestP9_1WhatIsHandedInStays(t *testing.T) {
	b := ucd.New()
	is := []rune{'a', 0x301, 0x323, 'b', 0x302, 0x334, 0x301, 0x323}
	room := slices.Clone(is)
	l := room[:6]
	one, two := Sort(b, l), Sort(b, l)
	Sorted(b, l)
	first, second := Runs(b, l), Runs(b, l)
	for i := range l {
		Starter(b, l, i)
		Blocked(b, l, i)
	}
	one[0], first[0] = 'z', [2]int{7, 7}
	one = append(one, 'x')
	if !slices.Equal(room, is) || len(one) != 7 {
		t.Errorf("changed: %X", room)
	}
	if !slices.Equal(two, []rune{'a', 0x323, 0x301, 'b', 0x334, 0x302}) || second[0] != [2]int{1, 3} {
		t.Errorf("two answers share memory: %X %v", two, second)
	}
	ordered := []rune{'a', 0x323, 0x301} // nothing is to be done, yet the answer is new
	got := Sort(b, ordered)
	got[0] = 'z'
	if ordered[0] != 'a' {
		t.Error("the answer is the argument")
	}
}

func TestP9_1LongRuns(t *testing.T) {
	b := ucd.New()
	const n = 200000
	l := []rune{'a'}
	for i := range n {
		l = append(l, []rune{0x345, 0x301, 0x323, 0x334, 0x302}[i%5])
	}
	got := Sort(b, l)
	if len(got) != n+1 || got[1] != 0x334 || got[n] != 0x345 || !Sorted(b, got) || Sorted(b, l) {
		t.Error("a long run")
	}
	if runs := Runs(b, l); !slices.Equal(runs, [][2]int{{1, n + 1}}) {
		t.Error(runs)
	}
	if Starter(b, l, n) != 0 || !Blocked(b, l, n) {
		t.Error("far from its starter")
	}
}

func TestP9_2InOrder(t *testing.T) {
	b := ucd.New()
	for l := range lists {
		got := Sort(b, l)
		if !Sorted(b, got) {
			t.Fatalf("Sort(%X) = %X: not in order", l, got)
		}
		for _, run := range cut(b, got) {
			for i := run[0] + 1; i < run[1]; i++ {
				if b.Class(got[i]) < b.Class(got[i-1]) {
					t.Fatalf("Sort(%X) = %X: at %d", l, got, i)
				}
			}
		}
	}
}

func TestP9_2SameCodePoints(t *testing.T) {
	b := ucd.New()
	for l := range lists {
		got := Sort(b, l)
		before, behind := slices.Sorted(slices.Values(l)), slices.Sorted(slices.Values(got))
		if !slices.Equal(before, behind) {
			t.Fatalf("Sort(%X) = %X: others", l, got)
		}
		for i, r := range l {
			if (b.Class(r) == 0 || b.Class(got[i]) == 0) && got[i] != r {
				t.Fatalf("Sort(%X) = %X: a starter's place %d", l, got, i)
			}
		}
	}
}

func TestP9_2Twice(t *testing.T) {
	b := ucd.New()
	for l := range lists {
		once := Sort(b, l)
		if twice := Sort(b, once); !slices.Equal(twice, once) {
			t.Fatalf("Sort(%X) = %X, then %X", l, once, twice)
		}
		if Sorted(b, l) && !slices.Equal(once, l) {
			t.Fatalf("Sort(%X) = %X: it was in order", l, once)
		}
	}
}

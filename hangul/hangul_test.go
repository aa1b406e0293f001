package hangul

import (
	"math"
	"testing"
)

// three: a syllable's parts, as numbers from 0 on.
type three struct{ lead, vowel, tail int }

// counted: all syllables, counted one by one: the tails run first, then the vowels, then the leads.
func counted() []three {
	var out []three
	for i := 0; i <= 0x1112-0x1100; i++ {
		for k := 0; k <= 0x1175-0x1161; k++ {
			for t := 0; t <= 0x11C2-0x11A8+1; t++ {
				out = append(out, three{i, k, t})
			}
		}
	}
	return out
}

func tailOf(t int) rune {
	if t == 0 {
		return 0
	}
	return 0x11A8 + rune(t) - 1
}

// everyRune: all code points, and numbers that are none: below, above, at both ends, and those whose last bits are a syllable's.
func everyRune(yield func(rune) bool) {
	for r := rune(-0x300); r <= 0x110300; r++ {
		if !yield(r) {
			return
		}
	}
	for _, r := range []rune{math.MinInt32, math.MinInt32 + 0xAC00, -0xAC00, -0x5400, math.MaxInt32, 0x100AC00, 0x10000 + 0xAC00} {
		if !yield(r) {
			return
		}
	}
}

func TestP8_1SyllableAndNumber(t *testing.T) {
	for r := range everyRune {
		is := r >= 0xAC00 && r <= 0xD7A3
		asked := -1
		if is {
			asked = int(r) - 0xAC00
		}
		if Syllable(r) != is || Number(r) != asked {
			t.Fatalf("%X: %v %d", r, Syllable(r), Number(r))
		}
	}
}

func TestP8_1At(t *testing.T) {
	for n := -70000; n <= 70000; n++ {
		asked, there := rune(0), n >= 0 && n < 11172
		if there {
			asked = 0xAC00 + rune(n)
		}
		if r, ok := At(n); r != asked || ok != there {
			t.Fatalf("At(%d): %X %v", n, r, ok)
		}
	}
	for _, n := range []int{math.MinInt, math.MinInt + 1, math.MinInt32, math.MaxInt32, math.MaxInt - 1, math.MaxInt, 1 << 32, 1<<32 + 5, -1 << 32, 5 - 1<<32} {
		if r, ok := At(n); r != 0 || ok {
			t.Errorf("At(%d): %X %v", n, r, ok)
		}
	}
}

func TestP8_1SplitOfEveryRune(t *testing.T) {
	all := counted()
	if len(all) != 0xD7A3-0xAC00+1 {
		t.Fatal("syllables:", len(all))
	}
	for r := range everyRune {
		lead, vowel, tail, ok := Split(r)
		if r < 0xAC00 || r > 0xD7A3 {
			if lead != 0 || vowel != 0 || tail != 0 || ok {
				t.Fatalf("Split(%X): %X %X %X %v", r, lead, vowel, tail, ok)
			}
			continue
		}
		is := all[r-0xAC00]
		if lead != 0x1100+rune(is.lead) || vowel != 0x1161+rune(is.vowel) || tail != tailOf(is.tail) || !ok {
			t.Fatalf("Split(%X): %X %X %X %v", r, lead, vowel, tail, ok)
		}
	}
}

func TestP8_1OpenOfEveryRune(t *testing.T) {
	all := counted()
	for r := range everyRune {
		asked := r >= 0xAC00 && r <= 0xD7A3 && all[r-0xAC00].tail == 0
		if Open(r) != asked {
			t.Fatalf("Open(%X): %v", r, Open(r))
		}
	}
}

// joins: what two make, counted.
func joins() map[[2]rune]rune {
	out := map[[2]rune]rune{}
	open := rune(0)
	for n, is := range counted() {
		r := 0xAC00 + rune(n)
		if is.tail == 0 {
			open = r
			out[[2]rune{0x1100 + rune(is.lead), 0x1161 + rune(is.vowel)}] = r
		} else {
			out[[2]rune{open, tailOf(is.tail)}] = r
		}
	}
	return out
}

func TestP8_1Join(t *testing.T) {
	asked := joins()
	if len(asked) != 11172 {
		t.Fatal(len(asked))
	}
	firsts := []rune{0, -1, 'a', math.MinInt32, math.MaxInt32, 0x1001100, 0x100AC00, 0x10FFFF}
	seconds := []rune{0, -1, 'a', math.MinInt32, math.MaxInt32, 0x1001161, 0x10011A8, 0x10FFFF, 0xAC00, 0xAC01, 0xD7A3}
	for r := rune(0x1080); r <= 0x1220; r++ {
		firsts, seconds = append(firsts, r), append(seconds, r)
	}
	for r := rune(0xABF0); r <= 0xD7C0; r++ {
		firsts = append(firsts, r)
	}
	seen := 0
	for _, a := range firsts {
		for _, b := range seconds {
			is, there := asked[[2]rune{a, b}]
			if there {
				seen++
			}
			if r, ok := Join(a, b); r != is || ok != there {
				t.Fatalf("Join(%X, %X): %X %v, asked %X %v", a, b, r, ok, is, there)
			}
		}
	}
	if seen != len(asked) {
		t.Error("joins that were seen:", seen)
	}
}

func TestP8_1JoinOfOthers(t *testing.T) {
	for _, two := range [][2]rune{
		{0x1161, 0x1100}, {0x1100, 0x11A8}, {0x1100, 0x1100}, {0x1161, 0x11A8}, // no lead, or no vowel
		{0x10FF, 0x1161}, {0x1113, 0x1161}, {0x1100, 0x1160}, {0x1100, 0x1176}, // beside them
		{0xAC00, 0x11A7}, {0xAC00, 0x11C3}, {0xAC00, 0x1161}, {0xAC00, 0}, // no tail
		{0xAC01, 0x11A8}, {0xAC1B, 0x11A8}, {0xD7A3, 0x11C2}, // a tail already
		{0xABFF, 0x11A8}, {0xABE4, 0x11A8}, {0xD7A4, 0x11A8}, // no syllable
		{0x11A8, 0xAC00}, {0xAC00, 0xAC00}, {0, 0}, {-1, -1},
		{math.MinInt32, math.MinInt32}, {math.MaxInt32, math.MaxInt32}, {0x1100, math.MinInt32}, {math.MinInt32, 0x1161},
	} {
		if r, ok := Join(two[0], two[1]); r != 0 || ok {
			t.Errorf("Join(%X, %X): %X %v", two[0], two[1], r, ok)
		}
	}
}

func TestP8_1Examples(t *testing.T) {
	if a, b, c, ok := Split(0xAC00); a != 0x1100 || b != 0x1161 || c != 0 || !ok {
		t.Errorf("%X %X %X %v", a, b, c, ok)
	}
	if a, b, c, ok := Split(0xD7A3); a != 0x1112 || b != 0x1175 || c != 0x11C2 || !ok {
		t.Errorf("%X %X %X %v", a, b, c, ok)
	}
	if r, ok := Join(0xAC00, 0x11A8); r != 0xAC01 || !ok {
		t.Errorf("%X %v", r, ok)
	}
	if r, ok := Join(0x1112, 0x1175); r != 0xD788 || !ok {
		t.Errorf("%X %v", r, ok)
	}
}

func TestP8_2SplitIsJoinedAgain(t *testing.T) {
	for n := 0; n < 11172; n++ {
		r, _ := At(n)
		lead, vowel, tail, ok := Split(r)
		joined, both := Join(lead, vowel)
		if !ok || !both || !Open(joined) {
			t.Fatalf("%X: %X %X %v, joined %X %v", r, lead, vowel, ok, joined, both)
		}
		if tail != 0 {
			joined, both = Join(joined, tail)
		}
		if joined != r || !both || Number(r) != n {
			t.Fatalf("%X: joined %X %v", r, joined, both)
		}
	}
}

// parts tells how many a first one has: a lead is one, a syllable has two or three.
func parts(r rune) int {
	_, _, tail, ok := Split(r)
	switch {
	case !ok:
		return 1
	case tail == 0:
		return 2
	}
	return 3
}

func TestP8_2JoinedHasOneMore(t *testing.T) {
	for two := range joins() {
		r, ok := Join(two[0], two[1])
		if !ok || parts(r) != parts(two[0])+1 {
			t.Fatalf("Join(%X, %X): %X %v", two[0], two[1], r, ok)
		}
		lead, vowel, tail, _ := Split(r)
		if parts(r) == 2 && (lead != two[0] || vowel != two[1]) || parts(r) == 3 && tail != two[1] {
			t.Fatalf("Join(%X, %X): %X, which splits into %X %X %X", two[0], two[1], r, lead, vowel, tail)
		}
	}
}

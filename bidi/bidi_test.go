package bidi

import (
	"math"
	"math/rand"
	"slices"
	"testing"

	"moniker/api"
	"moniker/ucd"
)

// The model below asks each condition of the whole label, one behind the other, as the chapter's list says.

func directions(b *ucd.Book, l []rune) []int {
	out := make([]int, len(l))
	for i, r := range l {
		out[i] = b.Bidi(r)
	}
	return out
}

func allOf(d []int, of ...int) bool {
	for _, x := range d {
		if !slices.Contains(of, x) {
			return false
		}
	}
	return true
}

func endsWith(d []int, of ...int) bool {
	for i := len(d) - 1; i >= 0; i-- {
		if d[i] != ucd.NSM {
			return slices.Contains(of, d[i])
		}
	}
	return false
}

func modelBroken(d []int) int {
	if len(d) == 0 || !slices.Contains([]int{ucd.L, ucd.R, ucd.AL}, d[0]) {
		return 1
	}
	fromRight := d[0] == ucd.R || d[0] == ucd.AL
	if fromRight && !allOf(d, ucd.R, ucd.AL, ucd.AN, ucd.EN, ucd.ES, ucd.CS, ucd.ET, ucd.ON, ucd.BN, ucd.NSM) {
		return 2
	}
	if fromRight && !endsWith(d, ucd.R, ucd.AL, ucd.EN, ucd.AN) {
		return 3
	}
	if fromRight && slices.Contains(d, ucd.EN) && slices.Contains(d, ucd.AN) {
		return 4
	}
	if !fromRight && !allOf(d, ucd.L, ucd.EN, ucd.ES, ucd.CS, ucd.ET, ucd.ON, ucd.BN, ucd.NSM) {
		return 5
	}
	if !fromRight && !endsWith(d, ucd.L, ucd.EN) {
		return 6
	}
	return 0
}

func modelRightToLeft(d []int) bool {
	return slices.Contains(d, ucd.R) || slices.Contains(d, ucd.AL) || slices.Contains(d, ucd.AN)
}

// check holds the calls at one label against the model, and P14.2 with them.
func check(t *testing.T, b *ucd.Book, l []rune) {
	t.Helper()
	d := directions(b, l)
	broken, from := Broken(b, l), RightToLeft(b, l)
	if want := modelBroken(d); broken != want {
		t.Fatalf("Broken(%x) = %d, want %d", l, broken, want)
	}
	if from != modelRightToLeft(d) {
		t.Fatalf("RightToLeft(%x) = %v", l, from)
	}
	if broken == 0 && from && d[0] != ucd.R && d[0] != ucd.AL {
		t.Fatalf("%x breaks none and is right-to-left, but begins with %d", l, d[0])
	}
}

// checkAll holds the calls at some labels against the model.
func checkAll(t *testing.T, b *ucd.Book, labels [][]rune) {
	t.Helper()
	both, at, ok := false, 0, false
	for i, l := range labels {
		d := directions(b, l)
		both = both || modelRightToLeft(d)
		if !ok && modelBroken(d) != 0 {
			at, ok = i, true
		}
	}
	if !both {
		at, ok = 0, false
	}
	if got := Bidirectional(b, labels); got != both {
		t.Fatalf("Bidirectional(%x) = %v", labels, got)
	}
	if gotAt, gotOk := First(b, labels); gotAt != at || gotOk != ok {
		t.Fatalf("First(%x) = %d, %v, want %d, %v", labels, gotAt, gotOk, at, ok)
	}
}

// ofEach is a code point of each direction, in the order of their numbers.
var ofEach = []rune{'a', 0x05D0, 0x0627, '1', '-', '#', 0x0660, '.', 0x0301, 0x200C, '!', ' '}

func TestP14_1OfEach(t *testing.T) {
	b := ucd.New()
	for i, d := range directions(b, ofEach) {
		if d != i {
			t.Errorf("%x has the direction %d", ofEach[i], d)
		}
	}
}

func TestP14_1Examples(t *testing.T) {
	b := ucd.New()
	for _, x := range []struct {
		l    []rune
		want int
		from bool
	}{
		{[]rune{0x05D0, 0x31}, 0, true}, {[]rune{0x31, 0x05D0}, 1, true}, {[]rune{0x61, 0x05D0}, 5, true},

		// the first condition: nothing, and what isn't L, R or AL
		{nil, 1, false}, {[]rune{}, 1, false}, {[]rune{'1'}, 1, false}, {[]rune{'-', 'a'}, 1, false}, {[]rune{0x0660}, 1, true}, {[]rune{0x0660, 0x0627}, 1, true},
		{[]rune{0x0301}, 1, false}, {[]rune{0x0301, 'a'}, 1, false}, {[]rune{0x0301, 0x05D0}, 1, true}, {[]rune{' ', 'a'}, 1, false}, {[]rune{0x200C, 'a'}, 1, false},
		{[]rune{'a'}, 0, false}, {[]rune{0x05D0}, 0, true}, {[]rune{0x0627}, 0, true},

		// the second: L and WS alone are not for those from the right
		{[]rune{0x05D0, 'a'}, 2, true}, {[]rune{0x0627, 'a', 0x0627}, 2, true}, {[]rune{0x05D0, ' ', 0x05D0}, 2, true}, {[]rune{0x05D0, ' '}, 2, true},
		{[]rune{0x05D0, '-', '.', '#', '!', 0x200C, 0x0301, 0x0627}, 0, true}, {[]rune{0x05D0, 'a', 0x0660, '1', '-'}, 2, true},

		// the third: marks at the end don't count
		{[]rune{0x05D0, '-'}, 3, true}, {[]rune{0x05D0, '.'}, 3, true}, {[]rune{0x05D0, '#'}, 3, true}, {[]rune{0x05D0, '!'}, 3, true}, {[]rune{0x05D0, 0x200C}, 3, true},
		{[]rune{0x05D0, '-', 0x0301}, 3, true}, {[]rune{0x05D0, '-', 0x0301, 0x0301}, 3, true}, {[]rune{0x05D0, 0x0301, 0x0301}, 0, true}, {[]rune{0x05D0, '1', 0x0301}, 0, true},
		{[]rune{0x0627, 0x0660}, 0, true}, {[]rune{0x0627, 0x0660, 0x0301}, 0, true}, {[]rune{0x0627, 0x0660, '1', '-'}, 3, true},

		// the fourth: digits of both sorts
		{[]rune{0x0627, '1', 0x0660}, 4, true}, {[]rune{0x0627, 0x0660, '1'}, 4, true}, {[]rune{0x0627, 0x0660, 0x06F0}, 4, true}, {[]rune{0x0627, '1', 0x06F0}, 0, true},
		{[]rune{0x05D0, 0x0660, 0x0661}, 0, true}, {[]rune{0x05D0, 0x0660, '-', '1', 0x05D0}, 4, true},

		// the fifth: R, AL, AN and WS are not for those from the left
		{[]rune{'a', 0x0627}, 5, true}, {[]rune{'a', 0x0660}, 5, true}, {[]rune{'a', ' ', 'a'}, 5, false}, {[]rune{'a', 0x05D0, '-'}, 5, true}, {[]rune{'a', 0x200F}, 5, true},
		{[]rune{'a', '1', '-', '.', '#', '!', 0x200C, 0x0301, 'b'}, 0, false},

		// the sixth: marks at the end don't count
		{[]rune{'a', '-'}, 6, false}, {[]rune{'a', '.'}, 6, false}, {[]rune{'a', '#'}, 6, false}, {[]rune{'a', '!'}, 6, false}, {[]rune{'a', 0x200D}, 6, false},
		{[]rune{'a', '-', 0x0301}, 6, false}, {[]rune{'a', 0x0301, 0x0301}, 0, false}, {[]rune{'a', '1'}, 0, false}, {[]rune{'a', '1', 0x0301}, 0, false}, {[]rune{'a', 0x06F0}, 0, false},

		// what isn't known has the direction L
		{[]rune{0x0E01}, 0, false}, {[]rune{-1}, 0, false}, {[]rune{math.MinInt32}, 0, false}, {[]rune{math.MaxInt32}, 0, false}, {[]rune{api.MaxRune + 1}, 0, false},
		{[]rune{0xD800}, 0, false}, {[]rune{0x05D0, -1}, 2, true}, {[]rune{0x05D0, math.MaxInt32}, 2, true}, {[]rune{-1, 0x05D0}, 5, true}, {[]rune{'a', -1}, 0, false}, {[]rune{'a', '-', api.MaxRune + 1}, 0, false},
	} {
		if got := Broken(b, x.l); got != x.want {
			t.Errorf("Broken(%x) = %d, want %d", x.l, got, x.want)
		}
		if got := RightToLeft(b, x.l); got != x.from {
			t.Errorf("RightToLeft(%x) = %v", x.l, got)
		}
	}
}

func TestP14_1Labels(t *testing.T) {
	b := ucd.New()
	for _, x := range []struct {
		labels [][]rune
		both   bool
		at     int
		ok     bool
	}{
		{nil, false, 0, false}, {[][]rune{}, false, 0, false}, {[][]rune{nil}, false, 0, false}, {[][]rune{{}, {'1'}}, false, 0, false},
		{[][]rune{{'1'}, {'a', '-'}, {' '}}, false, 0, false}, // all of them break one, but nothing is from the right
		{[][]rune{{'1'}, {0x05D0}}, true, 0, true}, {[][]rune{{0x05D0}, {'1'}}, true, 1, true}, {[][]rune{{'a'}, {0x05D0}}, true, 0, false},
		{[][]rune{{0x05D0}}, true, 0, false}, {[][]rune{{0x0660}}, true, 0, true}, {[][]rune{{'a'}, {0x0660}}, true, 1, true},
		{[][]rune{{0x05D0}, nil}, true, 1, true}, {[][]rune{nil, {0x05D0}}, true, 0, true}, {[][]rune{{'a'}, {0x05D0}, {'a', '-'}, {'1'}}, true, 2, true},
		{[][]rune{{'a', 0x05D0}, {'a'}}, true, 0, true}, {[][]rune{{'a'}, {'b'}, {'c', 0x0627}}, true, 2, true},
	} {
		if got := Bidirectional(b, x.labels); got != x.both {
			t.Errorf("Bidirectional(%x) = %v", x.labels, got)
		}
		if at, ok := First(b, x.labels); at != x.at || ok != x.ok {
			t.Errorf("First(%x) = %d, %v", x.labels, at, ok)
		}
	}
}

// short tells all lists of at most n of some things.
func short[T any](of []T, n int) func(yield func([]T) bool) {
	return func(yield func([]T) bool) {
		lists := [][]T{nil}
		for range n + 1 {
			var longer [][]T
			for _, l := range lists {
				if !yield(l) {
					return
				}
				for _, x := range of {
					longer = append(longer, append(slices.Clone(l), x))
				}
			}
			lists = longer
		}
	}
}

func TestP14_1AndP14_2AllShort(t *testing.T) {
	b := ucd.New()
	for l := range short(ofEach, 4) {
		check(t, b, l)
	}
	for l := range short([]rune{'a', 0x05D0, '1', '-', 0x0660, 0x0301, ' '}, 6) {
		check(t, b, l)
	}
}

func TestP14_1AllShortLabels(t *testing.T) {
	b := ucd.New()
	some := [][]rune{nil, {'a'}, {'1'}, {0x05D0}, {0x0627, '-'}, {'a', '-'}, {'a', 0x0660}, {0x05D0, '1', 0x0660}, {0x05D0, 'a'}, {0x0301}}
	for labels := range short(some, 4) {
		checkAll(t, b, labels)
	}
}

// The numbers were counted apart from the program, by the table of the code points' chapter.
func TestP14_1Counted(t *testing.T) {
	b := ucd.New()
	for _, x := range []struct {
		ahead, behind []rune
		want          [7]int
	}{
		{nil, nil, [7]int{1113673, 439}},
		{[]rune{0x05D0}, nil, [7]int{227, 0, 1113603, 282}},
		{[]rune{0x0627, 0x0661}, nil, [7]int{194, 0, 1113603, 282, 33}},
		{[]rune{0x05D0, '1'}, nil, [7]int{217, 0, 1113603, 282, 10}},
		{[]rune{0x05D0}, []rune{0x05D0}, [7]int{509, 0, 1113603}},
		{[]rune{'a'}, nil, [7]int{1113726, 0, 0, 0, 0, 104, 282}},
		{[]rune{'a'}, []rune{'a'}, [7]int{1114008, 0, 0, 0, 0, 104}},
		{nil, []rune{'a'}, [7]int{1113591, 439, 82}},
		{nil, []rune{0x05D0}, [7]int{82, 439, 0, 0, 0, 1113591}},
	} {
		var got [7]int
		l := slices.Concat(x.ahead, []rune{0}, x.behind)
		for r := rune(0); r <= api.MaxRune; r++ {
			l[len(x.ahead)] = r
			got[Broken(b, l)]++
		}
		if got != x.want {
			t.Errorf("%x .. %x: %d, want %d", x.ahead, x.behind, got, x.want)
		}
	}
}

func TestP14_1CountedRightToLeft(t *testing.T) {
	b := ucd.New()
	n := 0
	for r := rune(0); r <= api.MaxRune; r++ {
		if RightToLeft(b, []rune{r}) {
			n++
		}
	}
	if n != 92 {
		t.Error(n)
	}
}

func drawn(draw *rand.Rand) []rune {
	few := make([]rune, 1+draw.Intn(5))
	for i := range few {
		few[i] = ofEach[draw.Intn(len(ofEach))]
		if draw.Intn(4) == 0 {
			few[i] = rune(draw.Intn(0x700))
		}
	}
	l := make([]rune, draw.Intn(24))
	for i := range l {
		l[i] = few[draw.Intn(len(few))]
	}
	return l
}

func TestP14_1AndP14_2Drawn(t *testing.T) {
	b := ucd.New()
	draw := rand.New(rand.NewSource(14))
	for range 50000 {
		check(t, b, drawn(draw))
	}
	for range 20000 {
		labels := make([][]rune, draw.Intn(6))
		for i := range labels {
			labels[i] = drawn(draw)
		}
		checkAll(t, b, labels)
	}
}

func TestP14_1WhatIsHandedInStays(t *testing.T) {
	b := ucd.New()
	room := []rune{0x05D0, '-', 0x0301, 'a', '1', 0x0660, ' '}
	labels := [][]rune{room[:2], room[2:4], room, nil, {}}
	was, lists := slices.Clone(room), slices.Clone(labels)
	for n := range room {
		Broken(b, room[:n])
		RightToLeft(b, room[n:])
	}
	for n := range labels {
		Bidirectional(b, labels[:n])
		First(b, labels[:n])
	}
	if !slices.Equal(room, was) {
		t.Errorf("%x", room)
	}
	for i := range labels {
		if !slices.Equal(labels[i], lists[i]) || (labels[i] == nil) != (lists[i] == nil) {
			t.Errorf("%x", labels)
		}
	}
}

// What lies in the spare room of a list is not of the label, nor of the labels.
func TestP14_1SpareRoom(t *testing.T) {
	b := ucd.New()
	l := []rune{'a', 'b', 0x05D0}
	if Broken(b, l[:2]) != 0 || RightToLeft(b, l[:2]) || Broken(b, l) != 5 || !RightToLeft(b, l) {
		t.Error("a label")
	}
	labels := [][]rune{{'1'}, {'a'}, {0x05D0}}
	if _, ok := First(b, labels[:2]); ok || Bidirectional(b, labels[:2]) {
		t.Error("labels")
	}
}

func TestP14_1Long(t *testing.T) {
	b := ucd.New()
	const many = 1 << 18
	for _, x := range []struct {
		first, fill, last rune
		want              int
	}{
		{'a', 'a', 'a', 0}, {'a', 0x0301, 0x0301, 0}, {'a', '-', 0x0301, 6}, {'a', 'a', 0x05D0, 5},
		{0x05D0, 0x0301, 0x0301, 0}, {0x05D0, 0x0301, '-', 3}, {0x0627, '1', 0x0660, 4}, {0x05D0, 0x05D0, 'a', 2}, {'1', 0x05D0, 0x05D0, 1},
	} {
		l := append(append([]rune{x.first}, slices.Repeat([]rune{x.fill}, many)...), x.last)
		if got := Broken(b, l); got != x.want {
			t.Errorf("%x, %x .., %x: %d", x.first, x.fill, x.last, got)
		}
	}
	labels := append(slices.Repeat([][]rune{{'a'}}, many), []rune{0x05D0}, []rune{'1'})
	if at, ok := First(b, labels); at != many+1 || !ok {
		t.Error(at, ok)
	}
}

func FuzzP14_1(f *testing.F) {
	b := ucd.New()
	for _, s := range []string{"", "a", "\u05d01", "1\u05d0", "a\u05d0", "\u0627\u06601", "a-\u0301", "a.\u05d0.1"} {
		f.Add(s)
	}
	f.Fuzz(func(t *testing.T, s string) {
		l := []rune(s)
		check(t, b, l)
		half := len(l) / 2
		checkAll(t, b, [][]rune{l[:half], l[half:], l})
	})
}

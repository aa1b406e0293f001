package derive

import (
	"math"
	"math/rand"
	"slices"
	"testing"

	"moniker/api"
	"moniker/nfc"
	"moniker/pair"
	"moniker/ucd"
)

func judge() *Judge { return New(ucd.New(), pair.New()) }

// span is code points from the first to the last, and what they are.
type span struct {
	first, last rune
	is          int
}

// exceptions are the chapter's first line, one by one.
var exceptions = []span{
	{0x00DF, 0x00DF, Valid}, {0x03C2, 0x03C2, Valid}, {0x06FD, 0x06FD, Valid}, {0x06FE, 0x06FE, Valid}, {0x3007, 0x3007, Valid},
	{0x00B7, 0x00B7, ContextO}, {0x0375, 0x0375, ContextO}, {0x05F3, 0x05F3, ContextO}, {0x05F4, 0x05F4, ContextO}, {0x30FB, 0x30FB, ContextO},
	{0x0660, 0x0669, ContextO}, {0x06F0, 0x06F9, ContextO},
	{0x0640, 0x0640, Disallowed}, {0x3031, 0x3035, Disallowed}, {0x303B, 0x303B, Disallowed},
}

func modelException(r rune) int {
	for _, s := range exceptions {
		if s.first <= r && r <= s.last {
			return s.is
		}
	}
	return 0
}

func modelUnstable(b *ucd.Book, f *nfc.Former, r rune) bool {
	named := []rune{0xAA, 0xB5, 0xBA, 0x133, 0x140, 0x149, 0x17F, 0x345}
	return slices.Contains(named, r) || b.Kind(r) == ucd.Upper || !f.Stable(r) || pair.Width(r) != r
}

// modelOf goes through the chapter's lines.
func modelOf(b *ucd.Book, f *nfc.Former, r rune) int {
	kind := b.Kind(r)
	if is := modelException(r); is != 0 {
		return is
	}
	if kind == ucd.Unassigned {
		return Unassigned
	}
	if r == 0x2D || r >= 0x30 && r <= 0x39 || r >= 0x61 && r <= 0x7A {
		return Valid
	}
	if r == 0x200C || r == 0x200D {
		return ContextJ
	}
	if modelUnstable(b, f, r) {
		return Disallowed
	}
	if r >= 0x1100 && r <= 0x11FF {
		return Disallowed
	}
	if slices.Contains([]int{ucd.Lower, ucd.Letter, ucd.Modifier, ucd.Mark, ucd.Spacing, ucd.Digit}, kind) {
		return Valid
	}
	return Disallowed
}

// noCodePoints are numbers that are no code points, at the edges and beyond.
var noCodePoints = []rune{-1, -2, -0x61, math.MinInt32, math.MinInt32 + 0x61, api.MaxRune + 1, api.MaxRune + 0x62, math.MaxInt32}

func TestP12_1Numbers(t *testing.T) {
	got := []int{Valid, ContextJ, ContextO, Disallowed, Unassigned}
	if !slices.Equal(got, []int{1, 2, 3, 4, 5}) {
		t.Error(got)
	}
}

func TestP12_1New(t *testing.T) {
	b, p := ucd.New(), pair.New()
	if New(nil, nil) != nil || New(b, nil) != nil || New(nil, p) != nil {
		t.Error("a judge of nothing")
	}
	if New(b, p) == nil {
		t.Error("no judge")
	}
}

func TestP12_1Examples(t *testing.T) {
	j := judge()
	for _, x := range []struct {
		r    rune
		want int
	}{
		{0x61, Valid}, {0x41, Disallowed}, {0xE9, Valid}, {0xB7, ContextO}, {0x200D, ContextJ}, {0x0E01, Unassigned},
		{0x2D, Valid}, {0x2C, Disallowed}, {0x2E, Disallowed}, // the hyphen is a Sign
		{0x30, Valid}, {0x39, Valid}, {0x2F, Disallowed}, {0x3A, Disallowed},
		{0x7A, Valid}, {0x60, Disallowed}, {0x7B, Disallowed}, {0x5A, Disallowed}, {0x5F, Disallowed},
		{0x200B, Disallowed}, {0x200C, ContextJ}, {0x200E, Disallowed},
		{0xDF, Valid}, {0x03C2, Valid}, {0x06FD, Valid}, {0x06FE, Valid}, {0x3007, Valid}, // all but two are Signs
		{0x0640, Disallowed}, {0x3031, Disallowed}, {0x3035, Disallowed}, {0x303B, Disallowed}, {0x3005, Valid}, // Modifiers
		{0x065F, Unassigned}, {0x0660, ContextO}, {0x0669, ContextO}, {0x066A, Unassigned},
		{0x06EF, Unassigned}, {0x06F0, ContextO}, {0x06F9, ContextO}, {0x06FA, Unassigned},
		{0xAA, Disallowed}, {0xB5, Disallowed}, {0xBA, Disallowed}, {0x0133, Disallowed}, {0x0140, Disallowed},
		{0x0149, Disallowed}, {0x017F, Disallowed}, {0x0345, Disallowed}, {0x0344, Disallowed}, {0x0342, Valid},
		{0x0340, Disallowed}, {0x0341, Disallowed}, {0x0343, Disallowed}, {0x0387, Disallowed}, {0x212B, Disallowed},
		{0x0957, Unassigned}, {0x0958, Disallowed}, {0x095F, Disallowed}, {0x0960, Valid}, {0x0929, Valid},
		{0xFF10, Disallowed}, {0xFF41, Disallowed}, {0xFF65, Disallowed}, {0xFF66, Disallowed}, {0xFF9F, Disallowed}, {0xFFA0, Unassigned},
		{0x10FF, Unassigned}, {0x1100, Disallowed}, {0x1112, Disallowed}, {0x1113, Unassigned}, {0x1161, Disallowed}, {0x11A8, Disallowed}, {0x11FF, Unassigned}, {0x1200, Unassigned},
		{0x0138, Valid}, {0x4E00, Valid}, {0x30FC, Valid}, {0x0301, Valid}, {0x0903, Valid}, {0x0966, Valid}, // one of each kind that may stand
		{0x20, Disallowed}, {0xAD, Disallowed}, {0x00, Disallowed}, {0xE000, Disallowed}, {0xF8FF, Disallowed}, {0x10FFFD, Disallowed}, // one of each kind that may not
		{0x10400, Disallowed}, {0x10428, Valid}, {0x1F600, Disallowed},
		{0xD800, Unassigned}, {0xDFFF, Unassigned}, {0xFFFE, Unassigned}, {0x10FFFE, Unassigned}, {0x10FFFF, Unassigned},
	} {
		if got := j.Of(x.r); got != x.want {
			t.Errorf("Of(%04X) = %d, want %d", x.r, got, x.want)
		}
	}
}

func TestP12_1All(t *testing.T) {
	b, p := ucd.New(), pair.New()
	j, f := New(b, p), nfc.New(b, p)
	for r := rune(-300); r <= api.MaxRune+300; r++ {
		if got, want := j.Of(r), modelOf(b, f, r); got != want {
			t.Fatalf("Of(%X) = %d, want %d", r, got, want)
		}
		if got, want := j.Unstable(r), modelUnstable(b, f, r); got != want {
			t.Fatalf("Unstable(%X) = %v", r, got)
		}
		if got, want := Exception(r), modelException(r); got != want {
			t.Fatalf("Exception(%X) = %d, want %d", r, got, want)
		}
	}
}

// The numbers here were told by the chapters' tables alone, without the program.
func TestP12_1Pinned(t *testing.T) {
	j := judge()
	var count [6]int
	mark := uint64(14695981039346656037)
	for r := rune(0); r <= api.MaxRune; r++ {
		is := j.Of(r)
		count[is]++
		mark = (mark ^ uint64(is)) * 1099511628211
	}
	if count != [6]int{0, 32905, 2, 25, 138273, 942907} {
		t.Error(count)
	}
	if mark != 0x3e68a23fcdd9bef0 {
		t.Errorf("%x", mark)
	}
}

func TestP12_1NoCodePoints(t *testing.T) {
	j := judge()
	for _, r := range noCodePoints {
		if j.Of(r) != Unassigned || j.Unstable(r) || Exception(r) != 0 {
			t.Errorf("%d: %d, %v, %d", r, j.Of(r), j.Unstable(r), Exception(r))
		}
		if at, ok := j.First([]rune{'a', r}); at != 1 || !ok {
			t.Errorf("First with %d: %d, %v", r, at, ok)
		}
	}
}

// Line 5 names code points whatever the lines ahead of it say of them.
func TestP12_1Unstable(t *testing.T) {
	j := judge()
	for _, r := range []rune{0x41, 0xAA, 0xB5, 0xBA, 0x0130, 0x0133, 0x0140, 0x0149, 0x017F, 0x0340, 0x0344, 0x0345, 0x037E, 0x0387, 0x0958, 0x2000, 0x2126, 0xFF01, 0xFF5E, 0xFF61, 0xFF9F, 0x10400} {
		if !j.Unstable(r) {
			t.Errorf("%04X is stable", r)
		}
	}
	for _, r := range []rune{0, 0x2D, 0x30, 0x61, 0xB7, 0xDF, 0xE9, 0x0132 + 3, 0x0141 + 1, 0x0301, 0x0346, 0x03C2, 0x0640, 0x0E01, 0x1100, 0x200C, 0x2002, 0x3007, 0xAC00, 0xFF5F, 0xFFFD, 0x10428} {
		if j.Unstable(r) {
			t.Errorf("%04X is unstable", r)
		}
	}
}

func TestP12_1First(t *testing.T) {
	j := judge()
	for _, x := range []struct {
		l  []rune
		at int
		ok bool
	}{
		{nil, 0, false},
		{[]rune{}, 0, false},
		{[]rune{'a'}, 0, false},
		{[]rune{'A'}, 0, true},
		{[]rune{'a', '_'}, 1, true},
		{[]rune{0x0E01, '_'}, 0, true},
		{[]rune{'a', 0x0E01, '_'}, 1, true},
		{[]rune{0xB7, 0x200C, 0x200D, 0x30FB, 0x0660, 0x06F0}, 0, false}, // what may stand in some labels alone
		{[]rune{0xB7, 0x200C, 0x200D, 0x30FB, 0x0660, 0x0640}, 5, true},
		{[]rune{'-', '-'}, 0, false},
	} {
		if at, ok := j.First(x.l); at != x.at || ok != x.ok {
			t.Errorf("First(%x) = %d, %v", x.l, at, ok)
		}
	}
}

func TestP12_1FirstDrawn(t *testing.T) {
	b, p := ucd.New(), pair.New()
	j, f := New(b, p), nfc.New(b, p)
	draw := rand.New(rand.NewSource(12))
	some := []rune{'a', 'z', '-', '0', 0xDF, 0xE9, 0xB7, 0x200C, 0x200D, 0x3007, 0x4E00, 0x10428, 'A', '_', 0x0E01, 0xFF21, 0x1100, 0xD800, -1, math.MaxInt32}
	for range 20000 {
		l := make([]rune, draw.Intn(9))
		for i := range l {
			l[i] = some[draw.Intn(1+draw.Intn(len(some)))]
		}
		want := slices.IndexFunc(l, func(r rune) bool { return modelOf(b, f, r) >= Disallowed })
		at, ok := j.First(l)
		if ok != (want >= 0) || at != max(want, 0) {
			t.Fatalf("First(%x) = %d, %v, want %d", l, at, ok, want)
		}
	}
}

func TestP12_1WhatIsHandedInStays(t *testing.T) {
	j := judge()
	room := []rune{'a', 0x0344, 0x0301, '_', 'b', 'c'}
	was := slices.Clone(room)
	j.First(room[:3])
	j.First(room[:4])
	if !slices.Equal(room, was) {
		t.Errorf("%x", room)
	}
}

// A judge keeps nothing of what it was asked.
func TestP12_1AskedAgain(t *testing.T) {
	j := judge()
	for range 3 {
		for _, r := range []rune{'a', 'A', 0xB7, 0x200C, 0x0E01, -1} {
			if j.Of(r) != judge().Of(r) {
				t.Errorf("%X", r)
			}
		}
	}
}

func TestP12_1Long(t *testing.T) {
	j := judge()
	l := make([]rune, 1<<19)
	for i := range l {
		l[i] = 0x4E00 + rune(i%0x5000)
	}
	if at, ok := j.First(l); at != 0 || ok {
		t.Error(at, ok)
	}
	l = append(l, '_')
	if at, ok := j.First(l); at != len(l)-1 || !ok {
		t.Error(at, ok)
	}
}

func TestP12_2ValidIsLowerAndItsOwnForm(t *testing.T) {
	b, p := ucd.New(), pair.New()
	j, f := New(b, p), nfc.New(b, p)
	for r := rune(0); r <= api.MaxRune; r++ {
		if j.Of(r) != Valid || r == 0x00DF || r == 0x03C2 {
			continue
		}
		if b.Kind(r) == ucd.Upper || pair.Lower(r) != r {
			t.Errorf("%04X is not in lower case", r)
		}
		if !slices.Equal(f.NFC([]rune{r}), []rune{r}) {
			t.Errorf("%04X is not its own NFC", r)
		}
	}
}

func FuzzP12_1Of(f *testing.F) {
	b, p := ucd.New(), pair.New()
	j, former := New(b, p), nfc.New(b, p)
	for _, r := range []int32{0, 'a', 0xB7, 0x200C, 0x0E01, -1, math.MaxInt32} {
		f.Add(r)
	}
	f.Fuzz(func(t *testing.T, r int32) {
		if got, want := j.Of(r), modelOf(b, former, r); got != want {
			t.Errorf("Of(%X) = %d, want %d", r, got, want)
		}
	})
}

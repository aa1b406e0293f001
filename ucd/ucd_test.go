package ucd

import (
	"math"
	"strconv"
	"strings"
	"testing"
)

// chapter: the table, as the chapter has it.
const chapter = `
| 0000 to 001F | Control | BN |  |  |  |
| 0020 | Sign | WS |  |  |  |
| 0021 to 0022 | Sign | ON |  |  |  |
| 0023 to 0025 | Sign | ET |  |  |  |
| 0026 to 002A | Sign | ON |  |  |  |
| 002B | Sign | ES |  |  |  |
| 002C | Sign | CS |  |  |  |
| 002D | Sign | ES |  |  |  |
| 002E to 002F | Sign | CS |  |  |  |
| 0030 to 0039 | Digit | EN |  |  |  |
| 003A | Sign | CS |  |  |  |
| 003B to 0040 | Sign | ON |  |  |  |
| 0041 to 005A | Upper | L | Latin |  |  |
| 005B to 0060 | Sign | ON |  |  |  |
| 0061 to 007A | Lower | L | Latin |  |  |
| 007B to 007E | Sign | ON |  |  |  |
| 007F to 009F | Control | BN |  |  |  |
| 00A0 | Sign | CS |  |  |  |
| 00A1 | Sign | ON |  |  |  |
| 00A2 to 00A5 | Sign | ET |  |  |  |
| 00A6 to 00A9 | Sign | ON |  |  |  |
| 00AA | Letter | L | Latin |  |  |
| 00AB to 00AC | Sign | ON |  |  |  |
| 00AD | Format | BN |  |  | T |
| 00AE to 00AF | Sign | ON |  |  |  |
| 00B0 to 00B1 | Sign | ET |  |  |  |
| 00B2 to 00B3 | Sign | EN |  |  |  |
| 00B4 | Sign | ON |  |  |  |
| 00B5 | Lower | L |  |  |  |
| 00B6 to 00B8 | Sign | ON |  |  |  |
| 00B9 | Sign | EN |  |  |  |
| 00BA | Letter | L | Latin |  |  |
| 00BB to 00BF | Sign | ON |  |  |  |
| 00C0 to 00D6 | Upper | L | Latin |  |  |
| 00D7 | Sign | ON |  |  |  |
| 00D8 to 00DE | Upper | L | Latin |  |  |
| 00DF to 00F6 | Lower | L | Latin |  |  |
| 00F7 | Sign | ON |  |  |  |
| 00F8 to 00FF | Lower | L | Latin |  |  |
| 0100 to 0137 | Even | L | Latin |  |  |
| 0138 | Lower | L | Latin |  |  |
| 0139 to 0148 | Odd | L | Latin |  |  |
| 0149 | Lower | L | Latin |  |  |
| 014A to 0177 | Even | L | Latin |  |  |
| 0178 | Upper | L | Latin |  |  |
| 0179 to 017E | Odd | L | Latin |  |  |
| 017F | Lower | L | Latin |  |  |
| 01A0 to 01A1 | Even | L | Latin |  |  |
| 01AF to 01B0 | Odd | L | Latin |  |  |
| 01CD to 01DC | Odd | L | Latin |  |  |
| 0300 to 0314 | Mark | NSM |  | 230 | T |
| 0315 | Mark | NSM |  | 232 | T |
| 0316 to 0319 | Mark | NSM |  | 220 | T |
| 031A | Mark | NSM |  | 232 | T |
| 031B | Mark | NSM |  | 216 | T |
| 031C to 0320 | Mark | NSM |  | 220 | T |
| 0321 to 0322 | Mark | NSM |  | 202 | T |
| 0323 to 0326 | Mark | NSM |  | 220 | T |
| 0327 to 0328 | Mark | NSM |  | 202 | T |
| 0329 to 0333 | Mark | NSM |  | 220 | T |
| 0334 to 0338 | Mark | NSM |  | 1 | T |
| 0339 to 033C | Mark | NSM |  | 220 | T |
| 033D to 0344 | Mark | NSM |  | 230 | T |
| 0345 | Mark | NSM |  | 240 | T |
| 0375 | Sign | ON | Greek |  |  |
| 037E | Sign | ON |  |  |  |
| 0386 | Upper | L | Greek |  |  |
| 0387 | Sign | ON |  |  |  |
| 0388 to 038A | Upper | L | Greek |  |  |
| 038C | Upper | L | Greek |  |  |
| 038E to 038F | Upper | L | Greek |  |  |
| 0390 | Lower | L | Greek |  |  |
| 0391 to 03A1 | Upper | L | Greek |  |  |
| 03A3 to 03AB | Upper | L | Greek |  |  |
| 03AC to 03CE | Lower | L | Greek |  |  |
| 0400 to 042F | Upper | L | Cyrillic |  |  |
| 0430 to 045F | Lower | L | Cyrillic |  |  |
| 05B4 | Mark | NSM | Hebrew | 14 | T |
| 05B7 | Mark | NSM | Hebrew | 17 | T |
| 05BC | Mark | NSM | Hebrew | 21 | T |
| 05BF | Mark | NSM | Hebrew | 23 | T |
| 05C1 | Mark | NSM | Hebrew | 24 | T |
| 05C2 | Mark | NSM | Hebrew | 25 | T |
| 05D0 to 05EA | Letter | R | Hebrew |  |  |
| 05F3 to 05F4 | Sign | R | Hebrew |  |  |
| 0621 | Letter | AL | Arabic |  |  |
| 0622 to 0625 | Letter | AL | Arabic |  | R |
| 0626 | Letter | AL | Arabic |  | D |
| 0627 | Letter | AL | Arabic |  | R |
| 0628 | Letter | AL | Arabic |  | D |
| 0629 | Letter | AL | Arabic |  | R |
| 062A to 062E | Letter | AL | Arabic |  | D |
| 062F to 0632 | Letter | AL | Arabic |  | R |
| 0633 to 063A | Letter | AL | Arabic |  | D |
| 0640 | Modifier | AL |  |  | C |
| 0641 to 0647 | Letter | AL | Arabic |  | D |
| 0648 | Letter | AL | Arabic |  | R |
| 0649 to 064A | Letter | AL | Arabic |  | D |
| 064B | Mark | NSM |  | 27 | T |
| 064C | Mark | NSM |  | 28 | T |
| 064D | Mark | NSM |  | 29 | T |
| 064E | Mark | NSM |  | 30 | T |
| 064F | Mark | NSM |  | 31 | T |
| 0650 | Mark | NSM |  | 32 | T |
| 0651 | Mark | NSM |  | 33 | T |
| 0652 | Mark | NSM |  | 34 | T |
| 0653 to 0654 | Mark | NSM |  | 230 | T |
| 0655 | Mark | NSM |  | 220 | T |
| 0660 to 0669 | Digit | AN | Arabic |  |  |
| 0670 | Mark | NSM |  | 35 | T |
| 0671 | Letter | AL | Arabic |  | R |
| 067E | Letter | AL | Arabic |  | D |
| 0686 | Letter | AL | Arabic |  | D |
| 0698 | Letter | AL | Arabic |  | R |
| 06A9 | Letter | AL | Arabic |  | D |
| 06AF | Letter | AL | Arabic |  | D |
| 06C0 | Letter | AL | Arabic |  | R |
| 06C1 to 06C2 | Letter | AL | Arabic |  | D |
| 06CC | Letter | AL | Arabic |  | D |
| 06D2 to 06D3 | Letter | AL | Arabic |  | R |
| 06D5 | Letter | AL | Arabic |  | R |
| 06F0 to 06F9 | Digit | EN | Arabic |  |  |
| 06FD to 06FE | Sign | AL | Arabic |  |  |
| 0901 to 0902 | Mark | NSM | Devanagari |  | T |
| 0903 | Spacing | L | Devanagari |  |  |
| 0904 to 0939 | Letter | L | Devanagari |  |  |
| 093C | Mark | NSM | Devanagari | 7 | T |
| 093E to 0940 | Spacing | L | Devanagari |  |  |
| 0941 to 0948 | Mark | NSM | Devanagari |  | T |
| 0949 to 094C | Spacing | L | Devanagari |  |  |
| 094D | Mark | NSM | Devanagari | 9 | T |
| 0958 to 0961 | Letter | L | Devanagari |  |  |
| 0966 to 096F | Digit | L | Devanagari |  |  |
| 1100 to 1112 | Letter | L | Hangul |  |  |
| 1161 to 1175 | Letter | L | Hangul |  |  |
| 11A8 to 11C2 | Letter | L | Hangul |  |  |
| 1EA0 to 1EF9 | Even | L | Latin |  |  |
| 2000 to 200A | Sign | WS |  |  |  |
| 200B | Format | BN |  |  | T |
| 200C | Format | BN |  |  |  |
| 200D | Format | BN |  |  | C |
| 200E | Format | L |  |  | T |
| 200F | Format | R |  |  | T |
| 2010 to 2027 | Sign | ON |  |  |  |
| 202A to 202E | Format | BN |  |  | T |
| 2066 to 2069 | Format | BN |  |  | T |
| 2126 | Upper | L | Greek |  |  |
| 212A to 212B | Upper | L | Latin |  |  |
| 3001 to 3002 | Sign | ON |  |  |  |
| 3005 | Modifier | L | Han |  |  |
| 3007 | Sign | L | Han |  |  |
| 3031 to 3035 | Modifier | L |  |  |  |
| 303B | Modifier | L | Han |  |  |
| 3041 to 3096 | Letter | L | Hiragana |  |  |
| 3099 to 309A | Mark | NSM |  | 8 | T |
| 309D to 309E | Modifier | L | Hiragana |  |  |
| 30A1 to 30FA | Letter | L | Katakana |  |  |
| 30FB | Sign | ON |  |  |  |
| 30FC | Modifier | L |  |  |  |
| 30FD to 30FE | Modifier | L | Katakana |  |  |
| 4E00 to 9FFF | Letter | L | Han |  |  |
| AC00 to D7A3 | Letter | L | Hangul |  |  |
| E000 to F8FF | Private | L |  |  |  |
| FF01 to FF0F | Sign | ON |  |  |  |
| FF10 to FF19 | Digit | EN |  |  |  |
| FF1A to FF20 | Sign | ON |  |  |  |
| FF21 to FF3A | Upper | L | Latin |  |  |
| FF3B to FF40 | Sign | ON |  |  |  |
| FF41 to FF5A | Lower | L | Latin |  |  |
| FF5B to FF5E | Sign | ON |  |  |  |
| FF61 | Sign | ON |  |  |  |
| FF65 | Sign | ON |  |  |  |
| FF66 to FF6F | Letter | L | Katakana |  |  |
| FF70 | Modifier | L |  |  |  |
| FF71 to FF9D | Letter | L | Katakana |  |  |
| FF9E to FF9F | Modifier | L |  |  |  |
| FFFD | Sign | ON |  |  |  |
| 10400 to 10427 | Upper | L |  |  |  |
| 10428 to 1044F | Lower | L |  |  |  |
| 1F600 to 1F64F | Sign | ON |  |  |  |
| F0000 to FFFFD | Private | L |  |  |  |
| 100000 to 10FFFD | Private | L |  |  |  |
`

// The numbers, by the chapter's words.
const (
	kindWords   = "Unassigned Upper Lower Letter Modifier Mark Spacing Digit Sign Format Control Private"
	bidiWords   = "L R AL EN ES ET AN CS NSM BN ON WS"
	scriptWords = "Other Latin Greek Cyrillic Hebrew Arabic Devanagari Hangul Hiragana Katakana Han"
	joinWords   = "U C D R T"
)

// noCodePoints: numbers that no code point has.
var noCodePoints = []rune{math.MinInt32, math.MinInt32 + 0x41, -0x10FFFF, -0x301, -0x41, -1, 0x110000, 0x110001, 0x110041, 0x110301, 0x7FFF0041, math.MaxInt32}

// noKinds: numbers that no kind has.
var noKinds = []int{math.MinInt, -0x100000000, -12, -1, 12, 13, 14, 256, 0x100000001, math.MaxInt}

// want is what a code point has: kind, direction, script, class, join.
type want [5]int

// place is a word's number.
func place(t *testing.T, words, word string) int {
	t.Helper()
	for i, w := range strings.Fields(words) {
		if w == word {
			return i
		}
	}
	t.Fatalf("no such word: %q", word)
	return 0
}

// kindAt is the number of a kind's word at a code point.
func kindAt(t *testing.T, word string, r int64) int {
	switch word {
	case "Even":
		return 1 + int(r%2)
	case "Odd":
		return 2 - int(r%2)
	}
	return place(t, kindWords, word)
}

// read is what each code point has, by the chapter's table.
func read(t *testing.T) []want {
	t.Helper()
	out := make([]want, 0x110000)
	seen := 0
	for row := range strings.Lines(strings.TrimSpace(chapter)) {
		cells := strings.Split(row, "|")
		for i := range cells {
			cells[i] = strings.TrimSpace(cells[i])
		}
		first, last, run := strings.Cut(cells[1], " to ")
		if !run {
			last = first
		}
		from, err := strconv.ParseInt(first, 16, 32)
		to, err2 := strconv.ParseInt(last, 16, 32)
		if err != nil || err2 != nil || from > to {
			t.Fatal(row)
		}
		var w want
		w[1] = place(t, bidiWords, cells[3])
		if cells[4] != "" {
			w[2] = place(t, scriptWords, cells[4])
		}
		if cells[5] != "" {
			w[3], _ = strconv.Atoi(cells[5])
		}
		if cells[6] != "" {
			w[4] = place(t, joinWords, cells[6])
		}
		for r := from; r <= to; r++ {
			w[0] = kindAt(t, cells[2], r)
			out[r] = w
		}
		seen++
	}
	if seen != 182 {
		t.Fatal(seen, "rows")
	}
	return out
}

// has is what a book tells of a code point.
func has(b *Book, r rune) want {
	return want{b.Kind(r), b.Bidi(r), b.Script(r), b.Class(r), b.Join(r)}
}

func TestP6_1Numbers(t *testing.T) {
	for _, x := range []struct {
		words string
		got   []int
	}{
		{kindWords, []int{Unassigned, Upper, Lower, Letter, Modifier, Mark, Spacing, Digit, Sign, Format, Control, Private}},
		{bidiWords, []int{L, R, AL, EN, ES, ET, AN, CS, NSM, BN, ON, WS}},
		{scriptWords, []int{Other, Latin, Greek, Cyrillic, Hebrew, Arabic, Devanagari, Hangul, Hiragana, Katakana, Han}},
		{joinWords, []int{None, Causing, Dual, Right, Through}},
	} {
		words := strings.Fields(x.words)
		if len(words) != len(x.got) {
			t.Errorf("%d numbers for %q", len(x.got), x.words)
		}
		for i, n := range x.got {
			if n != i {
				t.Errorf("%s is %d, want %d", words[i], n, i)
			}
		}
	}
}

func TestP6_1Examples(t *testing.T) {
	b := New()
	for r, w := range map[rune]want{
		0x41:     {Upper, L, Latin, 0, None},
		0x301:    {Mark, NSM, Other, 230, Through},
		0xE01:    {},
		0x100:    {Upper, L, Latin, 0, None},
		0x101:    {Lower, L, Latin, 0, None},
		0x139:    {Upper, L, Latin, 0, None},
		0x13A:    {Lower, L, Latin, 0, None},
		0x148:    {Lower, L, Latin, 0, None},
		0x1EF9:   {Lower, L, Latin, 0, None},
		0x627:    {Letter, AL, Arabic, 0, Right},
		0x640:    {Modifier, AL, Other, 0, Causing},
		0x200C:   {Format, BN, Other, 0, None},
		0x200D:   {Format, BN, Other, 0, Causing},
		0x94D:    {Mark, NSM, Devanagari, 9, Through},
		0x6F0:    {Digit, EN, Arabic, 0, None},
		0x9FFF:   {Letter, L, Han, 0, None},
		0xA000:   {},
		0xD800:   {},
		0x10FFFD: {Private, L, Other, 0, None},
		0x10FFFE: {},
	} {
		if got := has(b, r); got != w {
			t.Errorf("%04X: %v, want %v", r, got, w)
		}
	}
}

func TestP6_1EachCodePoint(t *testing.T) {
	b := New()
	for r, w := range read(t) {
		if got := has(b, rune(r)); got != w {
			t.Errorf("%04X: %v, want %v", r, got, w)
		}
	}
	for _, r := range noCodePoints {
		if got := has(b, r); got != (want{}) {
			t.Errorf("%d: %v", r, got)
		}
	}
}

func TestP6_1Count(t *testing.T) {
	b := New()
	var counts [12]int
	for _, w := range read(t) {
		counts[w[0]]++
	}
	all := 0
	for kind, n := range counts {
		if got := b.Count(kind); got != n || n == 0 {
			t.Errorf("Count(%d) = %d, want %d", kind, got, n)
		}
		all += b.Count(kind)
	}
	if all != 0x110000 {
		t.Errorf("%d code points in all", all)
	}
	if b.Count(Private) != 6400+2*65534 || b.Count(Control) != 65 || b.Count(Spacing) != 8 || b.Count(Digit) != 50 {
		t.Error("kinds that can be counted by hand")
	}
	for _, kind := range noKinds {
		if got := b.Count(kind); got != 0 {
			t.Errorf("Count(%d) = %d", kind, got)
		}
	}
}

// TestP6_1NextFromEachCodePoint goes from the last code point down, so that the nearest of each kind is known.
func TestP6_1NextFromEachCodePoint(t *testing.T) {
	b := New()
	var nearest [12]rune
	var found [12]bool
	table := read(t)
	for r := rune(0x10FFFF); r >= 0; r-- {
		kind := table[r][0]
		nearest[kind], found[kind] = r, true
		if r > 0x3200 && r < 0x10FFF0 && r%251 != 0 && table[r] == table[r-1] && table[r] == table[r+1] {
			continue // within a long run some code points are enough
		}
		for k := range nearest {
			if got, ok := b.Next(r, k); got != nearest[k] || ok != found[k] {
				t.Fatalf("Next(%04X, %d) = %04X, %v; want %04X, %v", r, k, got, ok, nearest[k], found[k])
			}
		}
	}
	for k := range nearest {
		for _, r := range []rune{math.MinInt32, -0x110000, -2, -1} {
			if got, ok := b.Next(r, k); got != nearest[k] || !ok {
				t.Errorf("Next(%d, %d) = %04X, %v", r, k, got, ok)
			}
		}
	}
}

func TestP6_1NextOfNothing(t *testing.T) {
	b := New()
	for _, r := range append([]rune{0, 1, 0x41, 0x10FFFF}, noCodePoints...) {
		for _, kind := range noKinds {
			if got, ok := b.Next(r, kind); got != 0 || ok {
				t.Errorf("Next(%d, %d) = %d, %v", r, kind, got, ok)
			}
		}
		if r <= 0x10FFFF {
			continue
		}
		for kind := range 12 {
			if got, ok := b.Next(r, kind); got != 0 || ok {
				t.Errorf("Next(%d, %d) = %d, %v", r, kind, got, ok)
			}
		}
	}
	for _, x := range []struct {
		r    rune
		kind int
		want rune
		ok   bool
	}{
		{0x62, Upper, 0xC0, true},
		{0x5A, Upper, 0x5A, true},
		{0x5B, Upper, 0xC0, true},
		{-7, Control, 0, true},
		{0, Unassigned, 0x180, true},
		{0x100, Lower, 0x101, true},
		{0x139, Lower, 0x13A, true},
		{0x94C, Spacing, 0x94C, true},
		{0x94D, Spacing, 0, false},
		{0x1044F, Lower, 0x1044F, true},
		{0x10450, Lower, 0, false},
		{0x10FFFD, Private, 0x10FFFD, true},
		{0x10FFFE, Private, 0, false},
		{0x10FFFD, Unassigned, 0x10FFFE, true},
		{0x10FFFF, Unassigned, 0x10FFFF, true},
	} {
		if got, ok := b.Next(x.r, x.kind); got != x.want || ok != x.ok {
			t.Errorf("Next(%04X, %d) = %04X, %v; want %04X, %v", x.r, x.kind, got, ok, x.want, x.ok)
		}
	}
}

// TestP6_1EachKindInTurn goes through a kind by Next alone, and meets as many as Count tells.
func TestP6_1EachKindInTurn(t *testing.T) {
	b := New()
	for kind := Upper; kind <= Control; kind++ {
		n := 0
		for r, ok := b.Next(-1, kind); ok; r, ok = b.Next(r+1, kind) {
			if n++; b.Kind(r) != kind || n > b.Count(kind) {
				t.Fatalf("%04X is of the kind %d, and the %dth", r, b.Kind(r), n)
			}
		}
		if n != b.Count(kind) {
			t.Errorf("%d of the kind %d, Count tells %d", n, kind, b.Count(kind))
		}
	}
}

func TestP6_1BooksAreTheirOwn(t *testing.T) {
	first, second := New(), New()
	if first == nil || second == nil || first == second {
		t.Fatal("New")
	}
	for _, r := range []rune{-1, 0, 0x41, 0x301, 0x628, 0xE01, 0x10FFFF} {
		if has(first, r) != has(second, r) || has(first, r) != has(first, r) {
			t.Errorf("%04X", r)
		}
	}
}

func TestP6_2OnlyMarksHaveAClass(t *testing.T) {
	b := New()
	marks := 0
	for r := rune(0); r <= 0x10FFFF; r++ {
		if class := b.Class(r); class != 0 && b.Kind(r) != Mark || class < 0 || class > 254 {
			t.Errorf("%04X: the kind %d, the class %d", r, b.Kind(r), class)
		} else if class != 0 {
			marks++
		}
	}
	if marks != 92 {
		t.Errorf("%d marks have a class", marks)
	}
	for _, r := range append([]rune{0x901, 0x902, 0x941, 0x948}, noCodePoints...) {
		if b.Class(r) != 0 {
			t.Errorf("%04X: the class %d", r, b.Class(r))
		}
	}
}

package nfc

import (
	"math"
	"math/rand"
	"slices"
	"strings"
	"testing"

	"moniker/hangul"
	"moniker/order"
	"moniker/pair"
	"moniker/ucd"
)

// signs: of each sort of code points some, and numbers that are none.
var signs = []rune{
	'a', 'o', 0xE2, 0xE9, 0x1EA1, 0x1EAD, 0x1A1, 0x1EE3, // pairs' first ones, and pairs
	0x301, 0x302, 0x323, 0x31B, 0x308, 0x334, 0x316, 0x345, // marks: seconds of pairs, and others
	0x344, 0x340, 0x212B, 0x2126, 0x37E, 0x915, 0x958, 0x93C, // excluded ones, and what they are made of
	0x1100, 0x1161, 0x11A8, 0xAC00, 0xAC01, 0x11A7, // Hangul
	0x304B, 0x3099, 0x304C, 0x627, 0x653, 0x655, 0x622, 0x1DC, 0xFC,
	-1, 0xD800, 0x110000,
}

// few: signs that meet in every order, in lists of several.
var few = []rune{'a', 0x301, 0x302, 0x323, 0x334, 0x1100, 0x1161, 0x11A8, 0xAC00}

// short tells all lists of at most n of some code points.
func short(of []rune, n int) func(yield func([]rune) bool) {
	return func(yield func([]rune) bool) {
		lists := [][]rune{nil}
		for range n + 1 {
			var longer [][]rune
			for _, l := range lists {
				if !yield(l) {
					return
				}
				for _, r := range of {
					longer = append(longer, append(slices.Clone(l), r))
				}
			}
			lists = longer
		}
	}
}

// named are all code points that pairs, singles and the Hangul of the chapters name, a few syllables for all.
func named(p *pair.Pairs) []rune {
	out := slices.Clone(signs)
	for r := rune(0); r <= 0x10FFFF; r++ {
		if a, b, n := p.Down(r); n > 0 {
			out = append(out, r, a)
			if n == 2 {
				out = append(out, b)
			}
		}
	}
	for r := rune(0x1100); r <= 0x11C2; r++ {
		out = append(out, r)
	}
	for r := rune(0xAC00); r <= 0xD7A3; r += 97 {
		out = append(out, r)
	}
	for r := rune(0x300); r <= 0x345; r++ {
		out = append(out, r)
	}
	slices.Sort(out)
	return slices.Compact(out)
}

// drawn tells longer lists, the same ones each time: half of what is drawn are marks, so that long runs come up.
func drawn(p *pair.Pairs, n int) func(yield func([]rune) bool) {
	return func(yield func([]rune) bool) {
		from := rand.New(rand.NewSource(10))
		all := named(p)
		for range n {
			l := make([]rune, from.Intn(16))
			for i := range l {
				if from.Intn(2) == 0 {
					l[i] = 0x300 + rune(from.Intn(0x46))
				} else {
					l[i] = all[from.Intn(len(all))]
				}
			}
			if !yield(l) {
				return
			}
		}
	}
}

// lists are all that the tests go through.
func lists(yield func([]rune) bool) {
	p := pair.New()
	for _, some := range []func(func([]rune) bool){short(signs, 3), short(few, 5), drawn(p, 20000), pairsWithMarks(p)} {
		for l := range some {
			if !yield(l) {
				return
			}
		}
	}
}

// pairsWithMarks tells each pair's code point, whole and in two, with a mark of each class between and behind.
func pairsWithMarks(p *pair.Pairs) func(yield func([]rune) bool) {
	return func(yield func([]rune) bool) {
		for r := rune(0); r <= 0x3100; r++ {
			a, b, n := p.Down(r)
			if n == 0 {
				continue
			}
			for _, m := range []rune{0x334, 0x93C, 0x3099, 0x64B, 0x321, 0x31B, 0x316, 0x323, 0x314, 0x301, 0x315, 0x345, 'x', -1} {
				for _, l := range [][]rune{{r}, {r, m}, {m, r}, {a, b, m}, {a, m, b}, {m, a, b}, {a, m, b, m}, {r, m, b}} {
					if !yield(l) {
						return
					}
				}
			}
		}
	}
}

// plain does what the chapter tells in the plainest way, one step after the other.
type plain struct {
	b *ucd.Book
	p *pair.Pairs
}

// oneApart is what a code point is made of, one step of it.
func (x plain) oneApart(r rune) []rune {
	if lead, vowel, tail, ok := hangul.Split(r); ok && tail != 0 {
		return []rune{lead, vowel, tail}
	} else if ok {
		return []rune{lead, vowel}
	}
	a, b, n := x.p.Down(r)
	return []rune{a, b}[:n]
}

func (x plain) nfd(l []rune) []rune {
	out := slices.Clone(l)
	for i := 0; i < len(out); {
		if of := x.oneApart(out[i]); len(of) > 0 {
			out = slices.Replace(out, i, i+1, of...)
		} else {
			i++
		}
	}
	return order.Sort(x.b, out)
}

func (x plain) compose(l []rune) []rune {
	out := slices.Clone(l)
	for i := 0; i < len(out); {
		s := order.Starter(x.b, out, i)
		if s < 0 || order.Blocked(x.b, out, i) {
			i++
			continue
		}
		whole, ok := x.p.Up(out[s], out[i])
		if !ok {
			whole, ok = hangul.Join(out[s], out[i])
		}
		if !ok {
			i++
			continue
		}
		out[s] = whole
		out = slices.Delete(out, i, i+1)
	}
	return out
}

// quick looks at each code point by itself.
func (x plain) quick(l []rune) int {
	maybe := false
	for i, r := range l {
		c := x.b.Class(r)
		if i > 0 && c != 0 && c < x.b.Class(l[i-1]) || x.p.Excluded(r) {
			return -1
		}
		maybe = maybe || x.p.Second(r) || r >= 0x1161 && r <= 0x1175 || r >= 0x11A8 && r <= 0x11C2
	}
	if maybe {
		return 0
	}
	return 1
}

func both() (*Former, plain) {
	b, p := ucd.New(), pair.New()
	return New(b, p), plain{b, p}
}

func TestP10_1Numbers(t *testing.T) {
	if No != -1 || Maybe != 0 || Yes != 1 {
		t.Error(No, Maybe, Yes)
	}
}

func TestP10_1New(t *testing.T) {
	if New(nil, nil) != nil || New(ucd.New(), nil) != nil || New(nil, pair.New()) != nil {
		t.Error("of nothing")
	}
	if New(ucd.New(), pair.New()) == nil {
		t.Error("of both")
	}
}

func TestP10_1Examples(t *testing.T) {
	f, _ := both()
	for _, x := range []struct{ l, nfd, nfc []rune }{
		{nil, nil, nil},
		{[]rune{}, nil, nil},
		{[]rune{'e', 0x301}, []rune{'e', 0x301}, []rune{0xE9}},
		{[]rune{0xE9}, []rune{'e', 0x301}, []rune{0xE9}},
		{[]rune{0x212B}, []rune{'A', 0x30A}, []rune{0xC5}},
		{[]rune{0x1112, 0x1161, 0x11AB}, []rune{0x1112, 0x1161, 0x11AB}, []rune{0xD55C}},
		{[]rune{0xD55C}, []rune{0x1112, 0x1161, 0x11AB}, []rune{0xD55C}},
		{[]rune{0xAC00, 0x11A8}, []rune{0x1100, 0x1161, 0x11A8}, []rune{0xAC01}},
		{[]rune{0xAC01, 0x11A8}, []rune{0x1100, 0x1161, 0x11A8, 0x11A8}, []rune{0xAC01, 0x11A8}}, // it has a tail
		{[]rune{0x1100, 0x301, 0x1161}, []rune{0x1100, 0x301, 0x1161}, []rune{0x1100, 0x301, 0x1161}},
		{[]rune{0x1100, 0x1161, 0x301, 0x11A8}, []rune{0x1100, 0x1161, 0x301, 0x11A8}, []rune{0xAC00, 0x301, 0x11A8}},
		{[]rune{0x1EAD}, []rune{'a', 0x323, 0x302}, []rune{0x1EAD}},
		{[]rune{'a', 0x302, 0x323}, []rune{'a', 0x323, 0x302}, []rune{0x1EAD}},
		{[]rune{0xE2, 0x323}, []rune{'a', 0x323, 0x302}, []rune{0x1EAD}}, // taken apart first, else it would stay
		{[]rune{'a', 0x301, 0x302}, []rune{'a', 0x301, 0x302}, []rune{0xE1, 0x302}},
		{[]rune{'a', 0x334, 0x301}, []rune{'a', 0x334, 0x301}, []rune{0xE1, 0x334}}, // past a mark of a lesser class
		{[]rune{'a', 0x345, 0x301}, []rune{'a', 0x301, 0x345}, []rune{0xE1, 0x345}},
		{[]rune{'a', 0x30F, 0x301}, []rune{'a', 0x30F, 0x301}, []rune{'a', 0x30F, 0x301}}, // blocked by one of the same class
		{[]rune{0x344}, []rune{0x308, 0x301}, []rune{0x308, 0x301}},
		{[]rune{'u', 0x344}, []rune{'u', 0x308, 0x301}, []rune{0x1D8}}, // u and 0308, then that and 0301
		{[]rune{0x301, 'a'}, []rune{0x301, 'a'}, []rune{0x301, 'a'}},
		{[]rune{0x308, 0x301}, []rune{0x308, 0x301}, []rune{0x308, 0x301}},
		{[]rune{0x958}, []rune{0x915, 0x93C}, []rune{0x915, 0x93C}},
		{[]rune{0x928, 0x93C}, []rune{0x928, 0x93C}, []rune{0x929}},
		{[]rune{0x2000, 0x2126, 0x212A, 0x37E, 0x387}, []rune{0x2002, 0x3A9, 'K', ';', 0xB7}, []rune{0x2002, 0x3A9, 'K', ';', 0xB7}},
		{[]rune{0x2126, 0x301}, []rune{0x3A9, 0x301}, []rune{0x38F}},
		{[]rune{-1, 0x301, 0x110000, 0xD800, math.MinInt32, math.MaxInt32}, []rune{-1, 0x301, 0x110000, 0xD800, math.MinInt32, math.MaxInt32}, []rune{-1, 0x301, 0x110000, 0xD800, math.MinInt32, math.MaxInt32}},
		{[]rune{'a', -1, 0x301}, []rune{'a', -1, 0x301}, []rune{'a', -1, 0x301}}, // a number that is no code point stands between
	} {
		if got := f.NFD(x.l); !slices.Equal(got, x.nfd) {
			t.Errorf("NFD(%X) = %X, want %X", x.l, got, x.nfd)
		}
		if got := f.NFC(x.l); !slices.Equal(got, x.nfc) {
			t.Errorf("NFC(%X) = %X, want %X", x.l, got, x.nfc)
		}
	}
}

func TestP10_1NFD(t *testing.T) {
	f, x := both()
	for l := range lists {
		if got, want := f.NFD(l), x.nfd(l); !slices.Equal(got, want) {
			t.Fatalf("NFD(%X) = %X, want %X", l, got, want)
		}
	}
}

func TestP10_1NFC(t *testing.T) {
	f, x := both()
	for l := range lists {
		if got, want := f.NFC(l), x.compose(x.nfd(l)); !slices.Equal(got, want) {
			t.Fatalf("NFC(%X) = %X, want %X", l, got, want)
		}
	}
}

func TestP10_1Compose(t *testing.T) {
	f, x := both()
	for _, y := range []struct{ l, want []rune }{
		{nil, nil},
		{[]rune{'h', 0x301, 0x334, 0x302}, []rune{'h', 0x301, 0x334, 0x302}}, // not the neighbour blocks
		{[]rune{'h', 0x334, 0x302}, []rune{0x125, 0x334}},
		{[]rune{'a', 0x302, 0x323}, []rune{0xE2, 0x323}},               // as it stands: not put in order
		{[]rune{'a', 0x323, 0x302}, []rune{0x1EAD}},                    // one behind the other
		{[]rune{'a', 0x302, 0x334, 0x301}, []rune{0x1EA5, 0x334}},      // what has gone blocks no more
		{[]rune{'a', 0x301, 0x30F, 0x302}, []rune{0xE1, 0x30F, 0x302}}, // blocked by what has stayed
		{[]rune{0x212B, 0x958, 0x344}, []rune{0x212B, 0x958, 0x344}},   // as it stands: not taken apart
		{[]rune{0x915, 0x93C}, []rune{0x915, 0x93C}},                   // excluded
		{[]rune{0x308, 0x301}, []rune{0x308, 0x301}},
		{[]rune{0x301, 'e', 0x301}, []rune{0x301, 0xE9}},
		{[]rune{0x1100, 0x1161, 0x11A8, 0x11A8}, []rune{0xAC01, 0x11A8}},
		{[]rune{0x1100, 0x1100, 0x1161, 0x1161}, []rune{0x1100, 0xAC00, 0x1161}},
		{[]rune{0x1100, 0x11A8, 0x1161}, []rune{0x1100, 0x11A8, 0x1161}},
		{[]rune{'a', 0x334, 0x1100, 0x1161}, []rune{'a', 0x334, 0xAC00}},
		{[]rune{0x1100, 0x334, 0x1161}, []rune{0x1100, 0x334, 0x1161}},
	} {
		if got := f.Compose(y.l); !slices.Equal(got, y.want) {
			t.Errorf("Compose(%X) = %X, want %X", y.l, got, y.want)
		}
	}
	for l := range lists {
		if got, want := f.Compose(l), x.compose(l); !slices.Equal(got, want) {
			t.Fatalf("Compose(%X) = %X, want %X", l, got, want)
		}
	}
}

func TestP10_1Quick(t *testing.T) {
	f, x := both()
	for _, y := range []struct {
		l    []rune
		want int
	}{
		{nil, Yes}, {[]rune{'a'}, Yes}, {[]rune{0xE9, 0x1EAD, 0xAC00, 0x1100}, Yes}, {[]rune{'a', 0x316, 0x345}, Yes}, {[]rune{-1, 0x110000, 0xD800}, Yes},
		{[]rune{'a', 0x301}, Maybe}, {[]rune{0x301}, Maybe}, {[]rune{'x', 0x301}, Maybe}, {[]rune{0x93C}, Maybe}, {[]rune{0x3099}, Maybe},
		{[]rune{0x1161}, Maybe}, {[]rune{0x1175}, Maybe}, {[]rune{0x11A8}, Maybe}, {[]rune{0x11C2}, Maybe},
		{[]rune{0x1112}, Yes}, {[]rune{0x1160}, Yes}, {[]rune{0x1176}, Yes}, {[]rune{0x11A7}, Yes}, {[]rune{0x11C3}, Yes},
		{[]rune{0x212B}, No}, {[]rune{0x344}, No}, {[]rune{0x958}, No}, {[]rune{0x95F}, No}, {[]rune{0x2000}, No},
		{[]rune{0x345, 0x316}, No}, {[]rune{'a', 0x301, 0x323}, No}, // not in order, though some may be put together
		{[]rune{'a', 0x301, 0x212B}, No}, {[]rune{0x212B, 0x301}, No}, {[]rune{0x1161, 'a', 0x344}, No},
	} {
		if got := f.Quick(y.l); got != y.want {
			t.Errorf("Quick(%X) = %d, want %d", y.l, got, y.want)
		}
	}
	for r := rune(-0x100); r <= 0x110100; r++ {
		if l := []rune{r}; f.Quick(l) != x.quick(l) {
			t.Fatalf("Quick(%X) = %d", l, f.Quick(l))
		}
	}
	for l := range lists {
		if got, want := f.Quick(l), x.quick(l); got != want {
			t.Fatalf("Quick(%X) = %d, want %d", l, got, want)
		}
	}
}

func TestP10_1Same(t *testing.T) {
	f, x := both()
	for _, y := range []struct {
		a, b []rune
		want bool
	}{
		{nil, nil, true}, {nil, []rune{}, true}, {nil, []rune{'a'}, false}, {[]rune{'a'}, nil, false}, {[]rune{'a'}, []rune{'a', 'a'}, false},
		{[]rune{0xE9}, []rune{'e', 0x301}, true}, {[]rune{'e', 0x301}, []rune{'e', 0x341}, true}, {[]rune{0x212B}, []rune{0xC5}, true},
		{[]rune{'a', 0x301, 0x323}, []rune{'a', 0x323, 0x301}, true}, {[]rune{'a', 0x301, 0x302}, []rune{'a', 0x302, 0x301}, false},
		{[]rune{0xAC01}, []rune{0x1100, 0x1161, 0x11A8}, true}, {[]rune{0xAC01}, []rune{0xAC00}, false}, {[]rune{0x958}, []rune{0x915, 0x93C}, true},
		{[]rune{'a'}, []rune{'A'}, false}, {[]rune{-1}, []rune{-1}, true}, {[]rune{-1}, []rune{-2}, false}, {[]rune{-1}, []rune{0xFFFD}, false},
	} {
		if f.Same(y.a, y.b) != y.want || f.Same(y.b, y.a) != y.want {
			t.Errorf("Same(%X, %X) = %v", y.a, y.b, !y.want)
		}
	}
	for a := range short(few, 2) {
		for b := range short(few, 2) {
			if got, want := f.Same(a, b), slices.Equal(x.nfd(a), x.nfd(b)); got != want {
				t.Fatalf("Same(%X, %X) = %v", a, b, got)
			}
		}
	}
}

func TestP10_1StableOfEveryRune(t *testing.T) {
	f, _ := both()
	unstable := []rune{0x340, 0x341, 0x343, 0x344, 0x37E, 0x387, 0x958, 0x959, 0x95A, 0x95B, 0x95C, 0x95D, 0x95E, 0x95F, 0x2000, 0x2001, 0x2126, 0x212A, 0x212B}
	check := func(r rune) {
		if got := f.Stable(r); got == slices.Contains(unstable, r) {
			t.Fatalf("Stable(%X) = %v", r, got)
		}
	}
	for r := rune(-0x300); r <= 0x110300; r++ {
		check(r)
	}
	for _, r := range []rune{math.MinInt32, -0x212B, math.MinInt32 + 0x212B, 0x100212B, math.MaxInt32} {
		check(r)
	}
}

func TestP10_1EveryRuneAlone(t *testing.T) {
	f, x := both()
	for r := rune(-0x300); r <= 0x110300; r++ {
		l := []rune{r}
		if got, want := f.NFD(l), x.nfd(l); !slices.Equal(got, want) {
			t.Fatalf("NFD(%X) = %X, want %X", l, got, want)
		}
		if got := f.Compose(l); !slices.Equal(got, l) {
			t.Fatalf("Compose(%X) = %X", l, got)
		}
	}
}

func TestP10_1Text(t *testing.T) {
	f, _ := both()
	for _, x := range [][2]string{
		{"", ""}, {"abc", "abc"}, {"Bu\u0308cher", "B\u00fccher"}, {"B\u00fccher", "B\u00fccher"}, {"\u212b", "\u00c5"}, {"a\u0302\u0323", "\u1ead"},
		{"\u1112\u1161\u11ab", "\ud55c"}, {"\u0958", "\u0915\u093c"}, {"\uFFFD\x00\U0010FFFF", "\uFFFD\x00\U0010FFFF"}, {"\u0301", "\u0301"}, {"\U0001F600\u0301", "\U0001F600\u0301"},
	} {
		if got, ok := f.Text(x[0]); got != x[1] || !ok {
			t.Errorf("Text(%q) = %q, %v", x[0], got, ok)
		}
	}
	for _, s := range []string{"\xff", "e\u0301\xff", "\xc3", "\xe2\x82", "\xed\xa0\x80", "\xc0\x80", "a\xf4\x90\x80\x80", "\x80abc"} {
		if got, ok := f.Text(s); got != "" || ok {
			t.Errorf("Text(%q) = %q, %v", s, got, ok)
		}
	}
	for l := range drawn(pair.New(), 2000) {
		l = slices.DeleteFunc(slices.Clone(l), func(r rune) bool { return string(r) == "\uFFFD" })
		if got, ok := f.Text(string(l)); got != string(f.NFC(l)) || !ok {
			t.Fatalf("Text(%q) = %q, %v", string(l), got, ok)
		}
	}
}

func TestP10_1WhatIsHandedInStays(t *testing.T) {
	f, _ := both()
	for _, is := range [][]rune{
		{'e', 0x301, 0x345, 0x323, 0xAC01, 0x212B, 'e', 0x301},
		{'a', 'b', 'c', 'd'}, // nothing is to be done, yet each answer is new
	} {
		room := slices.Clone(is)
		l := room[:len(room)-2]
		for name, call := range map[string]func([]rune) []rune{"NFD": f.NFD, "NFC": f.NFC, "Compose": f.Compose} {
			one, two := call(l), call(l)
			keep := slices.Clone(two)
			for i := range one {
				one[i] = 'z'
			}
			one = append(one, 'z')
			if !slices.Equal(room, is) || !slices.Equal(two, keep) || one[0] != 'z' {
				t.Errorf("%s of %X: %X %X", name, is, room, two)
			}
		}
		f.Quick(l)
		f.Same(l, room)
		if !slices.Equal(room, is) {
			t.Errorf("changed: %X", room)
		}
	}
}

func TestP10_1LongRuns(t *testing.T) {
	f, _ := both()
	const n = 200000
	l := append([]rune{'a'}, slices.Repeat([]rune{0x30F, 0x301, 0x323}, n/2)...)
	got := f.NFC(l)
	if len(got) != len(l)-1 || got[0] != 0x1EA1 || !f.Same(got, l) || f.Quick(l) != No {
		t.Error("a long run of marks", len(got))
	}
	if s, ok := f.Text(strings.Repeat("e\u0301\u1100\u1161\u11a8", n)); s != strings.Repeat("\u00e9\uac01", n) || !ok {
		t.Error("a long text")
	}
}

func TestP10_2Forms(t *testing.T) {
	f, _ := both()
	for l := range lists {
		d, c := f.NFD(l), f.NFC(l)
		for name, x := range map[string][2][]rune{"NFC of NFC": {f.NFC(c), c}, "NFD of NFD": {f.NFD(d), d}, "NFC of NFD": {f.NFC(d), c}, "NFD of NFC": {f.NFD(c), d}} {
			if !slices.Equal(x[0], x[1]) {
				t.Fatalf("%s of %X: %X, not %X", name, l, x[0], x[1])
			}
		}
		if !f.Same(l, c) || !f.Same(l, d) || !f.Same(c, d) {
			t.Fatalf("%X, %X and %X are the same", l, c, d)
		}
	}
}

func TestP10_2SameJustIfNFCIs(t *testing.T) {
	f, _ := both()
	var all, forms [][]rune
	for l := range short([]rune{'a', 0xE2, 0x302, 0x323, 0x1EA1, 0x1100, 0x1161, 0xAC00, -1}, 3) {
		all = append(all, l)
		forms = append(forms, f.NFC(l))
	}
	for i, a := range all {
		for k, b := range all {
			if f.Same(a, b) != slices.Equal(forms[i], forms[k]) {
				t.Fatalf("%X and %X: Same is %v", a, b, f.Same(a, b))
			}
		}
	}
}

func TestP10_2WholesAreStarters(t *testing.T) {
	f, x := both()
	for r := range rune(0x110000) { // what is put together stays a starter: so those behind it keep theirs
		a, b, n := x.p.Down(r)
		if whole, ok := x.p.Up(a, b); n == 2 && ok && (x.b.Class(whole) != 0 || x.b.Class(a) != 0) {
			t.Errorf("%X", r)
		}
		if got := f.NFC([]rune{a, b}); n == 2 && !x.p.Excluded(r) && !slices.Equal(got, []rune{r}) {
			t.Errorf("NFC of %X and %X: %X", a, b, got)
		}
	}
}

func TestP10_3Quick(t *testing.T) {
	f, _ := both()
	seen := map[int]int{}
	check := func(l []rune) {
		q := f.Quick(l)
		seen[q]++
		own := slices.Equal(f.NFC(l), l)
		if q == Yes && !own || q == No && own {
			t.Fatalf("Quick(%X) = %d, NFC %X", l, q, f.NFC(l))
		}
		if q == Maybe && own {
			seen[2]++
		}
	}
	for r := rune(-0x100); r <= 0x110100; r++ {
		check([]rune{r})
	}
	for l := range lists {
		check(l)
	}
	if seen[No] == 0 || seen[Yes] == 0 || seen[2] == 0 || seen[2] == seen[Maybe] {
		t.Error("each was to come up, and Maybe with both ends:", seen)
	}
}

func FuzzForms(f *testing.F) {
	f.Add("e\u0301")
	f.Add("\u1100\u1161\u11a8\u0344")
	f.Add("\xff")
	former, x := both()
	f.Fuzz(func(t *testing.T, s string) {
		l := []rune(s)
		d, c := former.NFD(l), former.NFC(l)
		if !slices.Equal(d, x.nfd(l)) || !slices.Equal(c, x.compose(d)) || !slices.Equal(former.NFD(c), d) || !slices.Equal(former.NFC(c), c) {
			t.Errorf("%X: %X %X", l, d, c)
		}
		if q, own := former.Quick(l), slices.Equal(c, l); q == Yes && !own || q == No && own {
			t.Errorf("Quick(%X) = %d", l, q)
		}
		if got, ok := former.Text(s); ok && got != string(c) || !ok && got != "" {
			t.Errorf("Text(%q) = %q, %v", s, got, ok)
		}
	})
}

package puny

import (
	"math"
	"math/rand"
	"slices"
	"strings"
	"testing"

	"moniker/api"
)

// The models below do what the chapter says step by step, with no bound but their own questions, and with one list that things are put into.

func modelThreshold(k, bias int64) int64 {
	switch {
	case k <= bias:
		return 1
	case k >= bias+26:
		return 26
	}
	return k - bias
}

func modelAdapt(d, count int64, first bool) int64 {
	if first {
		d = d / 700
	} else {
		d = d / 2
	}
	d = d + d/count
	more := int64(0)
	for d > 455 {
		d = d / 35
		more += 36
	}
	return more + 36*d/(d+38)
}

const modelDigits = "abcdefghijklmnopqrstuvwxyz0123456789"

func modelDelta(d, bias int64) string {
	out := ""
	k := int64(36)
	for {
		t := modelThreshold(k, bias)
		if d < t {
			return out + modelDigits[d:d+1]
		}
		v := t + (d-t)%(36-t)
		out += modelDigits[v : v+1]
		d = (d - t) / (36 - t)
		k += 36
	}
}

func modelEncode(l []rune) (string, api.Errno) {
	var out strings.Builder
	stand := int64(0)
	for _, r := range l {
		if r < 0 || r > 0x10FFFF {
			return "", api.ErrRange
		}
		if r < 128 {
			out.WriteByte(byte(r))
			stand++
		}
	}
	if stand > 0 {
		out.WriteByte('-')
	}
	n, delta, bias, first := int64(128), int64(0), int64(72), true
	for stand < int64(len(l)) {
		m := int64(math.MaxInt64)
		for _, r := range l {
			if int64(r) >= n {
				m = min(m, int64(r))
			}
		}
		delta += (m - n) * (stand + 1)
		n = m
		if delta > 1<<31-1 {
			return "", api.ErrOver
		}
		for _, r := range l {
			if int64(r) < n {
				delta++
				if delta > 1<<31-1 {
					return "", api.ErrOver
				}
			}
			if int64(r) == n {
				out.WriteString(modelDelta(delta, bias))
				bias = modelAdapt(delta, stand+1, first)
				delta, first = 0, false
				stand++
			}
		}
		delta++
		n++
	}
	return out.String(), api.OK
}

func modelDecode(s string) ([]rune, api.Errno) {
	out := []rune{}
	rest := []byte(s)
	for i := len(s) - 1; i >= 0; i-- {
		if s[i] != '-' {
			continue
		}
		for _, b := range []byte(s[:i]) {
			if b >= 0x80 {
				return nil, api.ErrForm
			}
			out = append(out, rune(b))
		}
		rest = []byte(s[i+1:])
		break
	}
	n, place, bias, first := int64(128), int64(0), int64(72), true
	for len(rest) > 0 {
		delta, counts, k := int64(0), int64(1), int64(36)
		for {
			if len(rest) == 0 {
				return nil, api.ErrForm
			}
			v := int64(strings.IndexByte(modelDigits, strings.ToLower(string(rune(rest[0])))[0]))
			if v < 0 || rest[0] >= 0x80 {
				return nil, api.ErrForm
			}
			rest = rest[1:]
			delta += v * counts
			if place+delta > 1<<31-1 {
				return nil, api.ErrOver
			}
			t := modelThreshold(k, bias)
			if v < t {
				break
			}
			counts *= 36 - t
			if counts > 1<<31-1 {
				return nil, api.ErrOver
			}
			k += 36
		}
		place += delta
		many := int64(len(out)) + 1
		bias, first = modelAdapt(delta, many, first), false
		n += place / many
		if n > 1<<31-1 {
			return nil, api.ErrOver
		}
		if n > 0x10FFFF {
			return nil, api.ErrRange
		}
		place %= many
		out = slices.Insert(out, int(place), rune(n))
		place++
	}
	return out, api.OK
}

// holdEncode holds Encode against the model, and what it tells against Decode.
func holdEncode(t *testing.T, l []rune) {
	t.Helper()
	asked, fault := modelEncode(l)
	s, e := Encode(l)
	if s != asked || e != fault {
		t.Fatalf("Encode(%X): %q %d, asked %q %d", l, s, e, asked, fault)
	}
	if e != api.OK {
		return
	}
	if back, e := Decode(s); !slices.Equal(back, l) || e != api.OK {
		t.Fatalf("Decode(%q): %X %d, asked %X", s, back, e, l)
	}
}

// holdDecode holds Decode against the model.
func holdDecode(t *testing.T, s string) api.Errno {
	t.Helper()
	asked, fault := modelDecode(s)
	l, e := Decode(s)
	if !slices.Equal(l, asked) || e != fault {
		t.Fatalf("Decode(%q): %X %d, asked %X %d", s, l, e, asked, fault)
	}
	return e
}

// lists goes through all lists of up to so many of some.
func lists[T any](some []T, most int, do func([]T)) {
	var go1 func(l []T)
	go1 = func(l []T) {
		do(l)
		if len(l) == most {
			return
		}
		for _, x := range some {
			go1(append(slices.Clone(l), x))
		}
	}
	go1(nil)
}

func runes(s string) []rune { return []rune(s) }

func samples() [][2]string {
	return [][2]string{
		{"", ""},
		{"\u00fc", "tda"},
		{"b\u00fccher", "bcher-kva"},
		{"abc", "abc-"},
		{"-", "--"},
		{"-> $1.00 <-", "-> $1.00 <--"},
		{"\u0080", "a"},
		{"\u0644\u064a\u0647\u0645\u0627\u0628\u062a\u0643\u0644\u0645\u0648\u0634\u0639\u0631\u0628\u064a\u061f", "egbpdaj6bu4bxfgehfvwxn"},
		{"\u4ed6\u4eec\u4e3a\u4ec0\u4e48\u4e0d\u8bf4\u4e2d\u6587", "ihqwcrb4cv8a8dqg056pqjye"},
		{"\u4ed6\u5011\u7232\u4ec0\u9ebd\u4e0d\u8aaa\u4e2d\u6587", "ihqwctvzc91f659drss3x8bo0yb"},
		{"Pro\u010dprost\u011bnemluv\u00ed\u010desky", "Proprostnemluvesky-uyb24dma41a"},
		{"\u05dc\u05de\u05d4\u05d4\u05dd\u05e4\u05e9\u05d5\u05d8\u05dc\u05d0\u05de\u05d3\u05d1\u05e8\u05d9\u05dd\u05e2\u05d1\u05e8\u05d9\u05ea", "4dbcagdahymbxekheh6e0a7fei0b"},
		{"\u306a\u305c\u307f\u3093\u306a\u65e5\u672c\u8a9e\u3092\u8a71\u3057\u3066\u304f\u308c\u306a\u3044\u306e\u304b", "n8jok5ay5dzabd5bym9f0cm5685rrjetr6pdxa"},
		{"\u043f\u043e\u0447\u0435\u043c\u0443\u0436\u0435\u043e\u043d\u0438\u043d\u0435\u0433\u043e\u0432\u043e\u0440\u044f\u0442\u043f\u043e\u0440\u0443\u0441\u0441\u043a\u0438", "b1abfaaepdrnnbgefbadotcwatmq2g4l"},
		{"Porqu\u00e9nopuedensimplementehablarenEspa\u00f1ol", "PorqunopuedensimplementehablarenEspaol-fmd56a"},
		{"T\u1ea1isaoh\u1ecdkh\u00f4ngth\u1ec3ch\u1ec9n\u00f3iti\u1ebfngVi\u1ec7t", "TisaohkhngthchnitingVit-kjcr8268qyxafd2f1b9g"},
		{"3\u5e74B\u7d44\u91d1\u516b\u5148\u751f", "3B-ww4c5e180e575a65lsy2b"},
		{"\u5b89\u5ba4\u5948\u7f8e\u6075-with-SUPER-MONKEYS", "-with-SUPER-MONKEYS-pc58ag80a8qai00g7n9n"},
		{"Hello-Another-Way-\u305d\u308c\u305e\u308c\u306e\u5834\u6240", "Hello-Another-Way--fc4qua05auwb3674vfr0b"},
		{"\u3072\u3068\u3064\u5c4b\u6839\u306e\u4e0b2", "2-u9tlzr9756bt3uc0v"},
		{"Maji\u3067Koi\u3059\u308b5\u79d2\u524d", "MajiKoi5-783gue6qz075azm5e"},
		{"\u30d1\u30d5\u30a3\u30fcde\u30eb\u30f3\u30d0", "de-jg4avhby1noc0d"},
		{"\u305d\u306e\u30b9\u30d4\u30fc\u30c9\u3067", "d9juau41awczczp"},
	}
}

func TestP11_1Samples(t *testing.T) {
	for _, x := range samples() {
		if s, e := Encode(runes(x[0])); s != x[1] || e != api.OK {
			t.Errorf("Encode(%q): %q %d, asked %q", x[0], s, e, x[1])
		}
		if l, e := Decode(x[1]); string(l) != x[0] || e != api.OK {
			t.Errorf("Decode(%q): %q %d, asked %q", x[1], string(l), e, x[0])
		}
		holdEncode(t, runes(x[0]))
		holdDecode(t, x[1])
	}
}

func TestP11_1Digit(t *testing.T) {
	for v := -300; v <= 600; v++ {
		asked, there := byte(0), v >= 0 && v < 36
		if there {
			asked = modelDigits[v]
		}
		if b, ok := Digit(v); b != asked || ok != there {
			t.Errorf("Digit(%d): %q %v", v, b, ok)
		}
	}
	for _, v := range []int{math.MinInt, math.MinInt32, math.MaxInt32, math.MaxInt, 1 << 32, 1<<32 + 5, 1<<32 + 30, -1 << 32} {
		if b, ok := Digit(v); b != 0 || ok {
			t.Errorf("Digit(%d): %q %v", v, b, ok)
		}
	}
}

func TestP11_1Value(t *testing.T) {
	asked := map[byte]int{}
	for v := range 36 {
		asked[modelDigits[v]] = v
		asked[strings.ToUpper(modelDigits[v : v+1])[0]] = v
	}
	if len(asked) != 26+26+10 {
		t.Fatal(len(asked))
	}
	for b := range 256 {
		want, there := asked[byte(b)]
		if v, ok := Value(byte(b)); v != want || ok != there {
			t.Errorf("Value(%X): %d %v", b, v, ok)
		}
	}
}

func TestP11_1Threshold(t *testing.T) {
	for k := -100; k <= 400; k++ {
		for bias := -100; bias <= 400; bias++ {
			if v := Threshold(k, bias); v != int(modelThreshold(int64(k), int64(bias))) {
				t.Fatalf("Threshold(%d, %d): %d", k, bias, v)
			}
		}
	}
	for _, x := range [][3]int{
		{36, 72, 1}, {72, 72, 1}, {73, 72, 1}, {74, 72, 2}, {97, 72, 25}, {98, 72, 26}, {108, 72, 26}, {36, 0, 26}, {36, 11, 25},
		{math.MinInt, math.MaxInt, 1}, {math.MaxInt, math.MinInt, 26}, {math.MaxInt, math.MaxInt, 1}, {math.MinInt, math.MinInt, 1},
		{math.MaxInt, math.MaxInt - 1, 1}, {math.MaxInt, math.MaxInt - 2, 2}, {math.MaxInt, math.MaxInt - 25, 25}, {math.MaxInt, math.MaxInt - 26, 26}, {math.MaxInt, math.MaxInt - 27, 26},
		{math.MaxInt - 1, math.MaxInt, 1}, {math.MaxInt - 1, math.MaxInt - 3, 2},
		{math.MinInt + 5, math.MinInt, 5}, {math.MinInt + 26, math.MinInt, 26}, {math.MinInt, math.MinInt + 5, 1},
		{0, math.MinInt, 26}, {-1, math.MinInt, 26}, {0, math.MaxInt, 1}, {-2, math.MaxInt, 1}, {math.MaxInt, -1, 26}, {math.MaxInt, 0, 26}, {math.MinInt, 0, 1}, {math.MinInt, 1, 1},
	} {
		if v := Threshold(x[0], x[1]); v != x[2] {
			t.Errorf("Threshold(%d, %d): %d, asked %d", x[0], x[1], v, x[2])
		}
	}
}

func TestP11_1Adapt(t *testing.T) {
	counts := []int{1, 2, 3, 4, 5, 10, 62, 63, 64, 700, 1 << 20, math.MaxInt32, math.MaxInt}
	hold := func(delta, count int, first bool) {
		asked := int(modelAdapt(int64(delta), int64(count), first))
		if v := Adapt(delta, count, first); v != asked {
			t.Fatalf("Adapt(%d, %d, %v): %d, asked %d", delta, count, first, v, asked)
		}
	}
	for delta := 0; delta <= 40000; delta++ {
		for _, count := range counts {
			hold(delta, count, false)
			hold(delta*20, count, true)
		}
	}
	for shift := range 63 {
		for _, near := range []int{-1, 0, 1} {
			for _, count := range counts {
				hold(max(1<<shift+near, 0), count, false)
				hold(max(1<<shift+near, 0), count, true)
			}
		}
	}
	hold(math.MaxInt, 1, false)
	hold(math.MaxInt, 1, true)
}

func TestP11_1AdaptOfAnyNumbers(t *testing.T) {
	for _, first := range []bool{false, true} {
		for _, count := range []int{1, 2, 9, math.MaxInt} {
			for _, delta := range []int{-1, -2, -699, -700, -701, math.MinInt32, math.MinInt, math.MinInt + 1} {
				if v := Adapt(delta, count, first); v != 0 {
					t.Errorf("Adapt(%d, %d, %v): %d", delta, count, first, v)
				}
			}
		}
		for _, count := range []int{0, -1, -2, math.MinInt32, math.MinInt} {
			for _, delta := range []int{-5, 0, 1, 19853, 1 << 30, math.MaxInt} {
				if v, asked := Adapt(delta, count, first), Adapt(delta, 1, first); v != asked {
					t.Errorf("Adapt(%d, %d, %v): %d, asked %d", delta, count, first, v, asked)
				}
			}
		}
	}
	for _, x := range []struct {
		delta, count int
		first        bool
		asked        int
	}{
		{0, 1, true, 0}, {699, 1, true, 0}, {700, 1, true, 1}, {19853, 1, true, 21}, {64, 2, false, 20}, {910, 1 << 20, false, 33}, {912, 1 << 20, false, 36 + 36*13/(13+38)},
	} {
		if v := Adapt(x.delta, x.count, x.first); v != x.asked {
			t.Errorf("Adapt(%d, %d, %v): %d, asked %d", x.delta, x.count, x.first, v, x.asked)
		}
	}
}

func TestP11_2EveryCodePointAlone(t *testing.T) {
	for r := rune(0); r <= api.MaxRune; r++ {
		s, e := Encode([]rune{r})
		if e != api.OK {
			t.Fatalf("%X: %d", r, e)
		}
		if l, e := Decode(s); len(l) != 1 || l[0] != r || e != api.OK {
			t.Fatalf("%X: %q: %X %d", r, s, l, e)
		}
		if r%97 == 0 {
			holdEncode(t, []rune{'a', r, 'b', r - r/2})
		}
	}
}

func TestP11_2EveryShortList(t *testing.T) {
	lists([]rune{0, '-', 'a', 'Z', 127, 128, 129, 0xFC, 0x10FFFF}, 5, func(l []rune) { holdEncode(t, l) })
	lists([]rune{'a', 0x80, 0x81}, 9, func(l []rune) { holdEncode(t, l) })
	lists([]rune{-1, 'a', 0xFC, 0xD800, 0xDFFF, 0x10FFFF, 0x110000, math.MinInt32, math.MaxInt32}, 3, func(l []rune) { holdEncode(t, l) })
}

// drawn is a list of so many, of code points that stand near each other or far apart.
func drawn(r *rand.Rand, many int) []rune {
	spans := [][2]rune{{0, 128}, {'a', 26}, {128, 10}, {0x80, 0x800}, {0x4E00, 0x5200}, {0xD7F0, 0x820}, {0x10000, 0x100000}, {0x10FFF0, 16}}
	first, second := spans[r.Intn(len(spans))], spans[r.Intn(len(spans))]
	var out []rune
	for range many {
		of := first
		if r.Intn(3) == 0 {
			of = second
		}
		out = append(out, of[0]+r.Int31n(of[1]))
	}
	return out
}

func TestP11_2DrawnLists(t *testing.T) {
	r := rand.New(rand.NewSource(11))
	for range 30000 {
		holdEncode(t, drawn(r, r.Intn(40)))
	}
	for range 60 {
		holdEncode(t, drawn(r, 200+r.Intn(900)))
	}
}

func TestP11_3AsciiAndTheFirstAsTheyAre(t *testing.T) {
	r := rand.New(rand.NewSource(113))
	for range 20000 {
		l := drawn(r, r.Intn(60))
		s, e := Encode(l)
		if e != api.OK {
			t.Fatalf("%X: %d", l, e)
		}
		var low []byte
		for _, c := range l {
			if c < 128 {
				low = append(low, byte(c))
			}
		}
		head := string(low)
		if head != "" {
			head += "-"
		}
		if !strings.HasPrefix(s, head) {
			t.Fatalf("%X: %q doesn't begin with %q", l, s, head)
		}
		for _, b := range []byte(s) {
			if b >= 0x80 {
				t.Fatalf("%X: %q", l, s)
			}
		}
		if tail := strings.Trim(s[len(head):], modelDigits); tail != "" {
			t.Fatalf("%X: %q: %q", l, s, tail)
		}
	}
}

func TestP11_1EncodeErrors(t *testing.T) {
	low := func(many int, r ...rune) []rune { return append(runes(strings.Repeat("a", many)), r...) }
	for _, x := range []struct {
		l     []rune
		asked api.Errno
	}{
		{[]rune{-1}, api.ErrRange}, {[]rune{0x110000}, api.ErrRange}, {[]rune{math.MinInt32}, api.ErrRange}, {[]rune{math.MaxInt32}, api.ErrRange},
		{[]rune{'a', 0xFC, -5}, api.ErrRange}, {[]rune{0x10FFFF}, api.OK}, {[]rune{0}, api.OK}, {[]rune{0xD800, 0xDFFF}, api.OK},
		{low(1926, 0x10FFFF), api.OK}, {low(1927, 0x10FFFF), api.ErrOver}, {low(5000, 0x10FFFF), api.ErrOver}, {low(5000, 0x10FFFF, -1), api.ErrRange},
		{low(3000, 0xFC, 0x10FFFF, 'b'), api.ErrOver},
	} {
		s, e := Encode(x.l)
		if e != x.asked || e != api.OK && s != "" {
			t.Errorf("Encode of %d (the last: %X): %q %d, asked %d", len(x.l), x.l[len(x.l)-1], s, e, x.asked)
		}
		holdEncode(t, x.l)
	}
}

// The delta of "a" so often and one code point is (that less 128) times (how many there are), and as many as stand ahead of it.
func TestP11_1EncodeAtTheBound(t *testing.T) {
	const bound = 1<<31 - 1
	seen := map[int]int{}
	for _, many := range []int{1927, 1928, 1929, 2047, 2048, 4095, 4096, 9999} {
		last := bound/(many+1) + 128
		for code := last - 2; code <= min(last+2, api.MaxRune); code++ {
			left := bound - (code-128)*(many+1)
			for _, ahead := range []int{0, 1, left - 1, left, left + 1, many - 1, many} {
				if ahead < 0 || ahead > many {
					continue
				}
				l := runes(strings.Repeat("a", many))
				l = slices.Insert(l, ahead, rune(code))
				asked := api.OK
				if ahead > left {
					asked = api.ErrOver
				}
				seen[ahead-left]++
				if _, e := Encode(l); e != asked {
					t.Errorf("%d, %X at %d: %d, asked %d", many, code, ahead, e, asked)
				}
				holdEncode(t, l)
			}
		}
	}
	if seen[0] == 0 || seen[1] == 0 || seen[-1] == 0 {
		t.Error("the bound isn't seen from both sides")
	}
}

func TestP11_1DecodeErrors(t *testing.T) {
	for _, x := range []struct {
		s     string
		asked api.Errno
	}{
		{"a-!", api.ErrForm}, {"99999999", api.ErrOver}, {"\x80-", api.ErrForm}, {"a\x80b-tda", api.ErrForm}, {"\xff-!", api.ErrForm}, {"\x7f-", api.OK},
		{"t", api.ErrForm}, {"td", api.ErrForm}, {"tda", api.OK}, {"tdat", api.OK}, {"tda9", api.ErrForm}, {"TDA", api.OK}, {"tDa", api.OK},
		{"a-\x80", api.ErrForm}, {"\u00fc", api.ErrForm}, {"tda\x00", api.ErrForm}, {" tda", api.ErrForm}, {"t_a", api.ErrForm}, {"[", api.ErrForm}, {"@", api.ErrForm}, {"`", api.ErrForm}, {"{", api.ErrForm}, {"/", api.ErrForm}, {":", api.ErrForm},
		{"9999999", api.ErrForm}, {"99999999", api.ErrOver}, {"99999999b", api.ErrOver}, {"9999999!", api.ErrForm}, {"99999999!", api.ErrOver}, {"9999b", api.OK}, {"99999b", api.ErrRange}, {"9999999b", api.ErrRange}, {"99999b!", api.ErrRange}, {"9999b!", api.ErrForm}, {"99999b99999999", api.ErrRange},
		{"\x80-99999999", api.ErrForm}, {"\x80-99999b", api.ErrForm},
	} {
		l, e := Decode(x.s)
		if e != x.asked || e != api.OK && len(l) != 0 {
			t.Errorf("Decode(%q): %X %d, asked %d", x.s, l, e, x.asked)
		}
		holdDecode(t, x.s)
	}
}

func TestP11_1DecodeHyphens(t *testing.T) {
	for _, x := range [][2]string{
		{"", ""}, {"-", ""}, {"--", "-"}, {"---", "--"}, {"-tda", "\u00fc"}, {"a-", "a"}, {"a--", "a-"}, {"-a-", "-a"}, {"a-b-a", "\u0080a-b"}, {"a-b-ba", "a\u0080-b"}, {"AbC-", "AbC"}, {"\x00\n -", "\x00\n "},
	} {
		if l, e := Decode(x[0]); string(l) != x[1] || e != api.OK {
			t.Errorf("Decode(%q): %X %d, asked %q", x[0], l, e, x[1])
		}
	}
}

func TestP11_1DecodeEveryShortText(t *testing.T) {
	seen := map[api.Errno]int{}
	lists([]byte("-aAbkz09!\x7f\x80\xff"), 5, func(l []byte) { seen[holdDecode(t, string(l))]++ })
	lists([]byte("ab9"), 10, func(l []byte) { seen[holdDecode(t, string(l))]++ })
	for _, e := range []api.Errno{api.OK, api.ErrForm, api.ErrOver, api.ErrRange} {
		if seen[e] == 0 {
			t.Error("never seen:", e)
		}
	}
}

func TestP11_1DecodeDrawnTexts(t *testing.T) {
	r := rand.New(rand.NewSource(111))
	seen := map[api.Errno]int{}
	for range 300000 {
		s := make([]byte, r.Intn(24))
		for i := range s {
			s[i] = modelDigits[r.Intn(36)]
			switch r.Intn(5) {
			case 0:
				s[i] = modelDigits[r.Intn(4)]
			case 1, 2:
				s[i] = modelDigits[26+r.Intn(10)]
			}
		}
		for range r.Intn(3) / 2 {
			if len(s) > 0 {
				s[r.Intn(len(s))] = []byte("-AZ!\x80\xfc.")[r.Intn(7)]
			}
		}
		seen[holdDecode(t, string(s))]++
	}
	for _, e := range []api.Errno{api.OK, api.ErrForm, api.ErrOver, api.ErrRange} {
		if seen[e] < 100 {
			t.Error("hardly seen:", e, seen[e])
		}
	}
}

// What a coded text turns into, if a byte of it is another one, is left out or comes twice.
func TestP11_1DecodeSpoiltTexts(t *testing.T) {
	for _, x := range samples() {
		s := x[1]
		for i := range len(s) {
			holdDecode(t, s[:i])
			holdDecode(t, s[i:])
			holdDecode(t, s[:i]+s[i+1:])
			holdDecode(t, s[:i]+s[i:i+1]+s[i:])
			for b := range 256 {
				holdDecode(t, s[:i]+string([]byte{byte(b)})+s[i+1:])
			}
		}
	}
}

// Where n, a place, or what the next digit counts stands just at 2^31 - 1, or just above it.
func TestP11_1DecodeAtTheBound(t *testing.T) {
	seen := map[api.Errno]int{}
	for _, delta := range []int64{0x10FFFF - 128, 0x110000 - 128, 1<<31 - 1 - 128, 1<<31 - 128, 1<<31 - 1, 1 << 31, 1<<31 + 1, 1 << 32} {
		for near := int64(-40); near <= 40; near++ {
			s := modelDelta(delta+near, 72)
			seen[holdDecode(t, s)]++
			holdDecode(t, s+"!")
			holdDecode(t, "a-"+s)
			for cut := range len(s) {
				holdDecode(t, s[:cut])
				holdDecode(t, s[:cut]+"!")
			}
		}
	}
	if seen[api.OK] == 0 || seen[api.ErrRange] == 0 || seen[api.ErrOver] == 0 {
		t.Error(seen)
	}
	head := "tda" // then a place is 1, and the bias is another
	bias := modelAdapt(0xFC-128, 1, true)
	for near := int64(-40); near <= 40; near++ {
		for _, delta := range []int64{1<<31 - 1, 1 << 31, 2 * (0x10FFFF - 0xFC)} {
			holdDecode(t, head+modelDelta(delta+near, bias))
		}
	}
	low := strings.Repeat("a", 3000) + "-"
	for near := int64(-40); near <= 40; near++ {
		holdDecode(t, low+modelDelta(1<<31-1+near, 72))
	}
}

func TestP11_1WhatIsHandedInStays(t *testing.T) {
	whole := []rune{0xFC, 'b', 0x4E00, 'a', -7, 0xFC, 'x'}
	kept := slices.Clone(whole)
	for to := range whole {
		Encode(whole[:to])
		if !slices.Equal(whole, kept) {
			t.Fatalf("%X", whole)
		}
	}
	first, _ := Decode("bcher-kva")
	for i := range first {
		first[i] = 'z'
	}
	if again, e := Decode("bcher-kva"); string(again) != "b\u00fccher" || e != api.OK {
		t.Errorf("%q %d", string(again), e)
	}
}

// Long lists and texts end in time, whatever stands where.
func TestP11_1LongOnes(t *testing.T) {
	var all, back, twice []rune
	for r := rune(0); r <= 400000; r++ {
		all = append(all, r)
		back = append(back, 400000-r)
		twice = append(twice, 'a', 0x80+r%5)
	}
	r := rand.New(rand.NewSource(12))
	mixed := slices.Clone(all[:3000])
	r.Shuffle(len(mixed), func(i, k int) { mixed[i], mixed[k] = mixed[k], mixed[i] })
	for _, l := range [][]rune{all, back, twice, mixed, all[128:], back[:60000]} {
		s, e := Encode(l)
		if e == api.ErrOver {
			continue
		}
		if again, e := Decode(s); !slices.Equal(again, l) || e != api.OK {
			t.Error(len(l), len(s), e)
		}
	}
	for _, s := range []string{strings.Repeat("a", 1<<20), strings.Repeat("9", 1<<20), strings.Repeat("-", 1<<20), strings.Repeat("ba", 1<<19), strings.Repeat("-a", 1<<19) + "a", strings.Repeat("a", 1<<20) + "\x80-"} {
		l, e := Decode(s)
		if e == api.OK {
			if back, e := Encode(l); e != api.OK || strings.TrimPrefix(back, "-") != strings.TrimPrefix(s, "-") && len(back) > len(s) {
				t.Error(len(s), len(back), e)
			}
		}
	}
}

func TestTally(t *testing.T) {
	r := rand.New(rand.NewSource(13))
	for places := range 70 {
		tally, plain := newTally(places), make([]int, places)
		for range 3 * places {
			at := r.Intn(places)
			many := 1 - 2*plain[at]
			plain[at] += many
			tally.add(at, many)
			sum := 0
			for i, is := range plain {
				if tally.ahead(i) != sum {
					t.Fatal("ahead of", i, tally.ahead(i), sum)
				}
				if is == 1 && tally.find(sum) != i {
					t.Fatal("find", sum, tally.find(sum), i)
				}
				sum += is
			}
		}
	}
}

func FuzzP11_1Decode(f *testing.F) {
	for _, x := range samples() {
		f.Add(x[1])
		f.Add(x[0])
	}
	f.Fuzz(func(t *testing.T, s string) {
		if holdDecode(t, s) == api.OK {
			l, _ := Decode(s)
			holdEncode(t, l)
		}
		holdEncode(t, runes(s))
	})
}

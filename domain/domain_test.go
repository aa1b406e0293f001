package domain

import (
	"math/rand"
	"slices"
	"strings"
	"testing"

	"moniker/api"
	"moniker/bidi"
	"moniker/label"
	"moniker/mapping"
	"moniker/pair"
	"moniker/ucd"
	"moniker/utf"
)

func names() *Names { return New(ucd.New(), pair.New()) }

// model does what the chapter says step by step, of the layers below.
type model struct {
	book    *ucd.Book
	mapper  *mapping.Mapper
	checker *label.Checker
}

func newModel() model {
	b, p := ucd.New(), pair.New()
	return model{b, mapping.New(b, p), label.New(b, p)}
}

// told is what all calls tell of a text.
type told struct {
	sent, shown  string
	e            api.Errno
	place, fault int
}

func isASCII(l []rune) bool {
	for _, r := range l {
		if r >= 0x80 {
			return false
		}
	}
	return true
}

// labels are a text's labels, and whether there is the root.
func (m model) labels(l []rune) ([]string, bool) {
	parts := strings.Split(string(m.mapper.Map(l)), ".")
	if n := len(parts); n > 1 && parts[n-1] == "" {
		return parts[:n-1], true
	}
	return parts, false
}

// points are the code points of a label.
func (m model) points(s string) []rune {
	if isASCII([]rune(s)) && label.Coded(s) {
		l, _ := m.checker.FromOld(s, false)
		return l
	}
	return []rune(s)
}

// fault is that of a label, or of its ToOld, and what it is sent as.
func (m model) fault(s string, both bool) (string, int) {
	l := []rune(s)
	if len(l) == 0 {
		return "", label.Empty
	}
	if !isASCII(l) {
		if fault := m.checker.Fault(l, both); fault != label.Fine {
			return "", fault
		}
		return m.checker.ToOld(l, both)
	}
	if label.Coded(s) {
		_, fault := m.checker.FromOld(s, both)
		return s, fault
	}
	fault := label.Old(s)
	if fault == label.Fine && both && bidi.Broken(m.book, l) != 0 {
		return s, label.Bidi
	}
	return s, fault
}

func (m model) tell(s string) told {
	l, ok := utf.Runes(s)
	if !ok {
		return told{e: api.ErrEncoding}
	}
	labels, root := m.labels(l)
	both := false
	for _, one := range labels {
		both = both || bidi.RightToLeft(m.book, m.points(one))
	}
	var sent, shown []string
	for i, one := range labels {
		old, fault := m.fault(one, both)
		if fault != label.Fine {
			return told{e: api.ErrLabel, place: i, fault: fault}
		}
		sent, shown = append(sent, old), append(shown, string(m.points(one)))
	}
	out := told{sent: strings.Join(sent, "."), shown: strings.Join(shown, ".")}
	if len(out.sent) > 253 {
		return told{e: api.ErrLong}
	}
	if root {
		out.sent, out.shown = out.sent+".", out.shown+"."
	}
	return out
}

// tell is what the calls tell of a text.
func tell(t *testing.T, n *Names, s string) told {
	t.Helper()
	var out told
	out.sent, out.e = n.ToASCII(s)
	shown, e := n.ToUnicode(s)
	if e != out.e {
		t.Fatalf("%q: %d as it is sent, %d as it is shown", s, out.e, e)
	}
	out.shown = shown
	out.place, out.fault = n.Why(s)
	return out
}

// check holds the calls at a text against the model, and P17.2 with them.
func check(t *testing.T, n *Names, m model, s string) told {
	t.Helper()
	got := tell(t, n, s)
	if want := m.tell(s); got != want {
		t.Fatalf("%q: %+v, want %+v", s, got, want)
	}
	if same := n.Same(s, s); same != (got.e == api.OK) {
		t.Fatalf("Same(%q, it) = %v", s, same)
	}
	if got.e == api.OK {
		for _, again := range []string{got.sent, got.shown} {
			if twice := tell(t, n, again); twice != got {
				t.Fatalf("%q: %+v, but of %q %+v", s, got, again, twice)
			}
			if !n.Same(s, again) || !n.Same(again, s) {
				t.Fatalf("%q and %q aren't the same", s, again)
			}
		}
	}
	return got
}

func TestP17_1New(t *testing.T) {
	b, p := ucd.New(), pair.New()
	if New(b, p) == nil {
		t.Error("both are there")
	}
	if New(nil, p) != nil || New(b, nil) != nil || New(nil, nil) != nil {
		t.Error("one of both isn't there")
	}
}

// The labels that aren't of ASCII were told apart from the program, by another language's library.
func TestP17_1AndP17_2Examples(t *testing.T) {
	n, m := names(), newModel()
	for _, x := range []struct{ s, sent, shown string }{
		{"B\u00fccher.DE", "xn--bcher-kva.de", "b\u00fccher.de"}, {"a\u3002\u00fc.", "a.xn--tda.", "a.\u00fc."}, {"XN--TDA", "xn--tda", "\u00fc"}, {"\u05d0\u05d1", "xn--4dbc", "\u05d0\u05d1"},
		{"a", "a", "a"}, {"A.", "a.", "a."}, {"a.b.c", "a.b.c", "a.b.c"}, {"a--b.0", "a--b.0", "a--b.0"}, {"1.2.3.4", "1.2.3.4", "1.2.3.4"}, {"WWW.Example", "www.example", "www.example"},
		{"a\uff0eb\uff61c\u3002", "a.b.c.", "a.b.c."}, {"\uff41\uff22", "ab", "ab"}, {"\u212b.\u2126", "xn--5ca.xn--bya", "\u00e5.\u03c9"}, {"\u212a", "k", "k"},
		{"bu\u0308cher", "xn--bcher-kva", "b\u00fccher"}, {"E\u0301", "xn--9ca", "\u00e9"}, {"\u00c9", "xn--9ca", "\u00e9"}, {"\uff76\uff9e", "xn--mck", "\u30ac"}, {"\u0130", "i", "i"}, {"\uff38\uff2e--TDA", "xn--tda", "\u00fc"},
		{"fa\u00df.de", "xn--fa-hia.de", "fa\u00df.de"}, {"\u03b2\u03cc\u03bb\u03bf\u03c2", "xn--nxasmm1c", "\u03b2\u03cc\u03bb\u03bf\u03c2"}, {"\u0392\u038c\u039b\u039f\u03a3", "xn--nxasmq6b", "\u03b2\u03cc\u03bb\u03bf\u03c3"},
		{"\u043f\u0440\u0438\u043c\u0435\u0440.\u0438\u0441\u043f\u044b\u0442\u0430\u043d\u0438\u0435", "xn--e1afmkfd.xn--80akhbyknj4f", "\u043f\u0440\u0438\u043c\u0435\u0440.\u0438\u0441\u043f\u044b\u0442\u0430\u043d\u0438\u0435"},
		{"\u0645\u062b\u0627\u0644.\u0625\u062e\u062a\u0628\u0627\u0631", "xn--mgbh0fb.xn--kgbechtv", "\u0645\u062b\u0627\u0644.\u0625\u062e\u062a\u0628\u0627\u0631"},
		{"\u4f8b\u3048\u3002\u30c6\u30b9\u30c8.", "xn--r8jz45g.xn--zckzah.", "\u4f8b\u3048.\u30c6\u30b9\u30c8."}, {"\ud55c\uad6d.kr", "xn--3e0b707e.kr", "\ud55c\uad6d.kr"}, {"\u1112\u1161\u11ab\uad6d.kr", "xn--3e0b707e.kr", "\ud55c\uad6d.kr"},
		{"Xn--MgbH0fb.a", "xn--mgbh0fb.a", "\u0645\u062b\u0627\u0644.a"}, {"\u05d0.a1", "xn--4db.a1", "\u05d0.a1"}, {"col\u00b7la.x", "xn--colla-sja.x", "col\u00b7la.x"},
	} {
		got := check(t, n, m, x.s)
		if want := (told{sent: x.sent, shown: x.shown}); got != want {
			t.Errorf("%q: %+v, want %+v", x.s, got, want)
		}
	}
}

// Which label has which fault; of all of them ToASCII tells ErrLabel.
func TestP17_1Faults(t *testing.T) {
	n, m := names(), newModel()
	a := func(n int) string { return strings.Repeat("a", n) }
	for _, x := range []struct {
		s            string
		place, fault int
	}{
		{"", 0, label.Empty}, {".", 0, label.Empty}, {"..", 0, label.Empty}, {".a", 0, label.Empty}, {"a..b", 1, label.Empty}, {"a..", 1, label.Empty}, {"a.b...", 2, label.Empty}, {"\u3002", 0, label.Empty}, {"a\u3002\uff0eb", 1, label.Empty}, {"\u05d0..1", 1, label.Empty},
		{"a_b", 0, label.Letters}, {"a.b_c", 1, label.Letters}, {"a.b c.d_", 1, label.Letters}, {"a\x00", 0, label.Letters}, {"a.%", 1, label.Letters}, {"\uff3f", 0, label.Letters}, {"\u037e", 0, label.Letters}, {"xn-_", 0, label.Letters},
		{"-a", 0, label.Edge}, {"a.b-", 1, label.Edge}, {"-", 0, label.Edge}, {"\u00fc-", 0, label.Edge}, {"a.-\u00fc", 1, label.Edge}, {"xn----tda", 0, label.Edge},
		{"ab--c", 0, label.Hyphens}, {"a.XY--z", 1, label.Hyphens}, {"\u00fca--", 0, label.Hyphens}, {"xn--\u00fc", 0, label.Hyphens}, {"a.xn--\u00fc.-", 1, label.Hyphens},
		{a(64), 0, label.Long}, {"a." + a(64), 1, label.Long}, {a(56) + "\u00fc", 0, label.Long}, {"a." + strings.Repeat("\u00fc", 58), 1, label.Long}, {"xn--" + a(60) + "-", 0, label.Long},
		{a(33000) + "\U00010428", 0, label.Puny}, {"xn--t", 0, label.Puny}, {"a.xn--t_a", 1, label.Puny}, {"xn--99999999", 0, label.Puny},
		{"xn--", 0, label.Empty}, {"xn---", 0, label.Empty}, {"a.xn--.b_", 1, label.Empty},
		{"\u0301", 0, label.Mark}, {"a.\u0301", 1, label.Mark}, {"\u0903\u0915", 0, label.Mark}, {"\uff9e", 0, label.Mark},
		{"\u0e01", 0, label.Stands}, {"a.\u00fc_", 1, label.Stands}, {"\u0640", 0, label.Stands}, {"\u00fc\u00a0", 0, label.Stands}, {"xn--a_-hka", 0, label.Stands}, {"\u1100", 0, label.Stands}, {"\u017f", 0, label.Stands}, {"\ufffd", 0, label.Stands}, {"\U0001f600", 0, label.Stands},
		{"l\u00b7", 0, label.Rule}, {"a.\u200d", 1, label.Rule}, {"\u30fb", 0, label.Rule}, {"\uff65", 0, label.Rule}, {"\u0660\u06f0", 0, label.Rule}, {"xn--uba", 0, label.Rule},
		{"xn--abc-", 0, label.Ascii}, {"a.XN--ABC-.b", 1, label.Ascii}, {"xn--e-ccb", 0, label.Form}, {"xn---tda", 0, label.Other}, {"a.xn---tda", 1, label.Other}, {"XN---TDA", 0, label.Other},
	} {
		got := check(t, n, m, x.s)
		if want := (told{e: api.ErrLabel, place: x.place, fault: x.fault}); got != want {
			t.Errorf("%q: %v, want %v", x.s[:min(len(x.s), 20)], got, want)
		}
	}
}

// Bidi is asked of all labels, where one of them is read from the right.
func TestP17_1Bidirectional(t *testing.T) {
	n, m := names(), newModel()
	for _, x := range []struct {
		s            string
		place, fault int
	}{
		{"1.a", 0, label.Fine}, {"1.\u00fc", 0, label.Fine}, {"1\u00fc", 0, label.Fine}, {"1.xn--tda", 0, label.Fine}, {"\u05d0.a", 0, label.Fine}, {"\u05d0\u05d1.\u0627", 0, label.Fine}, {"\u05d01.", 0, label.Fine}, {"\u05d0.xn--tda", 0, label.Fine}, {"\u05d0.a1", 0, label.Fine}, {"\u05d0.a-1", 0, label.Fine},
		{"\u05d0.1", 1, label.Bidi}, {"1.\u05d0", 0, label.Bidi}, {"a.1a.\u05d0", 1, label.Bidi}, {"a\u05d0", 0, label.Bidi}, {"\u05d0a", 0, label.Bidi}, {"1\u00fc.\u05d0", 0, label.Bidi}, {"\u0660", 0, label.Bidi}, {"a.\u0660", 1, label.Bidi}, {"1.\u0627\u0660", 0, label.Bidi}, {"\u0627\u06601", 0, label.Bidi},
		{"xn--4db.1", 1, label.Bidi}, {"1.xn--4db", 0, label.Bidi}, {"1.XN--4DB.", 0, label.Bidi}, {"xn--1-eha.\u05d0", 0, label.Bidi}, {"\u05d0.xn--1-eha", 1, label.Bidi}, {"xn--a-0hc", 0, label.Bidi}, {"\u05d0.1\u00fc.1", 1, label.Bidi},
		{"\u05d0.-1", 1, label.Edge}, {"\u05d0.1_", 1, label.Letters}, {"\u05d0." + strings.Repeat("1", 64), 1, label.Long}, {"\u05d0.11--1", 1, label.Hyphens}, {"\u05d0.1\u0e01", 1, label.Stands}, {"\u05d0.1" + strings.Repeat("\u00fc", 60), 1, label.Bidi}, {"\u05d0.a" + strings.Repeat("\u00fc", 60), 1, label.Long},
		{"\u05d0.xn--1-", 1, label.Bidi}, {"a.xn--1-", 1, label.Ascii}, {"\u05d0.xn--a-", 1, label.Ascii}, // of what FromOld is asked with bidi, the first fault
		{"1.xn---4db", 1, label.Other}, {"1.xn--\u05d0", 0, label.Bidi}, {"1.xn--4db.xn---4db", 0, label.Bidi}, {"1.xn--4db-", 1, label.Ascii}, // code points that FromOld doesn't tell don't count; a label's own do, whatever faults it has
		{"1._\u05d0", 0, label.Bidi}, {"1.\u0e01\u05d0.a", 0, label.Bidi}, {"a.b.1.\u200f", 2, label.Bidi}, {"1.xn---\u05d0", 0, label.Bidi}, {"1.xn--lsa6b23k", 1, label.Form},
	} {
		got := check(t, n, m, x.s)
		if got.place != x.place || got.fault != x.fault {
			t.Errorf("Why(%q) = %d, %d, want %d, %d", x.s, got.place, got.fault, x.place, x.fault)
		}
	}
}

func TestP17_1Encoding(t *testing.T) {
	n, m := names(), newModel()
	for _, s := range []string{"\xff", "a\xff", "\xc3", "a.\xc3\xbc.\xc3", "_\x80", "..\xed\xa0\x80", "\xc0\x80", strings.Repeat("a", 300) + "\xf4\x90\x80\x80", "\u05d0.1\xbf"} {
		if got := check(t, n, m, s); got != (told{e: api.ErrEncoding}) {
			t.Errorf("%q: %v", s, got)
		}
	}
}

func TestP17_1Lengths(t *testing.T) {
	n, m := names(), newModel()
	a := func(n int) string { return strings.Repeat("a", n) }
	three := a(63) + "." + a(63) + "." + a(63) + "."
	for _, x := range []struct {
		s    string
		size int // of what is sent; 0: it is too long
	}{
		{a(63), 63}, {three + a(61), 253}, {three + a(61) + ".", 254}, {three + a(62), 0}, {three + a(62) + ".", 0}, {three + a(60) + "\u3002", 253}, {three + a(61) + "\uff0e", 254},
		{strings.Repeat("a.", 126) + "a", 253}, {strings.Repeat("a.", 127), 254}, {strings.Repeat("a.", 127) + "a", 0}, {strings.Repeat("a.", 128), 0}, {strings.Repeat("a.", 1<<16), 0},
		{strings.Repeat("\u00fc.", 31) + "aaaaa", 253}, {strings.Repeat("\u00fc.", 31) + "aaaaaa", 0}, {strings.Repeat("\u00fc.", 31) + "aaaaa.", 254}, {strings.Repeat("\u00fc.", 32), 0}, {strings.Repeat("\u00fc\u3002", 32), 0}, {strings.Repeat("XN--TDA.", 31) + "aaaaa", 253}, {strings.Repeat("XN--TDA.", 31) + "aaaaaa", 0},
		{strings.Repeat(strings.Repeat("\u00fc", 57)+".", 3) + a(61), 253}, {strings.Repeat(strings.Repeat("u\u0308", 57)+".", 3) + a(61) + ".", 254}, {strings.Repeat(strings.Repeat("u\u0308", 57)+".", 3) + a(62), 0},
	} {
		want := api.OK
		if x.size == 0 {
			want = api.ErrLong
		}
		got := check(t, n, m, x.s)
		if got.e != want || len(got.sent) != x.size || got.fault != label.Fine || got.place != 0 {
			t.Errorf("%q ..: %d, %d, want %d, %d", x.s[:20], len(got.sent), got.e, x.size, want)
		}
	}
	if got := check(t, n, m, strings.Repeat("a.", 200)+"_"); got != (told{e: api.ErrLabel, place: 200, fault: label.Letters}) {
		t.Error(got) // a label's fault goes ahead of the length
	}
}

func TestP17_1Same(t *testing.T) {
	n := names()
	for _, x := range []struct {
		a, b string
		want bool
	}{
		{"a", "A", true}, {"\u00fc", "XN--TDA", true}, {"B\u00dcCHER.de", "xn--bcher-KVA\u3002DE", true}, {"e\u0301", "\u00c9", true}, {"a.", "a\uff0e", true}, {"\u212a", "k", true}, {"\u03a3", "\u03c3", true}, {"\u0130", "i", true},
		{"a", "b", false}, {"a", "a.", false}, {"a.", "a", false}, {"\u00fc", "u", false}, {"\u00df", "ss", false}, {"\u03c2", "\u03c3", false}, {"I\u0307", "i", false},
		{"", "", false}, {".", ".", false}, {"a_b", "a_b", false}, {"a", "a_b", false}, {"a_b", "a", false}, {"\xff", "\xff", false}, {"a", "\xff", false}, {"\xff", "a", false}, {"xn---tda", "xn---tda", false}, {"xn--abc-", "abc", false}, {"", "a", false}, {strings.Repeat("a.", 200), strings.Repeat("a.", 200), false},
	} {
		if got := n.Same(x.a, x.b); got != x.want {
			t.Errorf("Same(%q, %q) = %v", x.a, x.b, got)
		}
	}
}

// pieces: of each sort of texts some.
var pieces = []string{
	"a", "1", "-", ".", "_", "xn--", "XN--", "tda", "4db", "-tda", "xn--abc-", "A", "\u00fc", "u\u0308", "\u00df", "\u03c2", "\u00b7", "l", "\u0301", "\u3002", "\uff0e", "\uff38", "\uff41", "\uff76\uff9e",
	"\u05d0", "\u05d1", "\u05f3", "\u0627", "\u0660", "\u06f0", "\u200c", "\u200d", "\u094d", "\u0915", "\u0958", "\u30fb", "\u30a2", "\u1100", "\u1161", "\uac00", "\u212b", "\u0130", "\u0e01", "\U00010400", "\xff",
}

// few: pieces that meet in every order, in texts of several.
var few = []string{"a", "1", "-", ".", "\u00fc", "\u05d0", "xn--", "4db", "_"}

// short tells all texts of at most n of some pieces.
func short(of []string, n int) func(yield func(string) bool) {
	return func(yield func(string) bool) {
		texts := []string{""}
		for range n + 1 {
			var longer []string
			for _, s := range texts {
				if !yield(s) {
					return
				}
				for _, p := range of {
					longer = append(longer, s+p)
				}
			}
			texts = longer
		}
	}
}

func TestP17_1AndP17_2AllShort(t *testing.T) {
	n, m := names(), newModel()
	for s := range short(pieces, 3) {
		check(t, n, m, s)
	}
	for s := range short(few, 5) {
		check(t, n, m, s)
	}
}

func TestP17_1AndP17_2EachAlone(t *testing.T) {
	n, m, fine := names(), newModel(), 0
	for r := rune(0); r <= api.MaxRune; r++ {
		if r < 0x20000 || r%0x101 == 0 { // of those above none is known that isn't private
			if got := check(t, n, m, utf.Encode(r)+"a"); got.e == api.OK {
				fine++
			}
		}
	}
	if fine < 30000 {
		t.Errorf("%d are fine", fine)
	}
}

// scripts: what stands together in labels.
var scripts = []string{
	"\u00fc\u00e9\u00dcabAl\u00b7-1\u0301", "\u05d0\u05d1\u05d2\u05f31-\u05b4", "\u0627\u0628\u062f\u200c\u0661\u06621\u064b\u0653", "\u0915\u0916\u094d\u200d\u200c\u093e\u093c", "\u3042\u30a2\u30fb\u4e2d\u30fc\u304b\u3099\uff76", "\u03b1\u03b2\u0391\u03c2\u03c3\u03a3\u0301", "abc01-", "AZ",
}

func drawnLabel(draw *rand.Rand, c *label.Checker) string {
	from := []rune(scripts[draw.Intn(len(scripts))])
	l := make([]rune, 1+draw.Intn(8))
	for i := range l {
		l[i] = from[draw.Intn(len(from))]
	}
	if draw.Intn(3) == 0 {
		if s, fault := c.ToOld(l, false); fault == label.Fine {
			return s
		}
	}
	return string(l)
}

func TestP17_1AndP17_2Drawn(t *testing.T) {
	n, m := names(), newModel()
	draw := rand.New(rand.NewSource(17))
	fine := 0
	for i := range 30000 {
		var b strings.Builder
		for range 1 + i%5 {
			b.WriteString(drawnLabel(draw, m.checker))
			b.WriteString([]string{".", "\u3002", "\uff0e", "\uff61"}[draw.Intn(4)])
		}
		s := b.String()
		if draw.Intn(2) == 0 {
			s += drawnLabel(draw, m.checker)
		}
		if draw.Intn(10) == 0 {
			s += pieces[draw.Intn(len(pieces))]
		}
		if check(t, n, m, s).e == api.OK {
			fine++
		}
	}
	if fine < 3000 {
		t.Errorf("%d are fine", fine)
	}
}

// Texts of which a call was told before tell the same again.
func TestP17_1NothingIsKept(t *testing.T) {
	n := names()
	texts := slices.Collect(short([]string{"\u05d0", "1", ".", "\u00fc"}, 4))
	var first []told
	for _, s := range texts {
		first = append(first, tell(t, n, s))
	}
	for i, s := range slices.Backward(texts) {
		if again := tell(t, n, s); again != first[i] {
			t.Fatalf("%q: %+v, again %+v", s, first[i], again)
		}
	}
}

func TestP17_1Long(t *testing.T) {
	n, m := names(), newModel()
	const many = 1 << 15
	for _, s := range []string{".", "a", "a.", "\u00fc", "\u00fc.", "xn--tda.", "\u05d0.", "u\u0308", "\u3002", "-", "xn--"} {
		check(t, n, m, strings.Repeat(s, many))
		check(t, n, m, "xn--"+strings.Repeat(s, many))
	}
}

func FuzzP17(f *testing.F) {
	n, m := names(), newModel()
	for _, s := range []string{"", "a.b", "B\u00fccher.DE", "xn--tda.", "\u05d0.1", "1.xn---4db", "a\u3002\u00fc", "\xff"} {
		f.Add(s)
	}
	f.Fuzz(func(t *testing.T, s string) { check(t, n, m, s) })
}

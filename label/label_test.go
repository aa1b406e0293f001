package label

import (
	"math"
	"math/rand"
	"slices"
	"strings"
	"testing"

	"moniker/api"
	"moniker/bidi"
	"moniker/derive"
	"moniker/nfc"
	"moniker/pair"
	"moniker/puny"
	"moniker/rule"
	"moniker/ucd"
)

func checker() *Checker { return New(ucd.New(), pair.New()) }

// model asks each of the chapter's lines by itself, of the layers below.
type model struct {
	book   *ucd.Book
	former *nfc.Former
	judge  *derive.Judge
}

func newModel() model {
	b, p := ucd.New(), pair.New()
	return model{b, nfc.New(b, p), derive.New(b, p)}
}

// holds tells of each fault of code points whether it is one of these.
func (m model) holds(l []rune, wanted bool) (out [Other + 1]bool) {
	if len(l) == 0 {
		out[Empty] = true
		return out
	}
	out[Form] = !slices.Equal(m.former.NFC(l), l)
	out[Hyphens] = len(l) > 3 && string(l[2:4]) == "--"
	out[Edge] = l[0] == 0x2D || l[len(l)-1] == 0x2D
	out[Mark] = m.book.Kind(l[0]) == ucd.Mark || m.book.Kind(l[0]) == ucd.Spacing
	out[Ascii] = true
	for i, r := range l {
		of := m.judge.Of(r)
		if of == derive.Disallowed || of == derive.Unassigned {
			out[Stands] = true
		}
		if !rule.Met(m.book, l, i) {
			out[Rule] = true
		}
		if r >= 0x80 {
			out[Ascii] = false
		}
	}
	out[Bidi] = wanted && bidi.Broken(m.book, l) > 0
	return out
}

// fault is the first of those that hold, in the chapter's order.
func (m model) fault(l []rune, wanted bool) int {
	holds := m.holds(l, wanted)
	for _, fault := range []int{Empty, Form, Hyphens, Edge, Mark, Stands, Rule, Bidi, Ascii} {
		if holds[fault] {
			return fault
		}
	}
	return Fine
}

func (m model) toOld(l []rune, wanted bool) (string, int) {
	if fault := m.fault(l, wanted); fault != Fine {
		return "", fault
	}
	s, e := puny.Encode(l)
	if e != api.OK {
		return "", Puny
	}
	if len(s)+4 > 63 {
		return "", Long
	}
	return "xn--" + s, Fine
}

// lower is a text with the letters of ASCII in lower case.
func lower(s string) string {
	out := []byte(s)
	for i, b := range out {
		if strings.IndexByte("ABCDEFGHIJKLMNOPQRSTUVWXYZ", b) >= 0 {
			out[i] = b + 32
		}
	}
	return string(out)
}

func (m model) fromOld(s string, wanted bool) ([]rune, int) {
	if len(s) < 4 || lower(s[:4]) != "xn--" {
		return nil, Puny
	}
	l, e := puny.Decode(lower(s[4:]))
	if e != api.OK {
		return nil, Puny
	}
	if len(s) > 63 {
		return nil, Long
	}
	if fault := m.fault(l, wanted); fault != Fine {
		return nil, fault
	}
	if again, _ := puny.Encode(l); lower(s) != "xn--"+again {
		return nil, Other
	}
	return l, Fine
}

// check holds Fault and ToOld against the model, and P16.2 with them.
func check(t *testing.T, c *Checker, m model, l []rune) {
	t.Helper()
	for _, wanted := range []bool{false, true} {
		if got, want := c.Fault(l, wanted), m.fault(l, wanted); got != want {
			t.Fatalf("Fault(%x, %v) = %d, want %d", l, wanted, got, want)
		}
		s, fault := c.ToOld(l, wanted)
		if want, wantFault := m.toOld(l, wanted); s != want || fault != wantFault {
			t.Fatalf("ToOld(%x, %v) = %q, %d, want %q, %d", l, wanted, s, fault, want, wantFault)
		}
		if fault != Fine {
			continue
		}
		back, fault := c.FromOld(s, wanted)
		if !slices.Equal(back, l) || fault != Fine {
			t.Fatalf("FromOld(%q, %v) = %x, %d, want %x", s, wanted, back, fault, l)
		}
		if fault := Old(s); fault != Hyphens {
			t.Fatalf("Old(%q) = %d", s, fault)
		}
	}
}

// checkOld holds the calls at bytes against the model, and P16.2 with them.
func checkOld(t *testing.T, c *Checker, m model, s string) {
	t.Helper()
	if got := Coded(s); got != strings.HasPrefix(lower(s), "xn--") {
		t.Fatalf("Coded(%q) = %v", s, got)
	}
	for _, wanted := range []bool{false, true} {
		l, fault := c.FromOld(s, wanted)
		if want, wantFault := m.fromOld(s, wanted); !slices.Equal(l, want) || fault != wantFault {
			t.Fatalf("FromOld(%q, %v) = %x, %d, want %x, %d", s, wanted, l, fault, want, wantFault)
		}
		if fault != Fine {
			continue
		}
		if back, fault := c.ToOld(l, wanted); back != lower(s) || fault != Fine {
			t.Fatalf("ToOld(%x, %v) = %q, %d, want %q", l, wanted, back, fault, lower(s))
		}
	}
}

func TestP16_1New(t *testing.T) {
	b, p := ucd.New(), pair.New()
	if New(b, p) == nil {
		t.Error("both are there")
	}
	if New(nil, p) != nil || New(b, nil) != nil || New(nil, nil) != nil {
		t.Error("one of both isn't there")
	}
}

func TestP16_1Numbers(t *testing.T) {
	for i, fault := range []int{Fine, Empty, Form, Hyphens, Edge, Mark, Stands, Rule, Bidi, Ascii, Long, Letters, Puny, Other} {
		if fault != i {
			t.Errorf("%d is %d", i, fault)
		}
	}
}

// Each fault, alone and ahead of all those behind it; the first number without bidi, the second with it.
func TestP16_1Faults(t *testing.T) {
	c := checker()
	for _, x := range []struct {
		l            []rune
		plain, asked int
	}{
		{nil, Empty, Empty}, {[]rune{}, Empty, Empty},
		{[]rune{'e', 0x301}, Form, Form}, {[]rune{0x212B}, Form, Form}, {[]rune{0x958}, Form, Form}, {[]rune{0xFC, 0x301, 0x323}, Form, Form},
		{[]rune{0x1100, 0x1161}, Form, Form}, {[]rune{0xE9, 'e', '-', '-', 0x340}, Form, Form}, {[]rune{'-', 0x344, '-', '-', 'A', 0xB7}, Form, Form}, {[]rune{0x301, 0x316}, Form, Form},
		{[]rune{0xFC, 'a', '-', '-'}, Hyphens, Hyphens}, {[]rune{0xFC, 'a', '-', '-', 'b'}, Hyphens, Hyphens}, {[]rune("ab--c"), Hyphens, Hyphens}, {[]rune("xn--tda"), Hyphens, Hyphens},
		{[]rune("----"), Hyphens, Hyphens}, {[]rune{'-', 'A', '-', '-'}, Hyphens, Hyphens}, {[]rune{0x301, 0x5D0, '-', '-', 0xB7, 'A'}, Hyphens, Hyphens},
		{[]rune{'-'}, Edge, Edge}, {[]rune{0xFC, '-'}, Edge, Edge}, {[]rune{'-', 0xFC}, Edge, Edge}, {[]rune("--"), Edge, Edge}, {[]rune("---"), Edge, Edge}, {[]rune{'-', 'A', 0xB7, 0x5D0}, Edge, Edge}, {[]rune{0x301, '-'}, Edge, Edge},
		{[]rune{0x301}, Mark, Mark}, {[]rune{0x301, 'a'}, Mark, Mark}, {[]rune{0x903}, Mark, Mark}, {[]rune{0x94D, 0x200D}, Mark, Mark}, {[]rune{0x345}, Mark, Mark}, {[]rune{0x5B4, 'A', 0xB7}, Mark, Mark}, {[]rune{0x93E, 0xE01}, Mark, Mark},
		{[]rune{'A', 0xFC}, Stands, Stands}, {[]rune{'a', '_'}, Stands, Stands}, {[]rune{0xE01}, Stands, Stands}, {[]rune{0x5D0, 'A', 0xB7}, Stands, Stands}, {[]rune{0xFC, '.'}, Stands, Stands}, {[]rune{0xFF41}, Stands, Stands},
		{[]rune{0x640}, Stands, Stands}, {[]rune{0x3002}, Stands, Stands}, {[]rune{0x11A8}, Stands, Stands}, {[]rune{0xFC, -1}, Stands, Stands}, {[]rune{-1}, Stands, Stands}, {[]rune{api.MaxRune + 1}, Stands, Stands}, {[]rune{0xD800}, Stands, Stands}, {[]rune{math.MinInt32, math.MaxInt32}, Stands, Stands},
		{[]rune{0xB7, 0xFC}, Rule, Rule}, {[]rune{0xFC, 'l', 0xB7}, Rule, Rule}, {[]rune{0x200D}, Rule, Rule}, {[]rune{0xFC, 0x200C}, Rule, Rule}, {[]rune{0x30FB}, Rule, Rule}, {[]rune{0x660, 0x6F0}, Rule, Rule}, {[]rune{'a', 0x5F3}, Rule, Rule}, {[]rune{0x375}, Rule, Rule}, {[]rune{'1', 0x5D0, 0x375}, Rule, Rule},
		{[]rune{'a', 0x5D0}, Fine, Bidi}, {[]rune{'1', 0x5D0}, Fine, Bidi}, {[]rune{0x660}, Fine, Bidi}, {[]rune{0x5D0, 'a'}, Fine, Bidi}, {[]rune{'1', 0xFC}, Fine, Bidi}, {[]rune{0x627, 0x660, '1'}, Fine, Bidi}, {[]rune{0x30A2, 0x30FB}, Fine, Bidi}, {[]rune{0x5D0, 0xFC, 0x5D0}, Fine, Bidi}, {[]rune{'1'}, Ascii, Bidi}, {[]rune("0a"), Ascii, Bidi},
		{[]rune{'a'}, Ascii, Ascii}, {[]rune("a-b"), Ascii, Ascii}, {[]rune("a--b"), Ascii, Ascii}, {[]rune("a1"), Ascii, Ascii}, {slices.Repeat([]rune{'a'}, 64), Ascii, Ascii},
		{[]rune{0xFC}, Fine, Fine}, {[]rune{0xDF}, Fine, Fine}, {[]rune{0x3C2}, Fine, Fine}, {[]rune{0x3007}, Fine, Fine}, {[]rune{0x6FD}, Fine, Fine}, {[]rune{'l', 0xB7, 'l'}, Fine, Fine}, {[]rune{0x915, 0x94D, 0x200D}, Fine, Bidi},
		{[]rune{0x5D0, 0x5D1}, Fine, Fine}, {[]rune{0x5D0, '1'}, Fine, Fine}, {[]rune{0x5D0, 0x5F3}, Fine, Fine}, {[]rune{0x627, 0x660}, Fine, Fine}, {[]rune{0xFC, '-', '-', 'a'}, Fine, Fine}, {[]rune{0xFC, 'a', 'b', '-', '-', 'c'}, Fine, Fine}, {[]rune{0xE9, 0x331}, Fine, Fine}, {[]rune{0x10428}, Fine, Fine},
		{slices.Repeat([]rune{0xFC}, 100), Fine, Fine}, // how long it is isn't asked of code points
	} {
		if got := c.Fault(x.l, false); got != x.plain {
			t.Errorf("Fault(%x, false) = %d, want %d", x.l, got, x.plain)
		}
		if got := c.Fault(x.l, true); got != x.asked {
			t.Errorf("Fault(%x, true) = %d, want %d", x.l, got, x.asked)
		}
	}
}

func TestP16_1Old(t *testing.T) {
	a := func(n int) string { return strings.Repeat("a", n) }
	for _, x := range []struct {
		s    string
		want int
	}{
		{"", Empty},
		{"_", Letters}, {"a_b", Letters}, {"a.b", Letters}, {"a b", Letters}, {"\x00", Letters}, {"\x80", Letters}, {"a\xff", Letters}, {"\u00fc", Letters}, {"a\u212a", Letters}, {"-_", Letters}, {"_-", Letters}, {"ab--_", Letters}, {a(70) + "_", Letters}, {"a/", Letters}, {"a:", Letters}, {"@a", Letters}, {"a[", Letters}, {"`a", Letters}, {"a{", Letters},
		{"-", Edge}, {"-a", Edge}, {"a-", Edge}, {"--", Edge}, {"---", Edge}, {"----", Edge}, {"-a--b", Edge}, {"ab--", Edge}, {"xn--", Edge}, {"-" + a(70), Edge}, {a(70) + "-", Edge},
		{"ab--c", Hyphens}, {"xn--tda", Hyphens}, {"XN--TDA", Hyphens}, {"00--0", Hyphens}, {"ab---c", Hyphens}, {"ab--" + a(70), Hyphens},
		{a(64), Long}, {a(65), Long}, {a(1 << 16), Long}, {"a--" + a(70), Long},
		{"a", Fine}, {"A", Fine}, {"0", Fine}, {"z9", Fine}, {"a-b", Fine}, {"a--b", Fine}, {"abc--d", Fine}, {"ab-c-d", Fine}, {"abc-d", Fine}, {a(63), Fine}, {"A--Z", Fine}, {"123", Fine},
	} {
		if got := Old(x.s); got != x.want {
			t.Errorf("Old(%q) = %d, want %d", x.s, got, x.want)
		}
	}
}

func TestP16_1OldOfEachByte(t *testing.T) {
	const stand = "ABCDEFGHIJKLMNOPQRSTUVWXYZabcdefghijklmnopqrstuvwxyz0123456789"
	for i := range 256 {
		s := string([]byte{byte(i)})
		want, within := Letters, Letters
		if strings.Contains(stand, s) {
			want, within = Fine, Fine
		}
		if s == "-" {
			want, within = Edge, Fine
		}
		if got := Old(s); got != want {
			t.Errorf("Old(%q) = %d, want %d", s, got, want)
		}
		if got := Old("a" + s + "b"); got != within {
			t.Errorf("Old(%q) = %d, want %d", "a"+s+"b", got, within)
		}
	}
}

func TestP16_1Coded(t *testing.T) {
	for _, x := range []struct {
		s    string
		want bool
	}{
		{"xn--", true}, {"XN--", true}, {"xN--", true}, {"Xn--", true}, {"xn--tda", true}, {"xn---", true}, {"xn--\xff", true}, {"Xn--\x00", true},
		{"", false}, {"x", false}, {"xn", false}, {"xn-", false}, {"xn-a", false}, {"xm--a", false}, {"yn--a", false}, {" xn--a", false}, {"axn--", false}, {"xn\r\r", false}, {"x\u006e\x0d-", false}, {"8n--a", false}, {"XN\r-", false}, {"\uff58n--", false}, {"xn\u2010-", false},
	} {
		if got := Coded(x.s); got != x.want {
			t.Errorf("Coded(%q) = %v", x.s, got)
		}
	}
}

// Labels of many scripts, and what they are sent as: told apart from the program, by another language's library.
func TestP16_1AndP16_2Examples(t *testing.T) {
	c := checker()
	for _, x := range []struct{ shown, sent string }{
		{"\u00fc", "xn--tda"}, {"b\u00fccher", "xn--bcher-kva"}, {"m\u00fcnchen", "xn--mnchen-3ya"}, {"\u00eb", "xn--cda"}, {"fa\u00df", "xn--fa-hia"}, {"stra\u00dfe", "xn--strae-oqa"}, {"col\u00b7la", "xn--colla-sja"},
		{"\u043f\u0440\u0438\u043c\u0435\u0440", "xn--e1afmkfd"}, {"\u0438\u0441\u043f\u044b\u0442\u0430\u043d\u0438\u0435", "xn--80akhbyknj4f"},
		{"\u03c0\u03b1\u03c1\u03ac\u03b4\u03b5\u03b9\u03b3\u03bc\u03b1", "xn--hxajbheg2az3al"}, {"\u03b4\u03bf\u03ba\u03b9\u03bc\u03ae", "xn--jxalpdlp"}, {"\u03b2\u03cc\u03bb\u03bf\u03c2", "xn--nxasmm1c"},
		{"\u4f8b\u3048", "xn--r8jz45g"}, {"\u30c6\u30b9\u30c8", "xn--zckzah"}, {"\u4e2d\u6587", "xn--fiq228c"}, {"\ud55c\uad6d", "xn--3e0b707e"},
		{"\u0645\u062b\u0627\u0644", "xn--mgbh0fb"}, {"\u0625\u062e\u062a\u0628\u0627\u0631", "xn--kgbechtv"}, {"\u0646\u0627\u0645\u0647\u200c\u0627\u06cc", "xn--mgba3gch31f060k"}, {"\u0627\u0660", "xn--mgb8i"}, {"\u0627\u06f0", "xn--mgb61b"},
		{"\u05d3\u05d5\u05d2\u05de\u05d4", "xn--6dbbec0c"}, {"\u05d0\u05f3", "xn--4db4e"}, {"\u05d0\u05d1", "xn--4dbc"},
		{"\u092a\u0930\u0940\u0915\u094d\u0937\u093e", "xn--11b5bs3a9aj6g"}, {"\u0909\u0926\u093e\u0939\u0930\u0923", "xn--p1b6ci4b4b3a"}, {"\u0915\u094d\u200d\u0937", "xn--11b2ezcw70k"}, {"\u0928\u093e\u092e\u0947", "xn--l2bm1cwb"},
		{"\U00010428", "xn--hj8c"},
	} {
		for _, wanted := range []bool{false, true} {
			if s, fault := c.ToOld([]rune(x.shown), wanted); s != x.sent || fault != Fine {
				t.Errorf("ToOld(%q, %v) = %q, %d, want %q", x.shown, wanted, s, fault, x.sent)
			}
			for _, s := range []string{x.sent, strings.ToUpper(x.sent), "X" + x.sent[1:]} {
				if l, fault := c.FromOld(s, wanted); string(l) != x.shown || fault != Fine {
					t.Errorf("FromOld(%q, %v) = %q, %d, want %q", s, wanted, string(l), fault, x.shown)
				}
			}
		}
	}
}

func TestP16_1ToOldFaults(t *testing.T) {
	c := checker()
	u := func(n int) []rune { return append(slices.Repeat([]rune{'a'}, n), 0xFC) }
	for _, x := range []struct {
		l            []rune
		plain, asked int
	}{
		{nil, Empty, Empty}, {[]rune{'e', 0x301}, Form, Form}, {[]rune{0xFC, 'a', '-', '-'}, Hyphens, Hyphens}, {[]rune{0xFC, '-'}, Edge, Edge}, {[]rune{0x301}, Mark, Mark}, {[]rune{0xFC, 'A'}, Stands, Stands}, {[]rune{0xB7}, Rule, Rule}, {[]rune{'a', 0x5D0}, Fine, Bidi}, {[]rune("abc"), Ascii, Ascii}, {[]rune("1"), Ascii, Bidi},
		{slices.Repeat([]rune{0xFC}, 57), Fine, Fine}, {slices.Repeat([]rune{0xFC}, 58), Long, Long}, {u(55), Fine, Fine}, {u(56), Long, Long}, {u(1000), Long, Long}, {append(u(70), '_'), Stands, Stands},
		{append(u(32000), 0x10428), Long, Long}, {append(u(33000), 0x10428), Puny, Puny}, // there the delta runs over
	} {
		for _, wanted := range []bool{false, true} {
			want := x.plain
			if wanted {
				want = x.asked
			}
			s, fault := c.ToOld(x.l, wanted)
			if fault != want || (s == "") != (want != Fine) || len(s) > 63 {
				t.Errorf("ToOld(%x, %v) = %q, %d, want %d", x.l[:min(8, len(x.l))], wanted, s, fault, want)
			}
		}
	}
	if s, _ := c.ToOld(u(55), false); len(s) != 63 {
		t.Error(s)
	}
}

func TestP16_1FromOldFaults(t *testing.T) {
	c := checker()
	long := strings.Repeat("a", 60)
	for _, x := range []struct {
		s            string
		plain, asked int
	}{
		{"", Puny, Puny}, {"tda", Puny, Puny}, {"xn-tda", Puny, Puny}, {"xm--tda", Puny, Puny}, {long, Puny, Puny}, {"\u00fc", Puny, Puny},
		{"xn--t", Puny, Puny}, {"xn--td\xe1", Puny, Puny}, {"xn--\xfc-tda", Puny, Puny}, {"xn--t_a", Puny, Puny}, {"xn--99999999", Puny, Puny}, {"xn--99999zzzz", Puny, Puny}, {"xn--" + long + "_", Puny, Puny}, {"xn--" + long + "-_", Puny, Puny}, {"xn--" + strings.Repeat("9", 100), Puny, Puny},
		{"xn--" + long + "-", Long, Long}, {"xn--" + strings.Repeat("a", 56) + "-8ob", Long, Long}, {"XN--" + strings.Repeat("A", 100) + "-" + "A", Long, Long}, {"xn--_" + long + "-", Long, Long},
		{"xn--", Empty, Empty}, {"xn---", Empty, Empty}, {"xn--e-ccb", Form, Form}, {"xn--lsa", Mark, Mark}, {"xn--A-eha", Fine, Fine},
		{"xn--ab---tda", Hyphens, Hyphens}, {"xn----tda", Edge, Edge}, {"xn--a_-hka", Stands, Stands}, {"xn--a b-gsa", Stands, Stands}, {"xn--a.-hka", Stands, Stands}, {"xn--uda", Fine, Fine}, {"xn--tca", Stands, Stands}, {"xn--uba", Rule, Rule},
		{"xn--abc-", Ascii, Ascii}, {"xn--1-", Ascii, Bidi}, {"xn--ABC-", Ascii, Ascii}, {"xn--a--b-", Ascii, Ascii}, {"xn--ab--c-", Hyphens, Hyphens}, {"xn--xn--tda-", Hyphens, Hyphens}, {"xn---a-", Edge, Edge}, {"xn--a_-", Stands, Stands},
		{"xn--a-0hc", Fine, Bidi}, {"xn--4dbc", Fine, Fine}, {"xn--4DBC", Fine, Fine}, {"xN--TDA", Fine, Fine},
		{"xn---tda", Other, Other}, {"XN---TDA", Other, Other}, {"xn---4dbc", Other, Other},
	} {
		for _, wanted := range []bool{false, true} {
			want := x.plain
			if wanted {
				want = x.asked
			}
			l, fault := c.FromOld(x.s, wanted)
			if fault != want || (len(l) == 0) != (want != Fine) {
				t.Errorf("FromOld(%q, %v) = %x, %d, want %d", x.s, wanted, l, fault, want)
			}
		}
	}
}

func TestP16_1AndP16_2EachAlone(t *testing.T) {
	c, m := checker(), newModel()
	for r := rune(-3); r <= api.MaxRune+3; r++ {
		check(t, c, m, []rune{r})
	}
	for _, r := range []rune{math.MinInt32, math.MinInt32 + 1, math.MaxInt32 - 1, math.MaxInt32} {
		check(t, c, m, []rune{r})
	}
}

// signs: of each sort of code points some, and numbers that are none.
var signs = []rune{
	'a', 'l', '0', '-', 'A', '_', '.', 0xFC, 0xDF, 0x3C2, 0x3B1, 0x375, 0xB7, 0x301, 0x323, 0x903, 0x915, 0x94D, 0x93C, 0x958, 0x200C, 0x200D,
	0x5D0, 0x5F3, 0x5B4, 0x627, 0x628, 0x640, 0x660, 0x6F0, 0x30A2, 0x30FB, 0x3099, 0x4E2D, 0x3007, 0xAC00, 0x1100, 0x1161, 0x11A8, 0xFF21, 0x212B, 0xE01, 0x10428, 0x1F600,
	-1, 0xD800, 0x110000,
}

// few: signs that meet in every order, in lists of several.
var few = []rune{'a', '-', '1', 0xFC, 0x5D0, 0x301, 0xB7, 'l', '_'}

// short tells all lists of at most n of some things.
func short[T any](of []T, n int) func(yield func([]T) bool) {
	return func(yield func([]T) bool) {
		lists := [][]T{nil}
		for range n + 1 {
			var longer [][]T
			for _, l := range lists {
				if !yield(l) {
					return
				}
				for _, r := range of {
					longer = append(longer, append(slices.Clone(l), r))
				}
			}
			lists = longer
		}
	}
}

func TestP16_1AndP16_2AllShort(t *testing.T) {
	c, m := checker(), newModel()
	for l := range short(signs, 2) {
		check(t, c, m, l)
	}
	for l := range short(few, 5) {
		check(t, c, m, l)
	}
}

func TestP16_1AndP16_2AllShortOld(t *testing.T) {
	c, m := checker(), newModel()
	for s := range short([]byte("ad-tTz_09\xc3"), 5) {
		checkOld(t, c, m, "xn--"+string(s))
	}
	for s := range short([]byte("xXnN-at"), 6) {
		checkOld(t, c, m, string(s))
	}
	for s := range short([]byte("aZ0-_\x80"), 6) {
		if got, want := Old(string(s)), modelOld(s); got != want {
			t.Fatalf("Old(%q) = %d, want %d", s, got, want)
		}
	}
}

// modelOld goes by the only places that a short text has.
func modelOld(s []byte) int {
	switch n := len(s); {
	case n == 0:
		return Empty
	case strings.ContainsAny(string(s), "_\x80") || slices.Contains(s, 0x80):
		return Letters
	case s[0] == '-' || s[n-1] == '-':
		return Edge
	case n > 3 && s[2] == '-' && s[3] == '-':
		return Hyphens
	}
	return Fine
}

// scripts: what stands together in labels.
var scripts = [][]rune{
	{0xFC, 0xE9, 'a', 'b', 'l', 0xB7, '-', '1'},
	{0x5D0, 0x5D1, 0x5D2, 0x5F3, '1', '-', 0x5B4},
	{0x627, 0x628, 0x62F, 0x200C, 0x661, 0x662, 0x6F1, '1', 0x64B},
	{0x915, 0x916, 0x94D, 0x200D, 0x200C, 0x93E},
	{0x3042, 0x30A2, 0x30FB, 0x4E2D, 0x30FC},
	{0x3B1, 0x3B2, 0x375, 0x3C2, 0x3C3},
}

func drawn(draw *rand.Rand, most int) []rune {
	from := signs
	if draw.Intn(4) > 0 {
		from = scripts[draw.Intn(len(scripts))]
	}
	l := make([]rune, draw.Intn(most))
	for i := range l {
		l[i] = from[draw.Intn(len(from))]
	}
	return l
}

// spelt is a text with letters in upper case here and there.
func spelt(draw *rand.Rand, s string) string {
	out := []byte(s)
	for i := range out {
		if draw.Intn(3) == 0 {
			out[i] = strings.ToUpper(s[i : i+1])[0]
		}
	}
	return string(out)
}

func TestP16_1AndP16_2Drawn(t *testing.T) {
	c, m := checker(), newModel()
	draw := rand.New(rand.NewSource(16))
	fine := 0
	for i := range 30000 {
		l := drawn(draw, 4+i%30)
		check(t, c, m, l)
		if s, e := puny.Encode(l); e == api.OK && s != "" {
			checkOld(t, c, m, "xn--"+s)
			checkOld(t, c, m, spelt(draw, "xn--"+s))
			checkOld(t, c, m, "xn---"+s)
			cut := []byte("xn--" + s)
			cut[draw.Intn(len(cut))] = byte("abyz019-_\xff"[draw.Intn(10)])
			checkOld(t, c, m, string(cut))
		}
		if c.Fault(l, true) == Fine {
			fine++
		}
	}
	if fine < 2500 {
		t.Errorf("%d are fine", fine)
	}
}

func TestP16_1LengthsOfOld(t *testing.T) {
	c, m := checker(), newModel()
	for n := range 140 {
		for _, r := range []rune{'a', 0xFC, 0x4E2D, 0x10428, 0x5D0} {
			l := append(slices.Repeat([]rune{r}, n), 0xFC)
			check(t, c, m, l)
			s, _ := puny.Encode(l)
			checkOld(t, c, m, "xn--"+s)
			checkOld(t, c, m, "XN--"+s+"-")
		}
		want := Fine
		if n > 63 {
			want = Long
		}
		if got := Old(strings.Repeat("0", n)); n > 0 && got != want {
			t.Errorf("Old of %d = %d", n, got)
		}
	}
}

func TestP16_1WhatIsHandedInStays(t *testing.T) {
	c := checker()
	room := []rune{'e', 0x301, 0xFC, 'l', 0xB7, 'l', 0x5D0, '-', '-', 'A'}
	was := slices.Clone(room)
	for i := range room {
		for n := i; n <= len(room); n++ {
			c.Fault(room[i:n], true)
			c.ToOld(room[i:n], false)
			if !slices.Equal(room, was) {
				t.Fatalf("%x, at %d", room, n)
			}
		}
	}
}

func TestP16_1AnswersAreNew(t *testing.T) {
	c := checker()
	one, _ := c.FromOld("xn--bcher-kva", false)
	two, _ := c.FromOld("xn--bcher-kva", false)
	one = one[:cap(one)]
	for i := range one {
		one[i] = -7
	}
	if string(two) != "b\u00fccher" {
		t.Errorf("%x", two)
	}
	if l, fault := c.FromOld("xn--bcher-kva", false); string(l) != "b\u00fccher" || fault != Fine {
		t.Errorf("%x, %d", l, fault)
	}
}

func TestP16_1Long(t *testing.T) {
	c := checker()
	const many = 1 << 17
	for _, x := range []struct {
		l     []rune
		fault int
		old   int
	}{
		{[]rune{'a'}, Ascii, Ascii}, {[]rune{0xFC}, Fine, Long}, {[]rune{0x10428}, Fine, Long}, {[]rune{0xB7}, Rule, Rule}, {[]rune{'e', 0x301}, Form, Form}, {[]rune{0x660}, Fine, Long}, {[]rune{0x915, 0x94D, 0x200C}, Fine, Long}, {[]rune{'a', '_'}, Stands, Stands},
	} {
		l := slices.Repeat(x.l, many)
		if got := c.Fault(l, false); got != x.fault {
			t.Errorf("%x ..: %d", x.l, got)
		}
		if s, got := c.ToOld(l, false); s != "" || got != x.old {
			t.Errorf("%x ..: %d", x.l, got)
		}
	}
	if l, fault := c.FromOld("xn--"+strings.Repeat("a", 8*many), false); len(l) > 0 || fault != Long {
		t.Error(len(l), fault)
	}
}

func FuzzP16(f *testing.F) {
	c, m := checker(), newModel()
	for _, s := range []string{"", "a", "\u00fc", "xn--tda", "XN---TDA", "l\u00b7l", "\u05d01", "a\u05d0", "ab--c", "xn--abc-", "e\u0301"} {
		f.Add(s)
	}
	f.Fuzz(func(t *testing.T, s string) {
		check(t, c, m, []rune(s))
		checkOld(t, c, m, s)
		checkOld(t, c, m, "xn--"+s)
	})
}

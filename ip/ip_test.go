package ip

import (
	"fmt"
	"math/rand"
	"net/netip"
	"regexp"
	"strconv"
	"strings"
	"testing"
	"time"

	"moniker/lexis"
)

// The grammar of RFC 3986, as it stands there.
const (
	decOctet = `(?:[0-9]|[1-9][0-9]|1[0-9]{2}|2[0-4][0-9]|25[0-5])`
	four     = `(?:` + decOctet + `\.` + decOctet + `\.` + decOctet + `\.` + decOctet + `)`
	h16      = `[0-9A-Fa-f]{1,4}`
	ls32     = `(?:` + h16 + `:` + h16 + `|` + four + `)`
	later    = `[vV][0-9A-Fa-f]+\.[A-Za-z0-9\-._~!$&'()*+,;=:]+`
)

var (
	asFour  = regexp.MustCompile(`^` + four + `$`)
	asLater = regexp.MustCompile(`^` + later + `$`)
	asSix   = regexp.MustCompile(`^(?:` + strings.Join([]string{
		`(?:` + h16 + `:){6}` + ls32,
		`::(?:` + h16 + `:){5}` + ls32,
		`(?:` + h16 + `)?::(?:` + h16 + `:){4}` + ls32,
		`(?:(?:` + h16 + `:){0,1}` + h16 + `)?::(?:` + h16 + `:){3}` + ls32,
		`(?:(?:` + h16 + `:){0,2}` + h16 + `)?::(?:` + h16 + `:){2}` + ls32,
		`(?:(?:` + h16 + `:){0,3}` + h16 + `)?::` + h16 + `:` + ls32,
		`(?:(?:` + h16 + `:){0,4}` + h16 + `)?::` + ls32,
		`(?:(?:` + h16 + `:){0,5}` + h16 + `)?::` + h16,
		`(?:(?:` + h16 + `:){0,6}` + h16 + `)?::`,
	}, `|`) + `)$`)
)

// check holds all calls of one text against the grammar, against another reader of addresses, and against what is promised.
func check(t *testing.T, s string) {
	t.Helper()
	a4, ok4 := V4(s)
	if ok4 != asFour.MatchString(s) || !ok4 && a4 != [4]byte{} {
		t.Fatalf("V4(%q) is %v, %v", s, a4, ok4)
	}
	if ok4 && (netip.MustParseAddr(s).As4() != a4 || Text4(a4) != s) {
		t.Fatalf("V4(%q) is %v, written %q", s, a4, Text4(a4))
	}
	a6, ok6 := V6(s)
	if ok6 != asSix.MatchString(s) || !ok6 && a6 != [8]uint16{} {
		t.Fatalf("V6(%q) is %v, %v", s, a6, ok6)
	}
	if ok6 {
		if a6 != wordsOf(netip.MustParseAddr(s)) {
			t.Fatalf("V6(%q) is %v", s, a6)
		}
		checkText6(t, a6)
	}
	if Future(s) != asLater.MatchString(s) {
		t.Fatalf("Future(%q) is %v", s, Future(s))
	}
	for _, iri := range []bool{false, true} {
		for _, host := range []string{s, "[" + s + "]", "[" + s, s + "]", "[[" + s + "]]"} {
			if got, want := Host(iri, host), hostOf(iri, host); got != want {
				t.Fatalf("Host(%v, %q) is %d, not %d", iri, host, got, want)
			}
		}
	}
}

// hostOf is what the chapter says of a host.
func hostOf(iri bool, s string) int {
	if len(s) > 1 && s[0] == '[' && s[len(s)-1] == ']' {
		if in := s[1 : len(s)-1]; asSix.MatchString(in) || asLater.MatchString(in) {
			return 3
		}
	}
	if asFour.MatchString(s) {
		return 1
	}
	if lexis.All(lexis.Name, iri, s) {
		return 2
	}
	return 0
}

func wordsOf(a netip.Addr) [8]uint16 {
	var out [8]uint16
	for i, b := range a.As16() {
		out[i/2] = out[i/2]<<8 | uint16(b)
	}
	return out
}

// checkText6 holds Text6 of one address against the chapter's words and P19.2.
func checkText6(t *testing.T, a [8]uint16) {
	t.Helper()
	got := Text6(a)
	if want := text6(a); got != want {
		t.Fatalf("Text6(%v) is %q, not %q", a, got, want)
	}
	if back, ok := V6(got); !ok || back != a {
		t.Fatalf("V6(%q) is %v, %v", got, back, ok)
	}
	for _, other := range texts(a) {
		back, ok := V6(other)
		if !ok || back != a {
			t.Fatalf("V6(%q) is %v, %v, not %v", other, back, ok, a)
		}
		if len(other) < len(got)-1 {
			t.Fatalf("%q is shorter than %q by more than one byte", other, got)
		}
	}
}

// hex is words as they are written, with colons between.
func hex(l []uint16) string {
	var parts []string
	for _, w := range l {
		parts = append(parts, strconv.FormatInt(int64(w), 16))
	}
	return strings.Join(parts, ":")
}

// texts are an address's texts without noughts ahead and without an IPv4 address: with :: nowhere, and at each run of noughts.
func texts(a [8]uint16) []string {
	out := []string{hex(a[:])}
	for from := 0; from < 8; from++ {
		for to := from + 1; to <= 8 && a[to-1] == 0; to++ {
			out = append(out, hex(a[:from])+"::"+hex(a[to:]))
		}
	}
	return out
}

// text6 is an address as the chapter says that it is written.
func text6(a [8]uint16) string {
	for size := 8; size >= 2; size-- {
		for from := 0; from+size <= 8; from++ {
			all := true
			for _, w := range a[from : from+size] {
				all = all && w == 0
			}
			if all {
				return hex(a[:from]) + "::" + hex(a[from+size:])
			}
		}
	}
	return hex(a[:])
}

func TestP19_1V4(t *testing.T) {
	for s, want := range map[string][4]byte{
		"127.0.0.1": {127, 0, 0, 1}, "0.0.0.0": {}, "255.255.255.255": {255, 255, 255, 255}, "1.20.199.200": {1, 20, 199, 200}, "249.250.100.99": {249, 250, 100, 99},
	} {
		if got, ok := V4(s); !ok || got != want {
			t.Errorf("V4(%q) is %v, %v", s, got, ok)
		}
		check(t, s)
	}
	for _, s := range []string{"", ".", "...", "1", "1.2.3", "1.2.3.", ".1.2.3", "1.2.3.4.", ".1.2.3.4", "1.2.3.4.5", "1..2.3", "1.2..3.4", "256.0.0.1", "0.256.0.1", "0.0.256.1", "0.0.0.256", "300.1.1.1", "999.0.0.0", "1000.0.0.0", "0.0.0.0255", "01.0.0.1", "1.00.0.1", "1.0.001.1", "1.0.0.01", "00.0.0.0", "+1.2.3.4", "-1.2.3.4", "1.2.3.4 ", " 1.2.3.4", "1.2.3.a", "0x1.2.3.4", "1_0.2.3.4", "1.2.3.4/8", "1.2.3.\u0664", "1.2.3.\xFF", "1,2.3.4", "1.2.3.4\x00", "99999999999999999999.0.0.1"} {
		if got, ok := V4(s); ok || got != [4]byte{} {
			t.Errorf("V4(%q) is %v, %v", s, got, ok)
		}
		check(t, s)
	}
}

func TestP19_1V4AllNumbers(t *testing.T) {
	for n := range 1200 {
		for _, digits := range []string{strconv.Itoa(n), fmt.Sprintf("%02d", n), fmt.Sprintf("%03d", n), fmt.Sprintf("%04d", n)} {
			for at := range 4 {
				parts := []string{"1", "22", "133", "244"}
				parts[at] = digits
				s := strings.Join(parts, ".")
				got, ok := V4(s)
				if want := n < 256 && digits == strconv.Itoa(n); ok != want {
					t.Fatalf("V4(%q) is %v, %v", s, got, ok)
				}
				if ok && int(got[at]) != n {
					t.Fatalf("V4(%q) is %v", s, got)
				}
			}
		}
	}
}

func TestP19_1V6(t *testing.T) {
	for s, want := range map[string][8]uint16{
		"::":                      {},
		"::1":                     {7: 1},
		"1::":                     {1},
		"1::2":                    {0: 1, 7: 2},
		"1:2:3:4:5:6:7:8":         {1, 2, 3, 4, 5, 6, 7, 8},
		"1:2:3:4:5:6:7::":         {1, 2, 3, 4, 5, 6, 7},
		"::2:3:4:5:6:7:8":         {0, 2, 3, 4, 5, 6, 7, 8},
		"1::3:4:5:6:7:8":          {1, 0, 3, 4, 5, 6, 7, 8},
		"1:2:3:4:5:6::8":          {1, 2, 3, 4, 5, 6, 0, 8},
		"0000:00aF:0F:f:ffff::":   {0, 0xAF, 0xF, 0xF, 0xFFFF},
		"0:0:0:0:0:0:0:0":         {},
		"0::0":                    {},
		"::1.2.3.4":               {6: 0x102, 7: 0x304},
		"1:2:3:4:5:6:1.2.3.255":   {1, 2, 3, 4, 5, 6, 0x102, 0x3FF},
		"1:2:3:4:5::1.2.3.4":      {1, 2, 3, 4, 5, 0, 0x102, 0x304},
		"::2:3:4:5:6:1.2.3.4":     {0, 2, 3, 4, 5, 6, 0x102, 0x304},
		"::FFFF:255.255.255.255":  {5: 0xFFFF, 6: 0xFFFF, 7: 0xFFFF},
		"2001:db8:0:0:1::1":       {0x2001, 0xDB8, 0, 0, 1, 0, 0, 1},
		"ABCD:EF01:2345:6789::0A": {0xABCD, 0xEF01, 0x2345, 0x6789, 0, 0, 0, 10},
	} {
		if got, ok := V6(s); !ok || got != want {
			t.Errorf("V6(%q) is %v, %v", s, got, ok)
		}
		check(t, s)
	}
	for _, s := range []string{"", ":", ":::", "::::", "1", "1:", ":1", ":1::", "::1:", "1:::2", "1::2::3", "::1::", "1:2:3:4:5:6:7", "1:2:3:4:5:6:7:", ":2:3:4:5:6:7:8", ":1:2:3:4:5:6:7", "1:2:3:4:5:6:7:8:", "1:2:3:4:5:6:7:8:9", "1:2:3:4:5:6:7:8::", "::1:2:3:4:5:6:7:8", "1::2:3:4:5:6:7:8", "1:2:3:4::5:6:7:8", "12345::", "::00000", "g::", "::g", "1.2.3.4", "1.2.3.4::", "1.2.3.4::1", "::1.2.3.4:5", "::1.2.3", "::1.2.3.4.5", "::256.2.3.4", "::01.2.3.4", "1:2:3:4:5:6:7:1.2.3.4", "1:2:3:4:5:1.2.3.4", "1:2:3:4:5:6::1.2.3.4", "::1:2:3:4:5:6:1.2.3.4", "1:2:3:4:5:6:7::1.2.3.4", "1:1.2.3.4::", "::1%25", "::1%eth0", "[::1]", "::1 ", " ::1", "::-1", "::+1", "::0x1", "::\xFF", "::\u0661", "1::2/64", "::1\x00"} {
		if got, ok := V6(s); ok || got != [8]uint16{} {
			t.Errorf("V6(%q) is %v, %v", s, got, ok)
		}
		check(t, s)
	}
}

// Words ahead of :: and behind it, of each number, with an IPv4 address and without.
func TestP19_1V6AllNumbersOfWords(t *testing.T) {
	for ahead := range 11 {
		for behind := range 11 {
			for _, between := range []string{"::", ":", "", ":::"} {
				for _, last := range []string{"", "1.2.3.4", ":1.2.3.4", "1.2.3.4:", ":"} {
					head := strings.TrimSuffix(strings.Repeat("a:", ahead), ":")
					tail := strings.TrimSuffix(strings.Repeat("b:", behind), ":")
					check(t, head+between+tail+last)
					check(t, head+last+between+tail)
				}
			}
		}
	}
}

func TestP19_1Future(t *testing.T) {
	for s, want := range map[string]bool{
		"v1.a": true, "V1.a": true, "vF.:": true, "v0aF9.a:b": true, "v1..": true, "v1.a.b": true, "v1.-._~!$&'()*+,;=:": true,
		"": false, "v": false, "v.": false, "v1": false, "v1.": false, "v.a": false, ".a": false, "1.a": false, "vg.a": false, "v1g.a": false, "w1.a": false, "vv1.a": false, "v1.%41": false, "v1.a%": false, "v1.a/": false, "v1.@": false, "v1.[": false, "v1.\u00FC": false, "v1.a\xFF": false, "v1:a": false, "v1.a ": false, " v1.a": false, "\xFF1.a": false, "v\u0661.a": false, "v1.a\x00": false,
	} {
		if got := Future(s); got != want {
			t.Errorf("Future(%q) is %v", s, got)
		}
		check(t, s)
	}
	for b := range 256 {
		one := string([]byte{byte(b)})
		for _, s := range []string{one, one + "1.a", "v" + one + ".a", "v1" + one + ".a", "v1" + one + "a", "v1." + one, "v1.a" + one} {
			check(t, s)
		}
	}
}

func TestP19_1Host(t *testing.T) {
	for _, one := range []struct {
		s        string
		uri, iri int
	}{
		{"", Name, Name},
		{"h", Name, Name},
		{"1.2.3.4", Four, Four},
		{"256.0.0.1", Name, Name},
		{"01.0.0.1", Name, Name},
		{"1.2.3", Name, Name},
		{"1.2.3.4.", Name, Name},
		{"%31.2.3.4", Name, Name},
		{"[::1]", Literal, Literal},
		{"[::1.2.3.4]", Literal, Literal},
		{"[v1.a]", Literal, Literal},
		{"[V1.a:]", Literal, Literal},
		{"[1.2.3.4]", Wrong, Wrong},
		{"[]", Wrong, Wrong},
		{"[", Wrong, Wrong},
		{"]", Wrong, Wrong},
		{"[::1", Wrong, Wrong},
		{"::1]", Wrong, Wrong},
		{"::1", Wrong, Wrong},
		{"[[::1]]", Wrong, Wrong},
		{"[::1]a", Wrong, Wrong},
		{"a[::1]", Wrong, Wrong},
		{"[::g]", Wrong, Wrong},
		{"[a]", Wrong, Wrong},
		{"[v1.\u00FC]", Wrong, Wrong},
		{"[::1%25]", Wrong, Wrong},
		{"v1.a", Name, Name},
		{"a:b", Wrong, Wrong},
		{"a@b", Wrong, Wrong},
		{"a/b", Wrong, Wrong},
		{"a b", Wrong, Wrong},
		{"a%", Wrong, Wrong},
		{"a%4g", Wrong, Wrong},
		{"a%4G%41", Wrong, Wrong},
		{"a%20%FF", Name, Name},
		{"a_b!$&'()*+,;=~", Name, Name},
		{"\u00FC", Wrong, Name},
		{"\uE000", Wrong, Wrong},
		{"\xFC", Wrong, Wrong},
	} {
		if got := Host(false, one.s); got != one.uri {
			t.Errorf("Host(false, %q) is %d", one.s, got)
		}
		if got := Host(true, one.s); got != one.iri {
			t.Errorf("Host(true, %q) is %d", one.s, got)
		}
		check(t, one.s)
	}
}

func TestP19_1AllShort(t *testing.T) {
	var all func(s, signs string, left int)
	all = func(s, signs string, left int) {
		check(t, s)
		if left == 0 {
			return
		}
		for i := range len(signs) {
			all(s+signs[i:i+1], signs, left-1)
		}
	}
	all("", ":1", 9)
	all("", ":1.a", 5)
	all("::", ":1.0", 5)
	all("v", "1.a:g%", 4)
	all("", "[]:1v.", 4)
}

func TestP19_1Text4(t *testing.T) {
	for _, a := range [][4]byte{{}, {127, 0, 0, 1}, {255, 255, 255, 255}, {1, 10, 100, 9}, {200, 99, 0, 250}} {
		if got, want := Text4(a), fmt.Sprintf("%d.%d.%d.%d", a[0], a[1], a[2], a[3]); got != want {
			t.Errorf("Text4(%v) is %q", a, got)
		}
	}
	for at := range 4 {
		for n := range 256 {
			a := [4]byte{7, 77, 177, 0}
			a[at] = byte(n)
			if back, ok := V4(Text4(a)); !ok || back != a {
				t.Fatalf("%v is written %q", a, Text4(a))
			}
		}
	}
}

func TestP19_1Text6(t *testing.T) {
	for _, one := range []struct {
		a    [8]uint16
		want string
	}{
		{[8]uint16{}, "::"},
		{[8]uint16{7: 1}, "::1"},
		{[8]uint16{1}, "1::"},
		{[8]uint16{1, 0, 0, 2, 0, 0, 0, 3}, "1:0:0:2::3"},
		{[8]uint16{1, 0, 0, 2, 3, 0, 0, 4}, "1::2:3:0:0:4"},
		{[8]uint16{0, 0, 1, 0, 0, 1, 0, 0}, "::1:0:0:1:0:0"},
		{[8]uint16{1, 0, 2, 0, 3, 0, 4, 0}, "1:0:2:0:3:0:4:0"},
		{[8]uint16{0, 1, 2, 3, 4, 5, 6, 7}, "0:1:2:3:4:5:6:7"},
		{[8]uint16{1, 2, 3, 4, 5, 6, 7, 0}, "1:2:3:4:5:6:7:0"},
		{[8]uint16{1, 2, 3, 4, 5, 6, 0, 0}, "1:2:3:4:5:6::"},
		{[8]uint16{0, 0, 3, 4, 5, 6, 7, 8}, "::3:4:5:6:7:8"},
		{[8]uint16{5: 0xFFFF, 6: 0x102, 7: 0x304}, "::ffff:102:304"},
		{[8]uint16{0xABCD, 0xEF, 0xF, 0x1000, 0, 1, 0, 0xFFFF}, "abcd:ef:f:1000:0:1:0:ffff"},
	} {
		if got := Text6(one.a); got != one.want {
			t.Errorf("Text6(%v) is %q, not %q", one.a, got, one.want)
		}
		checkText6(t, one.a)
	}
}

// Each choice of which words are noughts, beside words of each number of digits.
func TestP19_2AllChoicesOfNoughts(t *testing.T) {
	for choice := range 256 {
		for _, w := range []uint16{1, 0xF, 0x10, 0xABC, 0x1000, 0xFFFF} {
			var a [8]uint16
			for i := range a {
				if choice>>i&1 == 1 {
					a[i] = w
				}
			}
			checkText6(t, a)
		}
	}
}

func TestP19_2Drawn(t *testing.T) {
	r := rand.New(rand.NewSource(192))
	for range 20000 {
		var a [8]uint16
		for i := range a {
			if r.Intn(2) == 0 {
				a[i] = uint16(r.Intn(1 << 16 >> (4 * r.Intn(4))))
			}
		}
		checkText6(t, a)
		b := [4]byte{byte(r.Intn(256)), byte(r.Intn(256)), byte(r.Intn(256)), byte(r.Intn(256))}
		check(t, Text4(b))
		check(t, hex(a[:6])+":"+Text4(b))
		check(t, padded(r, a))
	}
}

// padded is one of an address's texts, with noughts ahead and letters of any case.
func padded(r *rand.Rand, a [8]uint16) string {
	var parts []string
	for _, w := range a {
		part := fmt.Sprintf([]string{"%x", "%X", "%02x", "%03X", "%04x"}[r.Intn(5)], w)
		parts = append(parts, part)
	}
	return strings.Join(parts, ":")
}

func TestP19_1Drawn(t *testing.T) {
	r := rand.New(rand.NewSource(191))
	pieces := []string{":", "::", ":", ".", "1", "0", "f", "F", "abcd", "00", "255", "256", "1.2.3.4", "v", "V", "g", "[", "]", "%41", "%", "ü", "\xFF", "1:2:3", "a:b:c:d:e"}
	for range 30000 {
		var s strings.Builder
		for range r.Intn(9) {
			s.WriteString(pieces[r.Intn(len(pieces))])
		}
		check(t, s.String())
	}
}

func TestP19_1Long(t *testing.T) {
	begun := time.Now()
	for _, piece := range []string{"1", "0", ":", "::", "1:", ".", "1.", "a", "%41", "[", "v"} {
		s := strings.Repeat(piece, 1<<20)
		if _, ok := V4(s); ok {
			t.Errorf("%q many times is an IPv4 address", piece)
		}
		if _, ok := V6(s); ok {
			t.Errorf("%q many times is an IPv6 address", piece)
		}
		if Future(s) || !Future("v"+strings.Repeat("a", 1<<20)+"."+strings.Repeat(":", 1<<20)) {
			t.Errorf("%q many times is told wrongly", piece)
		}
		Host(true, s)
		Host(false, "["+s+"]")
	}
	if took := time.Since(begun); took > 20*time.Second {
		t.Errorf("long texts took %v", took)
	}
}

func FuzzP19(f *testing.F) {
	for _, s := range []string{"::1", "1:2:3:4:5:6:1.2.3.4", "1:0:0:2::3", "v1.a", "256.0.0.1"} {
		f.Add(s)
	}
	f.Fuzz(func(t *testing.T, s string) { check(t, s) })
}

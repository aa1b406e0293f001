package seat

import (
	"math/rand"
	"strings"
	"testing"
	"time"
	"unicode/utf8"

	"moniker/api"
	"moniker/ip"
	"moniker/lexis"
)

// of is a seat of texts: a user or a port isn't there if its text is "-".
func of(user, host, port string) api.Seat {
	x := api.Seat{Host: host}
	if user != "-" {
		x.HasUser, x.User = true, user
	}
	if port != "-" {
		x.HasPort, x.Port = true, port
	}
	return x
}

// partModel says the chapter's words, step by step.
func partModel(text string) api.Seat {
	var x api.Seat
	s := []byte(text)
	for i := len(s) - 1; i >= 0; i-- {
		if s[i] == '@' {
			x.HasUser, x.User, s = true, string(s[:i]), s[i+1:]
			break
		}
	}
	if len(s) > 0 && s[0] == '[' {
		for i, b := range s {
			if b != ']' {
				continue
			}
			x.Host, s = string(s[:i+1]), s[i+1:]
			if len(s) > 0 && s[0] == ':' {
				x.HasPort, x.Port = true, string(s[1:])
			} else {
				x.Host += string(s)
			}
			return x
		}
	}
	for i, b := range s {
		if b == ':' {
			x.Host, x.HasPort, x.Port = string(s[:i]), true, string(s[i+1:])
			return x
		}
	}
	x.Host = string(s)
	return x
}

func joinModel(x api.Seat) string {
	var b strings.Builder
	if x.HasUser {
		b.WriteString(x.User)
		b.WriteByte('@')
	}
	b.WriteString(x.Host)
	if x.HasPort {
		b.WriteByte(':')
		b.WriteString(x.Port)
	}
	return b.String()
}

// rightModel is the grammar of RFC 3986 and 3987; hosts are asked of the layer below, whose tests hold its words.
func rightModel(iri bool, x api.Seat) bool {
	if x.HasUser && !userModel(iri, x.User) {
		return false
	}
	if ip.Host(iri, x.Host) == ip.Wrong {
		return false
	}
	for i := 0; x.HasPort && i < len(x.Port); i++ {
		if x.Port[i] < '0' || x.Port[i] > '9' {
			return false
		}
	}
	return true
}

// userModel tells whether a text is unreserved and subordinate signs, colons and escapes alone, and code points of an IRI.
func userModel(iri bool, s string) bool {
	for len(s) > 0 {
		if len(s) >= 3 && s[0] == '%' && isHex(s[1]) && isHex(s[2]) {
			s = s[3:]
			continue
		}
		r, n := utf8.DecodeRuneInString(s)
		switch {
		case r == utf8.RuneError && n == 1:
			return false
		case r < 0x80 && !strings.ContainsRune("abcdefghijklmnopqrstuvwxyzABCDEFGHIJKLMNOPQRSTUVWXYZ0123456789-._~!$&'()*+,;=:", r):
			return false
		case r >= 0x80 && !(iri && lexis.Common(r)):
			return false
		}
		s = s[n:]
	}
	return true
}

func isHex(b byte) bool { return strings.IndexByte("0123456789abcdefABCDEF", b) >= 0 }

// checkText holds what is told of a text against the models and the promises.
func checkText(t *testing.T, s string) {
	t.Helper()
	x := Part(s)
	if want := partModel(s); x != want {
		t.Fatalf("Part(%q) is %+v, not %+v", s, x, want)
	}
	if back := Join(x); back != s {
		t.Fatalf("Join(Part(%q)) is %q", s, back)
	}
	for _, iri := range []bool{false, true} {
		got, ok := Parse(iri, s)
		if ok != rightModel(iri, x) || ok && got != x || !ok && got != (api.Seat{}) {
			t.Fatalf("Parse(%v, %q) is %+v, %v", iri, s, got, ok)
		}
	}
	checkSeat(t, x)
}

// checkSeat holds what is told of three parts against the models and the promises.
func checkSeat(t *testing.T, x api.Seat) {
	t.Helper()
	s := Join(x)
	if want := joinModel(x); s != want {
		t.Fatalf("Join(%+v) is %q, not %q", x, s, want)
	}
	there := x
	if !x.HasUser {
		there.User = ""
	}
	if !x.HasPort {
		there.Port = ""
	}
	for _, iri := range []bool{false, true} {
		right := Right(iri, x)
		if right != rightModel(iri, x) {
			t.Fatalf("Right(%v, %+v) is %v", iri, x, right)
		}
		if right != Right(iri, there) {
			t.Fatalf("Right(%v, %+v) hangs on what isn't there", iri, x)
		}
		if !right {
			continue
		}
		if got, ok := Parse(iri, s); !ok || got != there {
			t.Fatalf("%+v is right, but Parse(%v, %q) is %+v, %v", x, iri, s, got, ok)
		}
	}
	if Right(false, x) && !Right(true, x) {
		t.Fatalf("%+v is right of a URI alone", x)
	}
}

func TestP21_1Part(t *testing.T) {
	for _, x := range []struct {
		s    string
		want api.Seat
	}{
		{"", of("-", "", "-")},
		{"u@h:80", of("u", "h", "80")},
		{"[::1]:", of("-", "[::1]", "")},
		{"u:p@[::1]:80", of("u:p", "[::1]", "80")},
		{"@", of("", "", "-")},
		{":", of("-", "", "")},
		{"@:", of("", "", "")},
		{":@", of(":", "", "-")},
		{"a@b@c", of("a@b", "c", "-")},
		{"a@@", of("a@", "", "-")},
		{"u@", of("u", "", "-")},
		{"h", of("-", "h", "-")},
		{"h:", of("-", "h", "")},
		{"h:1:2", of("-", "h", "1:2")},
		{"::1", of("-", "", ":1")},
		{"h:@p", of("h:", "p", "-")},
		{"[", of("-", "[", "-")},
		{"]", of("-", "]", "-")},
		{"[]", of("-", "[]", "-")},
		{"[]:1", of("-", "[]", "1")},
		{"[]]", of("-", "[]]", "-")},
		{"[]x:1", of("-", "[]x:1", "-")},
		{"[::1]x", of("-", "[::1]x", "-")},
		{"[::1]x:80", of("-", "[::1]x:80", "-")},
		{"[::1]:80]", of("-", "[::1]", "80]")},
		{"[::1][::2]:80", of("-", "[::1][::2]:80", "-")},
		{"[::1", of("-", "[", ":1")},
		{"a[::1]:80", of("-", "a[", ":1]:80")},
		{"a]:80", of("-", "a]", "80")},
		{"[a@b]:1", of("[a", "b]", "1")},
		{"[u]@[h]:1", of("[u]", "[h]", "1")},
		{"u]@[h:1", of("u]", "[h", "1")},
		{"\xff@\xfe:\x00", of("\xff", "\xfe", "\x00")},
		{"a/b?c#d", of("-", "a/b?c#d", "-")},
	} {
		if got := Part(x.s); got != x.want {
			t.Errorf("Part(%q) is %+v, not %+v", x.s, got, x.want)
		}
		checkText(t, x.s)
	}
}

func TestP21_1Join(t *testing.T) {
	for _, x := range []struct {
		x    api.Seat
		want string
	}{
		{api.Seat{}, ""},
		{of("u", "h", "80"), "u@h:80"},
		{of("", "", ""), "@:"},
		{of("-", "h", ""), "h:"},
		{api.Seat{User: "u", Host: "h", Port: "80"}, "h"},
		{of("@", "@:", ":"), "@@@:::"},
	} {
		if got := Join(x.x); got != x.want {
			t.Errorf("Join(%+v) is %q, not %q", x.x, got, x.want)
		}
		checkSeat(t, x.x)
	}
}

func TestP21_1Right(t *testing.T) {
	for _, x := range []struct {
		x        api.Seat
		uri, iri bool
	}{
		{api.Seat{}, true, true},
		{of("u", "h", "80"), true, true},
		{of("", "", ""), true, true},
		{of("a:b%40;=", "h", "-"), true, true},
		{of("a@b", "h", "-"), false, false},
		{of("a/", "h", "-"), false, false},
		{of("[", "h", "-"), false, false},
		{of("%4", "h", "-"), false, false},
		{of("\u00fc", "h", "-"), false, true},
		{of("\ue000", "h", "-"), false, false},
		{of("\xfc", "h", "-"), false, false},
		{api.Seat{User: "@\xff", Host: "h"}, true, true},
		{of("-", "[::1]", "1"), true, true},
		{of("-", "[v1.:]", "1"), true, true},
		{of("-", "[::1", "1"), false, false},
		{of("-", "[::1]x", "-"), false, false},
		{of("-", "::1", "-"), false, false},
		{of("-", "[\u00fc]", "-"), false, false},
		{of("-", "1.2.3.4", "-"), true, true},
		{of("-", "1.2.3.256", "-"), true, true},
		{of("-", "%zz", "-"), false, false},
		{of("-", "a b", "-"), false, false},
		{of("-", "\u00fc", "-"), false, true},
		{of("-", "h", "0"), true, true},
		{of("-", "h", "00000000000000000000099999"), true, true},
		{of("-", "h", "a"), false, false},
		{of("-", "h", "1a"), false, false},
		{of("-", "h", "-1"), false, false},
		{of("-", "h", " "), false, false},
		{of("-", "h", "%31"), false, false},
		{of("-", "h", "\u0661"), false, false},
		{of("-", "h", "1:2"), false, false},
		{api.Seat{Host: "h", Port: "\xff"}, true, true},
	} {
		if uri, iri := Right(false, x.x), Right(true, x.x); uri != x.uri || iri != x.iri {
			t.Errorf("%+v is right: %v, of an IRI %v", x.x, uri, iri)
		}
		checkSeat(t, x.x)
	}
}

func TestP21_1Parse(t *testing.T) {
	for _, x := range []struct {
		s        string
		uri, iri bool
	}{
		{"", true, true},
		{"u:p@[::1]:80", true, true},
		{"h:", true, true},
		{"@:", true, true},
		{"h:a", false, false},
		{"a@b@c", false, false},
		{"[::1]x", false, false},
		{"[::1]x:1", false, false},
		{"[::1", false, false},
		{"::1", false, false},
		{"h:1:2", false, false},
		{"\u00fc", false, true},
		{"\u00fc@\u00fc:1", false, true},
		{"h:\u00fc", false, false},
		{"\xfc", false, false},
	} {
		for _, iri := range []bool{false, true} {
			want, got := api.Seat{}, x.uri
			if iri {
				got = x.iri
			}
			if got {
				want = partModel(x.s)
			}
			if y, ok := Parse(iri, x.s); ok != got || y != want {
				t.Errorf("Parse(%v, %q) is %+v, %v", iri, x.s, y, ok)
			}
		}
		checkText(t, x.s)
	}
}

// each calls for all texts of a set's signs, up to a length.
func each(signs []string, most int, call func(string)) {
	call("")
	if most == 0 {
		return
	}
	for _, sign := range signs {
		each(signs, most-1, func(rest string) { call(sign + rest) })
	}
}

func TestP21_1AndP21_2AllShort(t *testing.T) {
	each([]string{"@", ":", "[", "]", "1", "::1"}, 6, func(s string) { checkText(t, s) })
	each([]string{"@", ":", "[", "]", "a", "%", "%41", "/", "\u00fc", "\ue000", "\xff"}, 4, func(s string) { checkText(t, s) })
}

func TestP21_1AndP21_3AllShortParts(t *testing.T) {
	var list []string
	each([]string{"@", ":", "[", "]", "1", "a", "\u00fc"}, 2, func(s string) { list = append(list, s) })
	hosts := append([]string{"[::1]", "[::]", "[1:2:3:4:5:6:7:8]", "[v1.a]", "[v1.:]", "[v.a]", "[::1]]", "[[::1]", "1.2.3.4", "a.b", "%41"}, list...)
	var x api.Seat
	for _, x.User = range list {
		for _, x.Host = range hosts {
			for _, x.Port = range list {
				for there := range 4 {
					x.HasUser, x.HasPort = there&1 != 0, there&2 != 0
					checkSeat(t, x)
				}
			}
		}
	}
}

func TestP21_1AndP21_3Drawn(t *testing.T) {
	r := rand.New(rand.NewSource(21))
	signs := []string{"a", "B", "1", "0", "::", ":", "@", "[", "]", "[::1]", "[v1.x]", "1.2.3.4", ".", "-", "~", "!", "$", ";", "=", "%41", "%", "\u00fc", "\ufdd0", "\ue000", "\U0001f600", "\U0001fffe", "\xff", "\x00", "/", "?", "#", " "}
	draw := func(most int) string {
		var b strings.Builder
		for range r.Intn(most + 1) {
			b.WriteString(signs[r.Intn(len(signs))])
		}
		return b.String()
	}
	for range 100000 {
		checkText(t, draw(8))
		checkSeat(t, api.Seat{HasUser: r.Intn(2) == 0, User: draw(3), Host: draw(2), HasPort: r.Intn(2) == 0, Port: draw(2)})
	}
}

func TestP21_1EachByte(t *testing.T) {
	for b := range 256 {
		s := string([]byte{byte(b)})
		for _, text := range []string{s, s + "@", "@" + s, "a" + s + "b", ":" + s, "[" + s + "]", "[::1]" + s, "[::1" + s, "[v1." + s + "]:1"} {
			checkText(t, text)
		}
		checkSeat(t, of(s, "h", "1"))
		checkSeat(t, of("u", s, "1"))
		checkSeat(t, of("u", "h", s))
		checkSeat(t, of("u", "h", "1"+s))
	}
}

func TestP21_1Long(t *testing.T) {
	begin := time.Now()
	for _, s := range []string{"a", "1", "@", ":", "[", "]", "[]", "%41", "\u00fc", "1:"} {
		long := strings.Repeat(s, 1<<17)
		for _, text := range []string{long, "u@" + long, "[" + long + "]", "h:" + long, "[::1]" + long, long + "@h:1"} {
			checkText(t, text)
		}
	}
	if took := time.Since(begin); took > 20*time.Second {
		t.Errorf("long texts took %v", took)
	}
}

func FuzzText(f *testing.F) {
	f.Add("u:p@[::1]:80")
	f.Add("[::1]x:1")
	f.Fuzz(func(t *testing.T, s string) { checkText(t, s) })
}

func FuzzSeat(f *testing.F) {
	f.Add(true, "u", "[::1]", true, "80")
	f.Fuzz(func(t *testing.T, u bool, user, host string, p bool, port string) {
		checkSeat(t, api.Seat{HasUser: u, User: user, Host: host, HasPort: p, Port: port})
	})
}

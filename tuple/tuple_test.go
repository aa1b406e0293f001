package tuple

import (
	"math/rand"
	"regexp"
	"strings"
	"testing"
	"time"

	"moniker/api"
)

// parts is components of texts: an authority, a query or a fragment isn't there if its text is "-".
func parts(scheme, authority, path, query, fragment string) api.Parts {
	p := api.Parts{Scheme: scheme, Path: path}
	if authority != "-" {
		p.HasAuthority, p.Authority = true, authority
	}
	if query != "-" {
		p.HasQuery, p.Query = true, query
	}
	if fragment != "-" {
		p.HasFragment, p.Fragment = true, fragment
	}
	return p
}

// appendixB is the expression of RFC 3986, appendix B, that takes line feeds, too.
var appendixB = regexp.MustCompile(`(?s)^(([^:/?#]+):)?(//([^/?#]*))?([^?#]*)(\?([^#]*))?(#(.*))?$`)

func byAppendixB(s string) api.Parts {
	at := appendixB.FindStringSubmatchIndex(s)
	group := func(n int) (string, bool) {
		if at[2*n] < 0 {
			return "", false
		}
		return s[at[2*n]:at[2*n+1]], true
	}
	var p api.Parts
	p.Scheme, _ = group(2)
	_, p.HasAuthority = group(3)
	p.Authority, _ = group(4)
	p.Path, _ = group(5)
	_, p.HasQuery = group(6)
	p.Query, _ = group(7)
	_, p.HasFragment = group(8)
	p.Fragment, _ = group(9)
	return p
}

// upToModel is how many bytes of a list stand ahead of the first one of a set.
func upToModel(s []byte, set string) int {
	for i, b := range s {
		for j := range len(set) {
			if set[j] == b {
				return i
			}
		}
	}
	return len(s)
}

// splitModel says the chapter's words, step by step.
func splitModel(text string) api.Parts {
	var p api.Parts
	s := []byte(text)
	if n := upToModel(s, ":/?#"); n > 0 && n < len(s) && s[n] == ':' {
		p.Scheme, s = string(s[:n]), s[n+1:]
	}
	if len(s) >= 2 && s[0] == '/' && s[1] == '/' {
		s = s[2:]
		n := upToModel(s, "/?#")
		p.HasAuthority, p.Authority, s = true, string(s[:n]), s[n:]
	}
	n := upToModel(s, "?#")
	p.Path, s = string(s[:n]), s[n:]
	if len(s) > 0 && s[0] == '?' {
		s = s[1:]
		n := upToModel(s, "#")
		p.HasQuery, p.Query, s = true, string(s[:n]), s[n:]
	}
	if len(s) > 0 && s[0] == '#' {
		p.HasFragment, p.Fragment = true, string(s[1:])
	}
	return p
}

// joinModel is RFC 3986, section 5.3.
func joinModel(p api.Parts) string {
	var b strings.Builder
	if p.Scheme != "" {
		b.WriteString(p.Scheme)
		b.WriteByte(':')
	}
	if p.HasAuthority {
		b.WriteString("//")
		b.WriteString(p.Authority)
	}
	b.WriteString(p.Path)
	if p.HasQuery {
		b.WriteByte('?')
		b.WriteString(p.Query)
	}
	if p.HasFragment {
		b.WriteByte('#')
		b.WriteString(p.Fragment)
	}
	return b.String()
}

// head is a path's bytes ahead of its first slash.
func head(path string) string { return strings.SplitN(path, "/", 2)[0] }

// othersFit tells what the chapter asks of all but the path's beginning.
func othersFit(p api.Parts) bool {
	switch {
	case !p.HasAuthority && p.Authority != "", !p.HasQuery && p.Query != "", !p.HasFragment && p.Fragment != "":
		return false
	}
	return !strings.ContainsAny(p.Scheme, ":/?#") && !strings.ContainsAny(p.Authority, "/?#") &&
		!strings.ContainsAny(p.Path, "?#") && !strings.Contains(p.Query, "#")
}

// fitsModel is the chapter's list of what fits.
func fitsModel(p api.Parts) bool {
	if !othersFit(p) {
		return false
	}
	if p.HasAuthority {
		return p.Path == "" || p.Path[0] == '/'
	}
	if strings.HasPrefix(p.Path, "//") {
		return false
	}
	return p.Scheme != "" || strings.Index(head(p.Path), ":") <= 0
}

// guardModel is the chapter's list of what stands ahead of a path.
func guardModel(p api.Parts) api.Parts {
	switch {
	case !p.HasAuthority && strings.HasPrefix(p.Path, "//"):
		p.Path = "/." + p.Path
	case !p.HasAuthority && p.Scheme == "" && strings.Contains(head(p.Path), ":"):
		p.Path = "./" + p.Path
	case p.HasAuthority && p.Path != "" && p.Path[0] != '/':
		p.Path = "/" + p.Path
	}
	return p
}

// cleanModel is components of which nothing stays that isn't there.
func cleanModel(p api.Parts) api.Parts {
	out := api.Parts{Scheme: p.Scheme, Path: p.Path, HasAuthority: p.HasAuthority, HasQuery: p.HasQuery, HasFragment: p.HasFragment}
	if p.HasAuthority {
		out.Authority = p.Authority
	}
	if p.HasQuery {
		out.Query = p.Query
	}
	if p.HasFragment {
		out.Fragment = p.Fragment
	}
	return out
}

// checkText holds what is told of a text against the models and the promises.
func checkText(t *testing.T, s string) {
	t.Helper()
	p := Split(s)
	if want := splitModel(s); p != want {
		t.Fatalf("Split(%q) is %+v, not %+v", s, p, want)
	}
	if want := byAppendixB(s); p != want {
		t.Fatalf("Split(%q) is %+v, by appendix B %+v", s, p, want)
	}
	if back := Join(p); back != s {
		t.Fatalf("Join(Split(%q)) is %q", s, back)
	}
	if !Fits(p) || Clean(p) != p {
		t.Fatalf("Split(%q) is %+v: fits is %v, clean it is %+v", s, p, Fits(p), Clean(p))
	}
	checkParts(t, p)
}

// checkParts holds what is told of components against the models and the promises.
func checkParts(t *testing.T, p api.Parts) {
	t.Helper()
	s := Join(p)
	if want := joinModel(p); s != want {
		t.Fatalf("Join(%+v) is %q, not %q", p, s, want)
	}
	fits := Fits(p)
	if want := fitsModel(p); fits != want {
		t.Fatalf("Fits(%+v) is %v", p, fits)
	}
	if same := Split(s) == p; same != fits {
		t.Fatalf("Split(Join(%+v)) is %+v, but Fits is %v", p, Split(s), fits)
	}
	clean := Clean(p)
	if want := cleanModel(p); clean != want || Join(clean) != s {
		t.Fatalf("Clean(%+v) is %+v, not %+v", p, clean, want)
	}
	guarded := Guard(p)
	if want := guardModel(p); guarded != want {
		t.Fatalf("Guard(%+v) is %+v, not %+v", p, guarded, want)
	}
	if Guard(guarded) != guarded {
		t.Fatalf("Guard of %+v, which is guarded, is %+v", guarded, Guard(guarded))
	}
	if Fits(guarded) != othersFit(p) {
		t.Fatalf("Fits(%+v), which is guarded, is %v", guarded, Fits(guarded))
	}
}

func TestP20_1Split(t *testing.T) {
	for _, x := range []struct {
		s    string
		want api.Parts
	}{
		{"", parts("", "-", "", "-", "-")},
		{"a://b/c?d#e", parts("a", "b", "/c", "d", "e")},
		{":x", parts("", "-", ":x", "-", "-")},
		{":", parts("", "-", ":", "-", "-")},
		{"::", parts("", "-", "::", "-", "-")},
		{":a:b", parts("", "-", ":a:b", "-", "-")},
		{"://b", parts("", "-", "://b", "-", "-")},
		{"a:", parts("a", "-", "", "-", "-")},
		{"a::", parts("a", "-", ":", "-", "-")},
		{"a:b:c", parts("a", "-", "b:c", "-", "-")},
		{"a:/", parts("a", "-", "/", "-", "-")},
		{"a:/b", parts("a", "-", "/b", "-", "-")},
		{"a://", parts("a", "", "", "-", "-")},
		{"a:///", parts("a", "", "/", "-", "-")},
		{"a:////b", parts("a", "", "//b", "-", "-")},
		{"a:?", parts("a", "-", "", "", "-")},
		{"a:#", parts("a", "-", "", "-", "")},
		{"a:?#", parts("a", "-", "", "", "")},
		{"/", parts("", "-", "/", "-", "-")},
		{"//", parts("", "", "", "-", "-")},
		{"///", parts("", "", "/", "-", "-")},
		{"//h:80", parts("", "h:80", "", "-", "-")},
		{"//h?q", parts("", "h", "", "q", "-")},
		{"//h#f", parts("", "h", "", "-", "f")},
		{"//?", parts("", "", "", "", "-")},
		{"/a:b", parts("", "-", "/a:b", "-", "-")},
		{"a/b:c", parts("", "-", "a/b:c", "-", "-")},
		{"a/b//c", parts("", "-", "a/b//c", "-", "-")},
		{"?", parts("", "-", "", "", "-")},
		{"?a:b", parts("", "-", "", "a:b", "-")},
		{"a?b:c", parts("", "-", "a", "b:c", "-")},
		{"a#b:c", parts("", "-", "a", "-", "b:c")},
		{"?a?b/c", parts("", "-", "", "a?b/c", "-")},
		{"?//a#b", parts("", "-", "", "//a", "b")},
		{"#", parts("", "-", "", "-", "")},
		{"#?", parts("", "-", "", "-", "?")},
		{"##//a?b", parts("", "-", "", "-", "#//a?b")},
		{"a#b?c#d", parts("", "-", "a", "-", "b?c#d")},
		{"%zz:\x00\xff", parts("%zz", "-", "\x00\xff", "-", "-")},
		{"\u00fc://\u00fc/\u00fc?\u00fc#\u00fc", parts("\u00fc", "\u00fc", "/\u00fc", "\u00fc", "\u00fc")},
		{" :\n", parts(" ", "-", "\n", "-", "-")},
	} {
		if got := Split(x.s); got != x.want {
			t.Errorf("Split(%q) is %+v, not %+v", x.s, got, x.want)
		}
		checkText(t, x.s)
	}
}

func TestP20_1Join(t *testing.T) {
	for _, x := range []struct {
		p    api.Parts
		want string
	}{
		{api.Parts{}, ""},
		{parts("a", "b", "/c", "d", "e"), "a://b/c?d#e"},
		{parts("a", "", "", "", ""), "a://?#"},
		{parts("", "b", "c", "-", "-"), "//bc"},
		{parts(":", "/", "?", "#", ""), "::///??##"},
		{api.Parts{Authority: "b", Path: "c", Query: "d", Fragment: "e"}, "c"},
		{parts("a", "-", "//c", "-", "-"), "a://c"},
		{parts("\xff", "\xfe", "\xfd", "\xfc", "\x00"), "\xff://\xfe\xfd?\xfc#\x00"},
	} {
		if got := Join(x.p); got != x.want {
			t.Errorf("Join(%+v) is %q, not %q", x.p, got, x.want)
		}
		checkParts(t, x.p)
	}
}

func TestP20_1Fits(t *testing.T) {
	for _, x := range []struct {
		p    api.Parts
		want bool
	}{
		{api.Parts{}, true},
		{parts("a", "b", "/c", "d", "e"), true},
		{api.Parts{Authority: "a"}, false},
		{api.Parts{Query: "a"}, false},
		{api.Parts{Fragment: "a"}, false},
		{api.Parts{HasAuthority: true, HasQuery: true, HasFragment: true}, true},
		{parts(":", "-", "", "-", "-"), false},
		{parts("a:", "-", "", "-", "-"), false},
		{parts("a/", "-", "", "-", "-"), false},
		{parts("a?", "-", "", "-", "-"), false},
		{parts("a#", "-", "", "-", "-"), false},
		{parts("1%", "-", "", "-", "-"), true},
		{parts("", "a:b@c", "", "-", "-"), true},
		{parts("", "a/", "", "-", "-"), false},
		{parts("", "a?", "", "-", "-"), false},
		{parts("", "a#", "", "-", "-"), false},
		{parts("a", "-", "b?", "-", "-"), false},
		{parts("a", "-", "b#", "-", "-"), false},
		{parts("a", "-", "", "b#", "-"), false},
		{parts("a", "-", "", "b?/:", "-"), true},
		{parts("a", "-", "", "-", "b#?/:"), true},
		{parts("", "a", "b", "-", "-"), false},
		{parts("", "a", "/", "-", "-"), true},
		{parts("", "a", "//", "-", "-"), true},
		{parts("", "", "//", "-", "-"), true},
		{parts("a", "-", "//", "-", "-"), false},
		{parts("", "-", "//", "-", "-"), false},
		{parts("", "-", "/", "-", "-"), true},
		{parts("", "-", "a//b", "-", "-"), true},
		{parts("", "-", "a:b", "-", "-"), false},
		{parts("", "-", "a:", "-", "-"), false},
		{parts("", "-", ":", "-", "-"), true},
		{parts("", "-", ":a:b", "-", "-"), true},
		{parts("", "-", "a/b:c", "-", "-"), true},
		{parts("", "-", "/b:c", "-", "-"), true},
		{parts("s", "-", "a:b", "-", "-"), true},
		{parts("", "", "/a:b", "-", "-"), true},
	} {
		if got := Fits(x.p); got != x.want {
			t.Errorf("Fits(%+v) is %v", x.p, got)
		}
		checkParts(t, x.p)
	}
}

func TestP20_1Guard(t *testing.T) {
	for _, x := range []struct {
		p    api.Parts
		want string
	}{
		{api.Parts{}, ""},
		{parts("a", "-", "//b", "-", "-"), "/.//b"},
		{parts("", "-", "//b", "-", "-"), "/.//b"},
		{parts("", "-", "//", "-", "-"), "/.//"},
		{parts("", "-", "///", "-", "-"), "/.///"},
		{parts("", "-", "//a:b", "-", "-"), "/.//a:b"},
		{parts("", "-", "/.//b", "-", "-"), "/.//b"},
		{parts("", "-", "/a", "-", "-"), "/a"},
		{parts("", "-", "a:b", "-", "-"), "./a:b"},
		{parts("", "-", ":", "-", "-"), "./:"},
		{parts("", "-", ":a", "-", "-"), "./:a"},
		{parts("", "-", "a:/b", "-", "-"), "./a:/b"},
		{parts("", "-", "a/:", "-", "-"), "a/:"},
		{parts("", "-", "/:", "-", "-"), "/:"},
		{parts("", "-", "a?:", "-", "-"), "./a?:"},
		{parts("a", "-", "b:c", "-", "-"), "b:c"},
		{parts("a", "-", ":", "-", "-"), ":"},
		{parts("", "", "", "-", "-"), ""},
		{parts("", "", "b", "-", "-"), "/b"},
		{parts("", "", "a:b", "-", "-"), "/a:b"},
		{parts("a", "h", "?", "-", "-"), "/?"},
		{parts("a", "h", "//b", "-", "-"), "//b"},
		{parts("a", "h", "/b", "-", "-"), "/b"},
	} {
		got := Guard(x.p)
		if got.Path != x.want {
			t.Errorf("Guard(%+v) has the path %q, not %q", x.p, got.Path, x.want)
		}
		got.Path = x.p.Path
		if got != x.p {
			t.Errorf("Guard(%+v) changes more than the path", x.p)
		}
		checkParts(t, x.p)
	}
}

func TestP20_1GuardAndCleanKeepTheRest(t *testing.T) {
	p := api.Parts{Scheme: ":", Authority: "b", Path: "//c", Query: "d", Fragment: "e"}
	want := p
	want.Path = "/.//c"
	if got := Guard(p); got != want {
		t.Errorf("Guard(%+v) is %+v", p, got)
	}
	if got := Clean(p); got != (api.Parts{Scheme: ":", Path: "//c"}) {
		t.Errorf("Clean(%+v) is %+v", p, got)
	}
	full := parts(":", "/", "?", "#", "")
	if got := Clean(full); got != full {
		t.Errorf("Clean(%+v) is %+v", full, got)
	}
}

// each calls for all texts of a set's signs, up to a length.
func each(signs []string, most int, call func(string)) {
	call("")
	if most == 0 {
		return
	}
	for _, sign := range signs {
		each(signs, most-1, func(rest string) { call(sign + rest) })
	}
}

func TestP20_1AndP20_2AllShort(t *testing.T) {
	each([]string{"a", ":", "/", "?", "#"}, 6, func(s string) { checkText(t, s) })
	each([]string{".", "\u00fc", "\xff", "\x00", ":", "/", "?", "#", "@", "%"}, 3, func(s string) { checkText(t, s) })
}

func TestP20_1AndP20_3AllShortComponents(t *testing.T) {
	p := api.Parts{}
	var list []string
	each([]string{"a", ":", "/", "?", "#"}, 3, func(s string) { list = append(list, s) })
	for _, p.Scheme = range []string{"", "a", ":", "a:", "/a", "b?", "#"} {
		for _, p.Authority = range []string{"", "b", ":", "/", "b?", "#b"} {
			for _, p.Query = range []string{"", "c", "/?:", "#"} {
				for _, p.Fragment = range []string{"", "#?/:"} {
					for there := range 8 {
						p.HasAuthority, p.HasQuery, p.HasFragment = there&1 != 0, there&2 != 0, there&4 != 0
						for _, p.Path = range list {
							checkParts(t, p)
						}
					}
				}
			}
		}
	}
}

func TestP20_1Drawn(t *testing.T) {
	r := rand.New(rand.NewSource(20))
	signs := []string{"a", "b", ":", "/", "//", "?", "#", ".", "@", "[", "]", "%41", "%", "\u00fc", "\U0001f600", "\xff", "\x00", " "}
	draw := func() string {
		var b strings.Builder
		for range r.Intn(8) {
			b.WriteString(signs[r.Intn(len(signs))])
		}
		return b.String()
	}
	for range 50000 {
		checkText(t, draw()+draw())
		checkParts(t, api.Parts{
			Scheme: draw(), HasAuthority: r.Intn(2) == 0, Authority: draw(), Path: draw(),
			HasQuery: r.Intn(2) == 0, Query: draw(), HasFragment: r.Intn(2) == 0, Fragment: draw(),
		})
	}
}

func TestP20_1EachByte(t *testing.T) {
	for b := range 256 {
		s := string([]byte{byte(b)})
		for _, text := range []string{s, "a" + s + "b", s + "//h" + s + "/p" + s + "?q" + s + "#f" + s, "//h" + s + "x", "/p" + s + "x", "?q" + s + "x"} {
			checkText(t, text)
		}
	}
}

func TestP20_1Long(t *testing.T) {
	begin := time.Now()
	for _, s := range []string{"a", ":", "/", "?", "#", "a/", "a:", "/?#"} {
		checkText(t, strings.Repeat(s, 1<<18))
		checkText(t, "x:"+strings.Repeat(s, 1<<18))
		checkText(t, "//"+strings.Repeat(s, 1<<18))
	}
	if took := time.Since(begin); took > 20*time.Second {
		t.Errorf("long texts took %v", took)
	}
}

func FuzzText(f *testing.F) {
	f.Add("a://b/c?d#e")
	f.Add(":x")
	f.Fuzz(func(t *testing.T, s string) { checkText(t, s) })
}

func FuzzParts(f *testing.F) {
	f.Add("a", true, "b", "/c", true, "d", true, "e")
	f.Fuzz(func(t *testing.T, scheme string, a bool, authority, path string, q bool, query string, h bool, fragment string) {
		checkParts(t, api.Parts{
			Scheme: scheme, HasAuthority: a, Authority: authority, Path: path,
			HasQuery: q, Query: query, HasFragment: h, Fragment: fragment,
		})
	})
}

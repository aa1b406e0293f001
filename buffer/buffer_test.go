package buffer

import (
	"math"
	"strings"
	"testing"

	"moniker/api"
)

// model is a buffer by the chapter's words: its bytes as a text that is made anew at each call.
type model struct {
	text string
	room int
	full bool
}

func (m *model) put(s string) bool {
	if m.full || len(m.text)+len(s) > m.room {
		m.full = true
		return false
	}
	m.text += s
	return true
}

func (m *model) cut(n int) bool {
	if n < 0 || n > len(m.text) {
		return false
	}
	m.text = m.text[:n]
	return true
}

// check holds all that a buffer tells without a change against the model.
func (m *model) check(t *testing.T, b *Buffer, trail string) {
	t.Helper()
	left := m.room - len(m.text)
	if m.full {
		left = 0
	}
	if b.Text() != m.text || b.Len() != len(m.text) || b.Left() != left || b.Full() != m.full {
		t.Fatalf("room %d,%q: %q, %d, %d, %v; want %q, %d, %d, %v", m.room, trail, b.Text(), b.Len(), b.Left(), b.Full(), m.text, len(m.text), left, m.full)
	}
	var last byte
	if m.text != "" {
		last = m.text[len(m.text)-1]
	}
	if c, ok := b.Last(); c != last || ok != (m.text != "") {
		t.Fatalf("room %d,%q: Last %q, %v", m.room, trail, c, ok)
	}
	for _, c := range []byte{0, 'a', 'b', '/', 0x80, 0xFF} {
		if got, want := b.Back(c), strings.LastIndexByte(m.text, c); got != want {
			t.Fatalf("room %d,%q: Back(%#x) %d, want %d", m.room, trail, c, got, want)
		}
	}
	if b.Len() > m.room {
		t.Fatalf("room %d,%q: %d bytes", m.room, trail, b.Len())
	}
}

// step is one call on both: its name, and whether they told the same.
type step struct {
	name string
	same func(b *Buffer, m *model) bool
}

func put(s string) step {
	return step{" Put " + s, func(b *Buffer, m *model) bool { return b.Put(s) == m.put(s) }}
}

func single(c byte) step {
	return step{" Byte " + string([]byte{c}), func(b *Buffer, m *model) bool { return b.Byte(c) == m.put(string([]byte{c})) }}
}

func cut(name string, n int) step {
	return step{" Cut " + name, func(b *Buffer, m *model) bool { return b.Cut(n) == m.cut(n) }}
}

func steps() []step {
	return []step{
		put(""), put("ab"), put("a/\xff\x80"), single('/'), single(0),
		cut("-1", -1), cut("0", 0), cut("1", 1), cut("3", 3),
		{" Clear", func(b *Buffer, m *model) bool {
			b.Clear()
			m.text, m.full = "", false
			return true
		}},
	}
}

func make2(t *testing.T, room int) (*Buffer, *model) {
	t.Helper()
	b, e := New(room)
	if e != api.OK || b == nil {
		t.Fatalf("New(%d): %d", room, e)
	}
	return b, &model{room: room}
}

func TestP3_1New(t *testing.T) {
	for _, room := range []int{0, 1, 3, 4096, api.MaxBytes - 1, api.MaxBytes} {
		b, m := make2(t, room)
		m.check(t, b, " New")
	}
	for _, room := range []int{math.MinInt, math.MinInt32, -2, -1, api.MaxBytes + 1, math.MaxInt32, 1 << 32, math.MaxInt} {
		if b, e := New(room); b != nil || e != api.ErrRange {
			t.Errorf("New(%d) = %v, %d", room, b, e)
		}
	}
}

func TestP3_1Example(t *testing.T) {
	b, _ := make2(t, 3)
	if !b.Put("ab") || b.Put("cd") || b.Put("c") || b.Text() != "ab" {
		t.Error("the chapter's example")
	}
}

func TestP3_1FullStaysTillCleared(t *testing.T) {
	b, m := make2(t, 3)
	b.Put("ab")
	m.put("ab")
	if b.Put("cd") {
		t.Error("what doesn't fit isn't put")
	}
	m.full = true
	for _, s := range []string{"", "c", "cde"} {
		if b.Put(s) {
			t.Errorf("Put(%q) on a full one", s)
		}
		m.check(t, b, " Put "+s)
	}
	if b.Byte('c') {
		t.Error("Byte on a full one")
	}
	if !b.Cut(0) || b.Put("") || b.Byte('c') {
		t.Error("Cut leaves it full")
	}
	m.text = ""
	m.check(t, b, " Cut 0")
	b.Clear()
	m.full = false
	m.check(t, b, " Clear")
	if !b.Put("") || !b.Put("cde") || b.Full() || b.Left() != 0 {
		t.Error("room that is used up isn't full yet")
	}
	if !b.Put("") || b.Full() {
		t.Error("nothing fits where no room is left")
	}
}

func TestP3_1NoRoom(t *testing.T) {
	b, m := make2(t, 0)
	if !b.Put("") || b.Full() || b.Byte('a') || !b.Full() || b.Put("") {
		t.Error("a buffer of no room")
	}
	m.full = true
	m.check(t, b, " no room")
}

func TestP3_1Cut(t *testing.T) {
	b, m := make2(t, 8)
	b.Put("abcd")
	m.put("abcd")
	for _, n := range []int{math.MinInt, -1, 5, 8, 9, math.MaxInt} {
		if b.Cut(n) {
			t.Errorf("Cut(%d)", n)
		}
		m.check(t, b, " refused Cut")
	}
	if !b.Cut(4) || b.Text() != "abcd" || !b.Cut(2) || b.Text() != "ab" || b.Cut(3) {
		t.Error("Cut", b.Text())
	}
	if b.Left() != 6 || !b.Put("123456") || b.Text() != "ab123456" || b.Full() {
		t.Error("what is cut makes room", b.Text())
	}
}

func TestP3_1Back(t *testing.T) {
	b, _ := make2(t, 8)
	if b.Back('/') != -1 || b.Back(0) != -1 {
		t.Error("Back of nothing")
	}
	b.Put("/a/b")
	if b.Back('/') != 2 || b.Back('b') != 3 || b.Back('c') != -1 {
		t.Error("Back")
	}
	b.Cut(2)
	if b.Back('/') != 0 || b.Back('b') != -1 {
		t.Error("Back sees what was cut")
	}
	b.Clear()
	if b.Back('/') != -1 {
		t.Error("Back sees what was cleared")
	}
}

func TestP3_1ByteIsAByte(t *testing.T) {
	b, _ := make2(t, 256)
	for i := range 256 {
		if !b.Byte(byte(i)) || b.Len() != i+1 || b.Back(byte(i)) != i {
			t.Fatalf("Byte(%#x)", i)
		}
		if c, ok := b.Last(); c != byte(i) || !ok {
			t.Fatalf("Last behind %#x: %#x, %v", i, c, ok)
		}
	}
}

func TestP3_1TextsStay(t *testing.T) {
	b, _ := make2(t, 8)
	b.Put("abcd")
	first := b.Text()
	b.Cut(1)
	b.Put("xyz")
	second := b.Text()
	b.Clear()
	b.Put("12345678")
	if first != "abcd" || second != "axyz" {
		t.Errorf("texts that were told change: %q, %q", first, second)
	}
}

func TestP3_1BuffersAreApart(t *testing.T) {
	a, _ := make2(t, 4)
	b, _ := make2(t, 4)
	a.Put("ab")
	b.Put("12345")
	if a.Full() || a.Text() != "ab" || b.Text() != "" || !b.Full() {
		t.Error("two buffers share something")
	}
}

// TestP3_2AllShortTrails goes through every order of a few calls.
func TestP3_2AllShortTrails(t *testing.T) {
	all := steps()
	const depth = 4
	total := 1
	for range depth {
		total *= len(all)
	}
	for _, room := range []int{0, 1, 2, 3, 5} {
		for trailNumber := range total {
			b, m := make2(t, room)
			trail := ""
			for at, rest := 0, trailNumber; at < depth; at++ {
				s := all[rest%len(all)]
				rest /= len(all)
				trail += s.name
				if !s.same(b, m) {
					t.Fatalf("room %d:%q", room, trail)
				}
				m.check(t, b, trail)
			}
		}
	}
}

func TestP3_2LongTrails(t *testing.T) {
	all := steps()
	seed := uint32(1)
	for _, room := range []int{7, 64, 1000} {
		b, m := make2(t, room)
		for range 3000 {
			seed = seed*1664525 + 1013904223
			s := all[seed>>16%uint32(len(all)-1)] // Clear comes below, less often
			if seed>>8%97 == 0 {
				s = all[len(all)-1]
			}
			if !s.same(b, m) {
				t.Fatalf("room %d:%q", room, s.name)
			}
			m.check(t, b, s.name)
		}
	}
}

func TestP3_2Greatest(t *testing.T) {
	b, _ := make2(t, api.MaxBytes)
	whole := strings.Repeat("x", api.MaxBytes)
	if b.Put(whole+"x") || b.Len() != 0 || !b.Full() {
		t.Error("one byte too many")
	}
	b.Clear()
	if !b.Put(whole) || b.Full() || b.Left() != 0 || b.Text() != whole {
		t.Error("just as many as fit")
	}
	if b.Byte('y') || b.Len() != api.MaxBytes || !b.Full() {
		t.Error("a byte behind all")
	}
	if !b.Cut(api.MaxBytes-1) || b.Left() != 0 || b.Len() != api.MaxBytes-1 {
		t.Error("Cut of a full one")
	}
}

// What is cut and put again and again mustn't be copied each time.
func TestP3_2ManyCuts(t *testing.T) {
	b, _ := make2(t, api.MaxBytes)
	b.Put(strings.Repeat("x", api.MaxBytes-1))
	for range 1 << 20 {
		if !b.Byte('y') || !b.Cut(api.MaxBytes-1) {
			t.Fatal("a byte, and back")
		}
	}
	if b.Len() != api.MaxBytes-1 || b.Back('y') != -1 || b.Full() {
		t.Error(b.Len())
	}
}

func FuzzTrails(f *testing.F) {
	f.Add(3, []byte{1, 2, 3, 9, 4})
	f.Add(0, []byte{0, 3})
	f.Fuzz(func(t *testing.T, room int, calls []byte) {
		b, e := New(room)
		if room < 0 || room > api.MaxBytes {
			if b != nil || e != api.ErrRange {
				t.Fatalf("New(%d) = %v, %d", room, b, e)
			}
			return
		}
		m, all := &model{room: room}, steps()
		for _, c := range calls {
			s := all[int(c)%len(all)]
			if !s.same(b, m) {
				t.Fatal(s.name)
			}
			m.check(t, b, s.name)
		}
	})
}

package domain

import (
	"moniker/bidi"
	"moniker/label"
	"moniker/utf"
)

// part is a label, whichever way it is written.
type part interface {
	points() []rune // none, if they can't be told
}

// plain is a label of ASCII that stands for itself.
type plain string

// coded is a label of ASCII that stands for code points.
type coded struct {
	text string
	l    []rune
}

// native is a label that has something beyond ASCII.
type native []rune

func (p plain) points() []rune  { return []rune(string(p)) }
func (p coded) points() []rune  { return p.l }
func (p native) points() []rune { return p }

// part tells which way a label is written.
func (n *Names) part(l []rune) part {
	text, _ := utf.Text(l) // what was read and mapped is scalar values
	switch {
	case len(text) > len(l): // only what is beyond ASCII has several bytes
		return native(l)
	case label.Coded(text):
		points, _ := n.checker.FromOld(text, false)
		return coded{text, points}
	}
	return plain(text)
}

// one is a label as it is sent, or its fault; wanted tells whether the name is bidirectional.
func (n *Names) one(p part, wanted bool) (string, int) {
	switch p := p.(type) {
	case plain:
		fault := label.Old(string(p))
		if fault == label.Fine && wanted && bidi.Broken(n.book, p.points()) != 0 {
			fault = label.Bidi
		}
		return string(p), fault
	case coded:
		_, fault := n.checker.FromOld(p.text, wanted)
		return p.text, fault
	default:
		return n.checker.ToOld(p.points(), wanted)
	}
}

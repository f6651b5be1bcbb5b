package tokenizer

import (
	"taffrail/api"
	"taffrail/charref"
	"taffrail/names"
)

// refers tells whether a reference is open.
func (m *Machine) refers() bool { return len(m.ref) > 0 }

// refer goes on with a reference by a character.
func (m *Machine) refer(c api.Char) {
	m.ref = append(m.ref, c)
	if m.sure() {
		m.resolve()
	}
}

// sure tells whether what comes can change nothing of the reference, which has a character behind its &.
func (m *Machine) sure() bool {
	if m.ref[1].R == '#' {
		return sureNumber(m.ref[2:])
	}
	// No name goes on behind its ;, and each one without a ; goes on to one with it.
	if m.ref[len(m.ref)-1].R == ';' {
		return true
	}
	if m.refs == nil {
		m.refs = names.New(api.Refs())
	}
	return !m.refs.Goes(textOf(m.ref[1:]))
}

// sureNumber tells whether what stands behind &# goes on no more. All but the last of it did.
func sureNumber(l []api.Char) bool {
	if len(l) == 0 {
		return false
	}
	hex, r := l[0].R == 'x' || l[0].R == 'X', l[len(l)-1].R
	switch {
	case r >= '0' && r <= '9':
		return false
	case !hex:
		return true
	}
	return len(l) > 1 && !(r >= 'a' && r <= 'f' || r >= 'A' && r <= 'F')
}

// resolve makes of an open reference what it is, as if no more came, and takes what is left in the state in which it was begun.
func (m *Machine) resolve() {
	l := m.ref
	m.ref = nil
	r, size, codes := charref.One(textOf(l), m.made.kind != 0)
	for _, code := range codes {
		if code == api.FaultRefSemi {
			m.fault(code, l[size-1].To)
		} else {
			m.fault(code, l[0].From)
		}
	}
	if size == 0 { // the & stands for itself, and begins nothing a second time
		size = 1
		m.put(l[0], false)
	} else {
		m.put(api.Char{R: r, From: l[0].From, To: l[size-1].To}, true)
	}
	for _, c := range l[size:] {
		m.step(c)
	}
}

// put tells c, or adds it to the value in which the reference was begun; made says whether a reference made it.
func (m *Machine) put(c api.Char, made bool) {
	if m.made.kind != 0 {
		m.made.addValue(c.R)
		return
	}
	m.tell(api.Token{Kind: api.TokChar, R: c.R, Self: made, Span: api.Span{From: c.From, To: c.To}})
}

package tokenizer

import (
	"maps"
	"slices"
	"strings"
	"unicode/utf8"

	"taffrail/api"
	"taffrail/attrs"
)

// few is up to how many attributes are gone over one by one for a like name: a tag seldom has more, and a set of them would cost more than it spares.
const few = 8

// draft is a tag, a comment or a doctype that is being made.
type draft struct {
	kind  int // that of its token; 0, if nothing is being made
	from  int // the byte of its <
	name  []byte
	text  []byte
	self  bool
	attrs []api.Attr          // those that are read, of an end tag, too: they are a fault
	names map[string]struct{} // their names, if they are more than few
	attr  attribute
}

// attribute is the one that is being read.
type attribute struct {
	at          int // the byte of its first character
	name, value []byte
	counts      bool // its name has ended, and no other one of the tag has it
}

// copied gives a draft that shares nothing with d that either of them changes.
func (d draft) copied() draft {
	d.name = slices.Clone(d.name)
	d.text = slices.Clone(d.text)
	d.attrs = slices.Clone(d.attrs)
	d.names = maps.Clone(d.names)
	d.attr.name = slices.Clone(d.attr.name)
	d.attr.value = slices.Clone(d.attr.value)
	return d
}

func (d *draft) addName(r int)  { d.name = withLower(d.name, r) }
func (d *draft) addText(r int)  { d.text = with(d.text, r) }
func (d *draft) addAttr(r int)  { d.attr.name = withLower(d.attr.name, r) }
func (d *draft) addValue(r int) { d.attr.value = with(d.attr.value, r) }

// addDashes adds what a comment's end would have begun with.
func (d *draft) addDashes(s string) { d.text = append(d.text, s...) }

// begin makes an attribute the one that is being read.
func (d *draft) begin(at int) {
	d.keep()
	d.attr.at = at
}

// keep puts the attribute that was being read to the others, if it counts.
func (d *draft) keep() {
	a := d.attr
	d.attr = attribute{}
	if !a.counts {
		return
	}
	name := string(a.name)
	d.attrs = append(d.attrs, api.Attr{Name: name, Value: string(a.value)})
	switch {
	case d.names != nil:
		d.names[name] = struct{}{}
	case len(d.attrs) > few:
		d.names = namesOf(d.attrs)
	}
}

func namesOf(l []api.Attr) map[string]struct{} {
	set := make(map[string]struct{}, 2*len(l))
	for _, a := range l {
		set[a.Name] = struct{}{}
	}
	return set
}

// has tells whether one of the attributes that are kept has that name.
func (d *draft) has(name string) bool {
	if d.names == nil {
		_, has := attrs.Get(d.attrs, name)
		return has
	}
	_, has := d.names[name]
	return has
}

// begin begins a tag, a comment or a doctype at the < that is kept back.
func (m *Machine) begin(kind int, end func(*Machine, int)) {
	m.made = draft{kind: kind, from: m.wait[0].From}
	m.wait = nil
	m.end = end
}

// endName ends an attribute's name.
func (m *Machine) endName() {
	a := &m.made.attr
	if m.made.has(string(a.name)) {
		m.fault(api.FaultDouble, a.at)
		return
	}
	a.counts = true
}

// tellTag tells the tag, which ends with c.
func (m *Machine) tellTag(c api.Char) {
	d := &m.made
	d.keep()
	t := api.Token{Kind: d.kind, Name: string(d.name), Span: api.Span{From: d.from, To: c.To}}
	if d.kind == api.TokStart {
		t.Attrs, t.Self = d.attrs, d.self
		m.last = t.Name
	} else if len(d.attrs) > 0 || d.self {
		m.fault(api.FaultEndAttr, d.from)
	}
	m.tell(t)
	m.text = api.TextData
	m.toData()
}

// tellMade tells the comment or doctype, which ends at byte to.
func (m *Machine) tellMade(to int) {
	d := &m.made
	m.tell(api.Token{Kind: d.kind, Name: string(d.name), Text: string(d.text), Self: d.self, Span: api.Span{From: d.from, To: to}})
	m.toData()
}

// textOf gives the UTF-8 text of characters.
func textOf(l []api.Char) string {
	var b strings.Builder
	for _, c := range l {
		b.WriteRune(character(c.R))
	}
	return b.String()
}

// with gives b with the bytes of r behind it.
func with(b []byte, r int) []byte { return utf8.AppendRune(b, character(r)) }

// withLower is with, of a letter in lower case.
func withLower(b []byte, r int) []byte {
	if r >= 'A' && r <= 'Z' {
		r += 'a' - 'A'
	}
	return with(b, r)
}

func letter(r int) bool { return r >= 'a' && r <= 'z' || r >= 'A' && r <= 'Z' }

// character gives r as a rune; U+FFFD, if it is no character.
func character(r int) rune {
	// Asked as an int: a greater one, turned into a rune, could come round to a character.
	if r < 0 || r > utf8.MaxRune || r >= 0xD800 && r <= 0xDFFF {
		return utf8.RuneError
	}
	return rune(r)
}

package tokenizer

import (
	"taffrail/api"
	"taffrail/vocab"
)

func rawOpen(m *Machine, c api.Char) {
	if c.R == '/' {
		m.hold(c)
		m.take = rawSlash
		return
	}
	m.dataAgain(c)
}

func rawSlash(m *Machine, c api.Char) {
	if letter(c.R) {
		m.again(rawName, c)
		return
	}
	m.dataAgain(c)
}

// rawName gathers a name, in wait behind the < and the /.
func rawName(m *Machine, c api.Char) {
	switch {
	case letter(c.R):
		m.hold(c)
	case (vocab.Blank(c.R) || c.R == '/' || c.R == '>') && vocab.Lower(textOf(m.wait[2:])) == m.last:
		m.begin(api.TokEnd, endTag)
		m.made.name = []byte(m.last)
		m.again(tagName, c)
	default:
		m.dataAgain(c)
	}
}

func cdata(m *Machine, c api.Char) {
	if c.R == ']' {
		m.hold(c)
		m.take = cdataOne
		return
	}
	m.tellChar(c)
}

func cdataOne(m *Machine, c api.Char) {
	if c.R == ']' {
		m.hold(c)
		m.take = cdataTwo
		return
	}
	m.release()
	m.again(cdata, c)
}

func cdataTwo(m *Machine, c api.Char) {
	switch c.R {
	case ']':
		m.tellChar(m.wait[0])
		m.wait[0], m.wait[1] = m.wait[1], c
	case '>':
		m.toData()
	default:
		m.release()
		m.again(cdata, c)
	}
}

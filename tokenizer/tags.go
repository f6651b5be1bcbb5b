package tokenizer

import (
	"taffrail/api"
	"taffrail/vocab"
)

func tagOpen(m *Machine, c api.Char) {
	switch {
	case c.R == '!':
		m.take, m.end = markup, endMarkup
	case c.R == '/':
		m.hold(c)
		m.take, m.end = endOpen, endEndOpen
	case letter(c.R):
		m.begin(api.TokStart, endTag)
		m.again(tagName, c)
	case c.R == '?':
		m.bogusAgain(c)
	default:
		m.fault(api.FaultTagOpen, c.From)
		m.dataAgain(c)
	}
}

func endTagOpen(m *Machine, at int) {
	m.fault(api.FaultTagOpen, at)
	m.release()
}

func endOpen(m *Machine, c api.Char) {
	switch {
	case letter(c.R):
		m.begin(api.TokEnd, endTag)
		m.again(tagName, c)
	case c.R == '>':
		m.fault(api.FaultEndOpen, c.From)
		m.toData()
	default:
		m.bogusAgain(c)
	}
}

func endEndOpen(m *Machine, at int) {
	m.fault(api.FaultEndOpen, at)
	m.release()
}

// endTag is the end within a tag: none is told.
func endTag(m *Machine, at int) { m.fault(api.FaultTagEof, at) }

func tagName(m *Machine, c api.Char) {
	switch {
	case vocab.Blank(c.R):
		m.take = beforeName
	case c.R == '/':
		m.take = slash
	case c.R == '>':
		m.tellTag(c)
	default:
		m.made.addName(c.R)
	}
}

func beforeName(m *Machine, c api.Char) {
	switch {
	case vocab.Blank(c.R):
	case c.R == '/' || c.R == '>':
		m.again(afterName, c)
	case c.R == '=':
		m.fault(api.FaultAttrChar, c.From)
		m.made.begin(c.From)
		m.made.addAttr(c.R)
		m.take = inName
	default:
		m.made.begin(c.From)
		m.again(inName, c)
	}
}

func inName(m *Machine, c api.Char) {
	switch {
	case vocab.Blank(c.R) || c.R == '/' || c.R == '>':
		m.endName()
		m.again(afterName, c)
	case c.R == '=':
		m.endName()
		m.take = beforeValue
	default:
		if c.R == '"' || c.R == '\'' || c.R == '<' {
			m.fault(api.FaultAttrChar, c.From)
		}
		m.made.addAttr(c.R)
	}
}

func afterName(m *Machine, c api.Char) {
	switch {
	case vocab.Blank(c.R):
	case c.R == '/':
		m.take = slash
	case c.R == '=':
		m.take = beforeValue
	case c.R == '>':
		m.tellTag(c)
	default:
		m.made.begin(c.From)
		m.again(inName, c)
	}
}

func beforeValue(m *Machine, c api.Char) {
	switch {
	case vocab.Blank(c.R):
	case c.R == '"':
		m.take = double
	case c.R == '\'':
		m.take = single
	case c.R == '>':
		m.fault(api.FaultValue, c.From)
		m.tellTag(c)
	default:
		m.again(bare, c)
	}
}

func double(m *Machine, c api.Char) { m.quoted(c, '"') }

func single(m *Machine, c api.Char) { m.quoted(c, '\'') }

// quoted takes c in a value that sign closes.
func (m *Machine) quoted(c api.Char, sign int) {
	switch c.R {
	case sign:
		m.take = afterValue
	case '&':
		m.ref = []api.Char{c}
	default:
		m.made.addValue(c.R)
	}
}

func bare(m *Machine, c api.Char) {
	switch {
	case vocab.Blank(c.R):
		m.take = beforeName
	case c.R == '&':
		m.ref = []api.Char{c}
	case c.R == '>':
		m.tellTag(c)
	default:
		if c.R == '"' || c.R == '\'' || c.R == '<' || c.R == '=' || c.R == '`' {
			m.fault(api.FaultAttrChar, c.From)
		}
		m.made.addValue(c.R)
	}
}

func afterValue(m *Machine, c api.Char) {
	switch {
	case vocab.Blank(c.R):
		m.take = beforeName
	case c.R == '/':
		m.take = slash
	case c.R == '>':
		m.tellTag(c)
	default:
		m.fault(api.FaultBetween, c.From)
		m.again(beforeName, c)
	}
}

func slash(m *Machine, c api.Char) {
	if c.R == '>' {
		m.made.self = true
		m.tellTag(c)
		return
	}
	m.fault(api.FaultSlash, c.From)
	m.again(beforeName, c)
}

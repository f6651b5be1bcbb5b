package tokenizer

import (
	"strings"

	"taffrail/api"
	"taffrail/vocab"
)

// What may stand behind <!.
const (
	dashes  = "--"
	doctype = "doctype" // in any case
	opening = "[CDATA["
)

// markup gathers what stands behind <!, in wait behind the <.
func markup(m *Machine, c api.Char) {
	m.hold(c)
	word := textOf(m.wait[1:])
	switch {
	case word == dashes:
		m.begin(api.TokComment, endComment)
		m.take = comStart
	case vocab.Lower(word) == doctype:
		m.begin(api.TokDoctype, endDoctype)
		m.take = beforeDoc
	case word == opening && m.cdata:
		m.wait = nil
		m.take, m.end = cdata, endWaiting
	case word == opening:
		m.fault(api.FaultCdata, m.wait[1].From)
		m.bogus(m.wait[1:])
	case !begun(word):
		m.fault(api.FaultBogus, m.wait[1].From)
		m.bogus(m.wait[1:])
	}
}

// begun tells whether what was gathered may still go on to one of the three.
func begun(word string) bool {
	return strings.HasPrefix(dashes, word) || strings.HasPrefix(doctype, vocab.Lower(word)) || strings.HasPrefix(opening, word)
}

func endMarkup(m *Machine, at int) {
	gathered := m.wait[1:]
	if len(gathered) > 0 {
		m.fault(api.FaultBogus, gathered[0].From)
	} else {
		m.fault(api.FaultBogus, at)
	}
	m.bogus(gathered)
	m.tellMade(at)
}

// bogus begins a comment, and takes the characters of l in Bogus.
func (m *Machine) bogus(l []api.Char) {
	m.begin(api.TokComment, endBogus)
	m.take = inBogus
	for _, c := range l {
		m.take(m, c)
	}
}

// bogusAgain is what a < does that begins no tag, but a comment that is none.
func (m *Machine) bogusAgain(c api.Char) {
	m.fault(api.FaultBogus, c.From)
	m.bogus([]api.Char{c})
}

func inBogus(m *Machine, c api.Char) {
	if c.R == '>' {
		m.tellMade(c.To)
		return
	}
	m.made.addText(c.R)
}

func endBogus(m *Machine, at int) { m.tellMade(at) }

func comStart(m *Machine, c api.Char) {
	switch c.R {
	case '-':
		m.take = comStartDash
	case '>':
		m.abrupt(c)
	default:
		m.again(comment, c)
	}
}

func comStartDash(m *Machine, c api.Char) {
	switch c.R {
	case '-':
		m.take = comEnd
	case '>':
		m.abrupt(c)
	default:
		m.commentAgain("-", c)
	}
}

func comment(m *Machine, c api.Char) {
	if c.R == '-' {
		m.take = comDash
		return
	}
	m.made.addText(c.R)
}

func comDash(m *Machine, c api.Char) {
	if c.R == '-' {
		m.take = comEnd
		return
	}
	m.commentAgain("-", c)
}

func comEnd(m *Machine, c api.Char) {
	switch c.R {
	case '>':
		m.tellMade(c.To)
	case '!':
		m.take = comBang
	case '-':
		m.made.addDashes("-")
	default:
		m.commentAgain("--", c)
	}
}

func comBang(m *Machine, c api.Char) {
	switch c.R {
	case '-':
		m.made.addDashes("--!")
		m.take = comDash
	case '>':
		m.abrupt(c)
	default:
		m.commentAgain("--!", c)
	}
}

// abrupt tells a comment that c ends as none should end.
func (m *Machine) abrupt(c api.Char) {
	m.fault(api.FaultAbrupt, c.From)
	m.tellMade(c.To)
}

// commentAgain adds what was no end of the comment, and takes c in Comment.
func (m *Machine) commentAgain(s string, c api.Char) {
	m.made.addDashes(s)
	m.again(comment, c)
}

func endComment(m *Machine, at int) {
	m.fault(api.FaultComEof, at)
	m.tellMade(at)
}

func beforeDoc(m *Machine, c api.Char) {
	switch {
	case vocab.Blank(c.R):
	case c.R == '>':
		m.wrongDoc(c.From)
		m.tellMade(c.To)
	default:
		m.again(docName, c)
	}
}

func docName(m *Machine, c api.Char) {
	switch {
	case vocab.Blank(c.R):
		m.take = afterDoc
	case c.R == '>':
		m.tellMade(c.To)
	default:
		m.made.addName(c.R)
	}
}

func afterDoc(m *Machine, c api.Char) {
	switch {
	case vocab.Blank(c.R):
	case c.R == '>':
		m.tellMade(c.To)
	default:
		m.wrongDoc(c.From)
		m.take = bogusDoc
	}
}

func bogusDoc(m *Machine, c api.Char) {
	if c.R == '>' {
		m.tellMade(c.To)
	}
}

// wrongDoc says of the doctype that it is not just a name.
func (m *Machine) wrongDoc(at int) {
	m.fault(api.FaultDoctype, at)
	m.made.self = true
}

func endDoctype(m *Machine, at int) {
	m.wrongDoc(at)
	m.tellMade(at)
}

package tokenizer

import (
	"fmt"
	"math"
	"slices"
	"strings"
	"testing"
	"unicode/utf8"

	"taffrail/api"
	"taffrail/instream"
	"taffrail/tokens"
)

// start is what a machine is set to ahead of a text.
type start struct {
	text    int
	last    string // the name of a start tag ahead; "" is none
	foreign bool
}

func inData() start             { return start{} }
func inRc(last string) start    { return start{text: api.TextRc, last: last} }
func inRaw(last string) start   { return start{text: api.TextRaw, last: last} }
func inPlain(last string) start { return start{text: api.TextPlain, last: last} }
func inForeign() start          { return start{foreign: true} }
func (x start) String() string {
	return fmt.Sprintf("{text %d, last %q, foreign %v}", x.text, x.last, x.foreign)
}
func starts() []start {
	return []start{inData(), inForeign(), inRc("p"), inRaw("p"), inPlain("p"), inRc(""), inRaw("")}
}

// machine gives one that is set so.
func (x start) machine() *Machine {
	m := New()
	if x.last != "" { // at bytes ahead of 0
		s := "<" + x.last + ">"
		for i := range len(s) {
			m.Feed(api.Char{R: int(s[i]), From: i - len(s), To: i + 1 - len(s)})
		}
	}
	m.Set(x.text)
	m.Foreign(x.foreign)
	return m
}

func chars(s string) []api.Char {
	l, _ := instream.Chars(s)
	return l
}

// feed gives the tokens of all characters, one behind the other.
func feed(m *Machine, l []api.Char) []api.Token {
	var out []api.Token
	for _, c := range l {
		out = append(out, m.Feed(c)...)
	}
	return out
}

// all gives the tokens and faults of a text.
func (x start) all(s string) ([]api.Token, []api.Fault) {
	m := x.machine()
	out := feed(m, chars(s))
	return append(out, m.End(len(s))...), m.Faults()
}

// said is what a text is turned to: its tokens and faults as told and wrong tell them.
type said struct {
	in     start
	s      string
	tokens string
	faults string
}

// only gives t with the fields alone that have a meaning in its kind.
func only(t api.Token) api.Token {
	x := api.Token{Kind: t.Kind, Span: t.Span}
	switch t.Kind {
	case api.TokChar:
		x.R, x.Self = t.R, t.Self
	case api.TokStart:
		x.Name, x.Attrs, x.Self = t.Name, t.Attrs, t.Self
	case api.TokEnd:
		x.Name = t.Name
	case api.TokComment:
		x.Text = t.Text
	case api.TokDoctype:
		x.Name, x.Self = t.Name, t.Self
	}
	return x
}

// plain tells of a character that it stands for itself and has as many bytes as UTF-8 has for it.
func plain(t api.Token) bool {
	return t.Kind == api.TokChar && !t.Self && tokens.Same(t, only(t)) && t.Span.To-t.Span.From == utf8.RuneLen(rune(t.R))
}

// told tells tokens with their spans: a row of characters as 'abc@0-3, one that a reference made as &<@0-4, others as tokens.Show does, <a>@0-3.
func told(l []api.Token) string {
	var out []string
	for i := 0; i < len(l); {
		t, text := l[i], ""
		from, to := t.Span.From, t.Span.To
		switch {
		case plain(t):
			text = "'"
			for to = from; i < len(l) && plain(l[i]) && l[i].Span.From == to; i++ {
				text += string(rune(l[i].R))
				to = l[i].Span.To
			}
			i--
		case !tokens.Same(t, only(t)):
			text = fmt.Sprintf("%+v", t)
		case t.Kind == api.TokChar && t.Self:
			text = "&" + string(rune(t.R))
		case t.Kind == api.TokChar:
			text = fmt.Sprintf("'%c", t.R)
		default:
			text = tokens.Show(t)
		}
		out = append(out, fmt.Sprintf("%s@%d-%d", text, from, to))
		i++
	}
	return strings.Join(out, " ")
}

// wrong tells faults by their names and places, as Double@7.
func wrong(l []api.Fault) string {
	names := [...]string{"0", "Utf8", "Null", "Control", "Nonchar", "TagOpen", "EndOpen", "TagEof", "AttrChar", "Double", "Value", "Between", "Slash", "EndAttr", "Bogus", "Abrupt", "ComEof", "Doctype", "RefSemi", "RefName", "RefNum", "Cdata"}
	var out []string
	for _, f := range l {
		out = append(out, fmt.Sprintf("%s@%d", names[f.Code], f.At))
	}
	return strings.Join(out, " ")
}

func checkSaid(t *testing.T, l []said) {
	t.Helper()
	for _, x := range l {
		got, faults := x.in.all(x.s)
		if told(got) != x.tokens || wrong(faults) != x.faults {
			t.Errorf("%v %q:\n got %s\nwant %s\n got %s\nwant %s", x.in, x.s, told(got), x.tokens, wrong(faults), x.faults)
		}
	}
}

func token(kind, from, to int) api.Token {
	return api.Token{Kind: kind, Span: api.Span{From: from, To: to}}
}

func eof(at int) []api.Token { return []api.Token{token(api.TokEof, at, at)} }

func checkTokens(t *testing.T, what string, got, want []api.Token) {
	t.Helper()
	if !tokens.List(got, want) {
		t.Errorf("%s: %+v, want %+v", what, got, want)
	}
}

func checkFaults(t *testing.T, what string, got, want []api.Fault) {
	t.Helper()
	if !slices.Equal(got, want) {
		t.Errorf("%s: %v, want %v", what, got, want)
	}
}

// The chapter's examples, with all fields written out.
func TestExamples(t *testing.T) {
	for _, x := range []struct {
		s      string
		tokens []api.Token
		faults []api.Fault
	}{
		{"<a B=1 b=2/>", []api.Token{{Kind: api.TokStart, Name: "a", Attrs: []api.Attr{{Name: "b", Value: "1"}}, Span: api.Span{From: 0, To: 12}}, token(api.TokEof, 12, 12)},
			[]api.Fault{{Code: api.FaultDouble, At: 7}}},
		{"<!-->", []api.Token{token(api.TokComment, 0, 5), token(api.TokEof, 5, 5)}, []api.Fault{{Code: api.FaultAbrupt, At: 4}}},
		{"</>", eof(3), []api.Fault{{Code: api.FaultEndOpen, At: 2}}},
	} {
		got, faults := inData().all(x.s)
		checkTokens(t, x.s, got, x.tokens)
		checkFaults(t, x.s, faults, x.faults)
	}
}

// A token of each kind, with all fields written out.
func TestFieldsOfTokens(t *testing.T) {
	got, faults := inData().all("é&lt;<A B=C d/></A><!--x--><!DOCTYPE Html><!doctype>")
	checkTokens(t, "tokens", got, []api.Token{
		{Kind: api.TokChar, R: 0xE9, Span: api.Span{From: 0, To: 2}},
		{Kind: api.TokChar, R: '<', Self: true, Span: api.Span{From: 2, To: 6}},
		{Kind: api.TokStart, Name: "a", Attrs: []api.Attr{{Name: "b", Value: "C"}, {Name: "d"}}, Self: true, Span: api.Span{From: 6, To: 16}},
		{Kind: api.TokEnd, Name: "a", Span: api.Span{From: 16, To: 20}},
		{Kind: api.TokComment, Text: "x", Span: api.Span{From: 20, To: 28}},
		{Kind: api.TokDoctype, Name: "html", Span: api.Span{From: 28, To: 43}},
		{Kind: api.TokDoctype, Self: true, Span: api.Span{From: 43, To: 53}},
		{Kind: api.TokEof, Span: api.Span{From: 53, To: 53}},
	})
	checkFaults(t, "faults", faults, []api.Fault{{Code: api.FaultDoctype, At: 52}})
}

func TestNew(t *testing.T) {
	checkFaults(t, "faults of a new one", New().Faults(), nil)
	for _, at := range []int{0, 1, 7, -1, math.MinInt, math.MaxInt} {
		m := New()
		checkTokens(t, "End at once", m.End(at), eof(at))
		checkTokens(t, "End again", m.End(at-1), eof(at-1))
		checkFaults(t, "faults behind End", m.Faults(), nil)
	}
	// In TextData, CDATA may not be, and there is no last start tag.
	checkSaid(t, []said{
		{inData(), "&lt;<b>", "&<@0-4 <b>@4-7 [eof]@7-7", ""},
		{inData(), "<![CDATA[x]]>", "<!--[CDATA[x]]-->@0-13 [eof]@13-13", "Cdata@2"},
		{inRaw(""), "</b>", "'</b>@0-4 [eof]@4-4", ""},
	})
}

// unfinished are texts that leave a machine in each of its states.
func unfinished() []string {
	return []string{
		"", "x", "&", "&#", "&#x", "&#x4", "&#1", "&no", "&not", "<", "</", "<a", "<ab", "</a", "<a ", "<a b", "<a b ", "<a b=", "<a b= ", "<a b=c", "<a b='", "<a b='c", "<a b=\"", "<a b=\"c", "<a b='c'", "<a/", "<a b/",
		"<a b=c c=&", "<a b='&l", "<a b=\"&lt", "<a b b", "<a b b=", "<a b=1 b=2", "</a b", "</a/", "<?", "<?x", "</ ", "<!", "<!-", "<!d", "<!docTyp", "<!--", "<!---", "<!--x", "<!--x-", "<!--x--", "<!--x--!", "<!----", "<![CDAT", "<![CDATA[", "<![CDATA[x",
		"<![CDATA[]", "<![CDATA[]]", "<![CDATA[x]]]", "<!doctype", "<!doctype ", "<!doctype x", "<!doctype x ", "<!doctype x y", "</p", "</p ", "</p/", "</q", "<p>", "<P x=1>y", "<b>&", "<b></b",
	}
}

func TestBehindEndAsNew(t *testing.T) {
	text := "&lt;</p><b c=d><![CDATA[x]]></b>"
	want, faults := inData().all(text)
	for _, x := range starts() {
		for _, s := range unfinished() {
			m := x.machine()
			feed(m, chars(s))
			m.End(len(s))
			ahead := m.Faults()
			checkTokens(t, fmt.Sprintf("%v %q, then a text", x, s), append(feed(m, chars(text)), m.End(len(text))...), want)
			checkFaults(t, fmt.Sprintf("%v %q, then a text", x, s), m.Faults(), slices.Concat(ahead, faults))
			// Nor is there a last start tag behind End, whatever text it is set to.
			m.Set(api.TextRc)
			checkTokens(t, fmt.Sprintf("%v %q, </b> behind the end", x, s), feed(m, chars("</b>")), feed(inPlain("").machine(), chars("</b>")))
		}
	}
}

func TestSet(t *testing.T) {
	s := "&lt;<b></p>&lt;"
	for text, want := range map[int]string{
		api.TextData:  "&<@0-4 <b>@4-7 </p>@7-11 &<@11-15",
		api.TextRc:    "&<@0-4 '<b>@4-7 </p>@7-11 &<@11-15",
		api.TextRaw:   "'&lt;<b>@0-7 </p>@7-11 &<@11-15",
		api.TextPlain: "'&lt;<b></p>&lt;@0-15",
	} {
		checkSaid(t, []said{{start{text: text, last: "p"}, s, want + " [eof]@15-15", ""}})
	}
	for _, text := range []int{-1, 4, 5, -4, 100, math.MinInt, math.MaxInt, 1<<32 + api.TextRaw, 1 << 32} {
		checkSaid(t, []said{{start{text: text, last: "p"}, s, "&<@0-4 <b>@4-7 </p>@7-11 &<@11-15 [eof]@15-15", ""}})
		m := inPlain("p").machine() // from another text, too
		m.Set(text)
		checkTokens(t, "<b> in a text that is none", feed(m, chars("<b>")), []api.Token{{Kind: api.TokStart, Name: "b", Span: api.Span{From: 0, To: 3}}})
	}
}

// What Set says holds from the next character on, and till a tag is told.
func TestSetBetween(t *testing.T) {
	m := inPlain("p").machine()
	got := feed(m, chars("<b>"))
	m.Set(api.TextRc)
	m.Set(api.TextRaw)
	got = append(got, feed(m, chars("&lt;</p><i>&lt;"))...)
	m.Set(api.TextPlain)
	got = append(got, feed(m, chars("&lt;"))...)
	if s := told(got); s != "'<b>@0-3 '&lt;@0-4 </p>@4-8 <i>@8-11 &<@11-15 '&lt;@0-4" {
		t.Error(s)
	}
	checkFaults(t, "faults", m.Faults(), nil)
}

func TestForeign(t *testing.T) {
	m := New()
	read := func() string { return told(feed(m, chars("<![CDATA[x]]>"))) }
	m.Foreign(true)
	if s := read() + " " + read(); s != "'x@9-10 'x@9-10" {
		t.Errorf("CDATA may be: %s", s)
	}
	m.Foreign(false)
	if s := read(); s != "<!--[CDATA[x]]-->@0-13" {
		t.Errorf("CDATA may not be: %s", s)
	}
	feed(m, chars("<![CDATA"))
	m.Foreign(true) // ahead of its last character
	if s := told(feed(m, chars("[x]]>"))); s != "'x@1-2" {
		t.Errorf("CDATA may be: %s", s)
	}
	feed(m, chars("<![CDATA["))
	m.Foreign(false) // behind it
	if s := told(feed(m, chars("x]]>y"))); s != "'x@0-1 'y@4-5" {
		t.Errorf("CDATA might be: %s", s)
	}
	checkFaults(t, "faults", m.Faults(), []api.Fault{{Code: api.FaultCdata, At: 2}})
}

// Faults come in the order in which they are met; one's place may be ahead of that of one that came earlier.
func TestFaultsInOrder(t *testing.T) {
	checkSaid(t, []said{
		{inData(), "<a \" \"'=1>", "<a \"=\"\" \"'=\"1\">@0-10 [eof]@10-10", "AttrChar@3 AttrChar@5 AttrChar@6"},
		{inData(), "<a '' ''=1>", "<a ''=\"\">@0-11 [eof]@11-11", "AttrChar@3 AttrChar@4 AttrChar@6 AttrChar@7 Double@6"},
		{inData(), "</a b b==/>", "</a>@0-11 [eof]@11-11", "Double@6 AttrChar@8 EndAttr@0"},
		{inData(), "</a b=>", "</a>@0-7 [eof]@7-7", "Value@6 EndAttr@0"},
		{inData(), "&#0x", "&\uFFFD@0-3 'x@3-4 [eof]@4-4", "RefNum@0 RefSemi@3"},
		{inData(), "<!dx", "<!--dx-->@0-4 [eof]@4-4", "Bogus@2"},
	})
	m := New()
	feed(m, chars("</a b"))
	checkFaults(t, "none yet", m.Faults(), nil)
	feed(m, chars(">"))
	want := []api.Fault{{Code: api.FaultEndAttr, At: 0}}
	checkFaults(t, "one", m.Faults(), want)
	checkFaults(t, "read again", m.Faults(), want)
	feed(m, chars("</>"))
	m.End(3)
	m.End(4)
	want = append(want, api.Fault{Code: api.FaultEndOpen, At: 2})
	checkFaults(t, "behind the end", m.Faults(), want)
	feed(m, chars("<"))
	m.End(1)
	want = append(want, api.Fault{Code: api.FaultTagOpen, At: 1})
	checkFaults(t, "behind two ends", m.Faults(), want)
}

func TestNil(t *testing.T) {
	var m *Machine
	m.Set(api.TextRaw)
	m.Foreign(true)
	for _, c := range chars("a<b>&lt;") {
		if l := m.Feed(c); len(l) != 0 {
			t.Errorf("Feed: %v", l)
		}
	}
	for _, at := range []int{0, 1, -1, math.MinInt, math.MaxInt} {
		if l := m.End(at); len(l) != 0 {
			t.Errorf("End: %v", l)
		}
	}
	if l := m.Faults(); len(l) != 0 {
		t.Errorf("Faults: %v", l)
	}
	if m.Copy() != nil {
		t.Error("a copy of none")
	}
}

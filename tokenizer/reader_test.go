package tokenizer

import (
	"slices"
	"strings"
	"testing"

	"taffrail/api"
	"taffrail/charref"
	"taffrail/tokens"
	"taffrail/vocab"
)

// reader reads a whole text by looking ahead in it, without states: the machine is held against it.
type reader struct {
	in     []api.Char
	i      int
	end    int
	set    start
	turns  bool // behind each start tag the text is vocab's of its name
	out    []api.Token
	faults []api.Fault
}

// read gives the tokens and faults of a text.
func read(set start, s string, turns bool) ([]api.Token, []api.Fault) {
	r := &reader{in: chars(s), end: len(s), set: set, turns: turns}
	r.set.last = vocab.Lower(set.last)
	for r.i < len(r.in) {
		r.next()
	}
	r.tell(api.TokEof, len(s), len(s))
	return r.out, r.faults
}

func (r *reader) fault(code, at int) { r.faults = append(r.faults, api.Fault{Code: code, At: at}) }

func (r *reader) tell(kind, from, to int) *api.Token {
	r.out = append(r.out, api.Token{Kind: kind, Span: api.Span{From: from, To: to}})
	return &r.out[len(r.out)-1]
}

// plain tells n characters as they are.
func (r *reader) plain(n int) {
	for range n {
		c := r.in[r.i]
		r.tell(api.TokChar, c.From, c.To).R = c.R
		r.i++
	}
}

// rest is the text from character i on.
func (r *reader) rest(i int) string {
	var b strings.Builder
	for _, c := range r.in[min(i, len(r.in)):] {
		b.WriteRune(rune(c.R))
	}
	return b.String()
}

// at gives character i, and 0 behind the end.
func (r *reader) at(i int) int {
	if i < len(r.in) {
		return r.in[i].R
	}
	return 0
}

// byteAt is where character i begins; the end, if there is none.
func (r *reader) byteAt(i int) int {
	if i < len(r.in) {
		return r.in[i].From
	}
	return r.end
}

func (r *reader) next() {
	c, text := r.at(r.i), r.set.text
	switch {
	case c == '&' && (text == api.TextData || text == api.TextRc):
		x, n := r.reference(r.i, false)
		if n == 0 {
			r.plain(1)
			return
		}
		t := r.tell(api.TokChar, r.byteAt(r.i), r.byteAt(r.i+n))
		t.R, t.Self = x, true
		r.i += n
	case c == '<' && text == api.TextData:
		r.angle()
	case c == '<' && text != api.TextPlain && r.ends():
		r.tag(api.TokEnd, r.i+2)
	default:
		r.plain(1)
	}
}

// reference tells the faults of what begins at i, and gives its character and length; 0, 0 without one.
func (r *reader) reference(i int, attr bool) (int, int) {
	x, n, codes := charref.One(r.rest(i), attr)
	for _, code := range codes {
		if code == api.FaultRefSemi {
			r.fault(code, r.byteAt(i+n))
		} else {
			r.fault(code, r.byteAt(i))
		}
	}
	return x, n
}

// ends tells whether the end tag stands here that a text is ended by.
func (r *reader) ends() bool {
	s, last := r.rest(r.i), r.set.last
	if last == "" || len(s) < len(last)+3 || s[:2] != "</" || vocab.Lower(s[2:2+len(last)]) != last {
		return false
	}
	for _, b := range last {
		if !letter(int(b)) {
			return false
		}
	}
	return strings.IndexByte("\t\n\f />", s[2+len(last)]) >= 0
}

func (r *reader) angle() {
	c := r.at(r.i + 1)
	switch {
	case letter(c):
		r.tag(api.TokStart, r.i+1)
	case c == '/' && letter(r.at(r.i+2)):
		r.tag(api.TokEnd, r.i+2)
	case c == '/' && r.at(r.i+2) == '>':
		r.fault(api.FaultEndOpen, r.byteAt(r.i+2))
		r.i += 3
	case c == '/' && r.i+2 == len(r.in):
		r.fault(api.FaultEndOpen, r.end)
		r.plain(2)
	case c == '/':
		r.fault(api.FaultBogus, r.byteAt(r.i+2))
		r.bogus(r.i + 2)
	case c == '?':
		r.fault(api.FaultBogus, r.byteAt(r.i+1))
		r.bogus(r.i + 1)
	case c == '!':
		r.markup()
	default:
		r.fault(api.FaultTagOpen, r.byteAt(r.i+1))
		r.plain(1)
	}
}

// till gives the first character from i on that is one of set, or the end.
func (r *reader) till(i int, set string) int {
	for i < len(r.in) && (r.in[i].R > 127 || strings.IndexByte(set, byte(r.in[i].R)) < 0) {
		i++
	}
	return i
}

// over gives the first character from i on that is none of set, or the end.
func (r *reader) over(i int, set string) int {
	for i < len(r.in) && r.in[i].R < 128 && strings.IndexByte(set, byte(r.in[i].R)) >= 0 {
		i++
	}
	return i
}

func (r *reader) part(i, k int) string {
	s := r.rest(i)
	return s[:len(s)-len(r.rest(k))]
}

const blanks = "\t\n\f "

// closed goes on behind character i, with which what began at r.i ends, or at the end.
func (r *reader) closed(kind, i int) *api.Token {
	t := r.tell(kind, r.byteAt(r.i), r.end)
	if i < len(r.in) {
		t.Span.To = r.in[i].To
	}
	r.i = min(i+1, len(r.in))
	return t
}

func (r *reader) bogus(i int) {
	k := r.till(i, ">")
	text := r.part(i, k)
	r.closed(api.TokComment, k).Text = text
}

func (r *reader) markup() {
	i := r.i + 2
	s := r.rest(i)
	low := vocab.Lower(s)
	switch {
	case strings.HasPrefix(s, "--"):
		r.comment(i + 2)
	case strings.HasPrefix(low, "doctype"):
		r.doctype(i + 7)
	case strings.HasPrefix(s, "[CDATA[") && r.set.foreign:
		r.i = i + 7
		n := strings.Index(r.rest(r.i), "]]>")
		if n < 0 {
			r.plain(len(r.in) - r.i)
			return
		}
		r.plain(len([]rune(r.rest(r.i)[:n])))
		r.i += 3
	case strings.HasPrefix(s, "[CDATA["):
		r.fault(api.FaultCdata, r.byteAt(i))
		r.bogus(i)
	default:
		r.fault(api.FaultBogus, r.byteAt(i))
		r.bogus(i)
	}
}

func (r *reader) comment(i int) {
	s := r.rest(i)
	for _, short := range []string{">", "->"} {
		if strings.HasPrefix(s, short) {
			r.fault(api.FaultAbrupt, r.byteAt(i+len(short)-1))
			r.closed(api.TokComment, i+len(short)-1)
			return
		}
	}
	whole, cut := strings.Index(s, "-->"), strings.Index(s, "--!>")
	switch {
	case whole >= 0 && (cut < 0 || whole < cut):
		r.closed(api.TokComment, i+len([]rune(s[:whole]))+2).Text = s[:whole]
	case cut >= 0:
		k := i + len([]rune(s[:cut])) + 3
		r.fault(api.FaultAbrupt, r.byteAt(k))
		r.closed(api.TokComment, k).Text = s[:cut]
	default:
		r.fault(api.FaultComEof, r.end)
		for _, open := range []string{"--!", "--", "-"} {
			if strings.HasSuffix(s, open) {
				s = s[:len(s)-len(open)]
				break
			}
		}
		r.closed(api.TokComment, len(r.in)).Text = s
	}
}

func (r *reader) doctype(i int) {
	i = r.over(i, blanks)
	k := r.till(i, blanks+">")
	name := vocab.Lower(r.part(i, k))
	more := r.over(k, blanks)
	last := r.till(more, ">")
	odd := name == "" || more < last
	switch {
	case name == "" && more < len(r.in):
		r.fault(api.FaultDoctype, r.byteAt(k))
	case more < last:
		r.fault(api.FaultDoctype, r.byteAt(more))
	}
	if last == len(r.in) {
		odd = true
		r.fault(api.FaultDoctype, r.end)
	}
	t := r.closed(api.TokDoctype, last)
	t.Name, t.Self = name, odd
}

// tag reads a tag whose name begins at i.
func (r *reader) tag(kind, i int) {
	k := r.till(i, blanks+"/>")
	t := api.Token{Kind: kind, Name: vocab.Lower(r.part(i, k))}
	for i = k; ; {
		i = r.over(i, blanks)
		switch {
		case i == len(r.in) || r.at(i) == '/' && i+1 == len(r.in):
			r.fault(api.FaultTagEof, r.end)
			r.i = len(r.in)
			return
		case r.at(i) == '/' && r.at(i+1) == '>':
			t.Self = true
			i++
			fallthrough
		case r.at(i) == '>':
			r.endTag(t, i)
			return
		case r.at(i) == '/':
			r.fault(api.FaultSlash, r.byteAt(i+1))
			i++
		default:
			i = r.attr(&t, i)
		}
	}
}

func (r *reader) endTag(t api.Token, i int) {
	x := r.closed(t.Kind, i)
	x.Name = t.Name
	r.set.text = api.TextData
	if t.Kind == api.TokStart {
		x.Attrs, x.Self = t.Attrs, t.Self
		r.set.last = t.Name
		if r.turns {
			r.set.text = vocab.TextOf(t.Name)
		}
	} else if t.Self || len(t.Attrs) > 0 {
		r.fault(api.FaultEndAttr, x.Span.From)
	}
}

// attr reads the attribute at i, and gives where what stands behind it begins.
func (r *reader) attr(t *api.Token, i int) int {
	k := r.till(i+1, blanks+"/>=") // a = may be its first
	for x := i; x < k; x++ {
		if c := r.at(x); c == '"' || c == '\'' || c == '<' || c == '=' {
			r.fault(api.FaultAttrChar, r.byteAt(x))
		}
	}
	a := api.Attr{Name: vocab.Lower(r.part(i, k))}
	if k == len(r.in) { // the name has no end
		return k
	}
	double := slices.ContainsFunc(t.Attrs, func(x api.Attr) bool { return x.Name == a.Name })
	if double {
		r.fault(api.FaultDouble, r.byteAt(i))
	}
	if x := r.over(k, blanks); r.at(x) == '=' {
		a.Value, k = r.value(r.over(x+1, blanks))
	}
	if !double {
		t.Attrs = append(t.Attrs, a)
	}
	return k
}

// value reads the value at i, and gives where what stands behind it begins.
func (r *reader) value(i int) (string, int) {
	switch sign := r.at(i); sign {
	case '"', '\'':
		s, k := r.valueTill(i+1, string(rune(sign)), "")
		if k < len(r.in) {
			k++
			if k < len(r.in) && r.over(k, blanks+"/>") == k {
				r.fault(api.FaultBetween, r.byteAt(k))
			}
		}
		return s, k
	case '>':
		r.fault(api.FaultValue, r.byteAt(i))
		return "", i
	}
	return r.valueTill(i, blanks+">", "\"'<=`")
}

func (r *reader) valueTill(i int, end, odd string) (string, int) {
	s := ""
	for i < len(r.in) && r.till(i, end) > i {
		c := r.at(i)
		if c == '&' {
			if x, n := r.reference(i, true); n > 0 {
				s += string(rune(x))
				i += n
				continue
			}
		}
		if c < 128 && strings.IndexByte(odd, byte(c)) >= 0 {
			r.fault(api.FaultAttrChar, r.byteAt(i))
		}
		s += string(rune(c))
		i++
	}
	return s, i
}

// machineReads is what the machine makes of it.
func machineReads(set start, s string, turns bool) ([]api.Token, []api.Fault) {
	m := set.machine()
	var out []api.Token
	for _, c := range chars(s) {
		l := m.Feed(c)
		out = append(out, l...)
		if n := len(l); turns && n > 0 && l[n-1].Kind == api.TokStart {
			m.Set(vocab.TextOf(l[n-1].Name))
		}
	}
	return append(out, m.End(len(s))...), m.Faults()
}

func checkRead(t *testing.T, set start, s string, turns bool) {
	t.Helper()
	want, faults := read(set, s, turns)
	got, f := machineReads(set, s, turns)
	if !tokens.List(got, want) || !slices.Equal(f, faults) {
		t.Fatalf("%v %q:\n got %s\nwant %s\n got %s\nwant %s", set, s, told(got), told(want), wrong(f), wrong(faults))
	}
}

// The reader itself is held against the tables.
func TestReader(t *testing.T) {
	for _, x := range slices.Concat(refRows(), endRows(), slices.Concat(rowLists()...)) {
		got, faults := read(x.in, x.s, false)
		if told(got) != x.tokens || wrong(faults) != x.faults {
			t.Errorf("%v %q:\n got %s\nwant %s\n got %s\nwant %s", x.in, x.s, told(got), x.tokens, wrong(faults), x.faults)
		}
	}
}

func rowLists() [][]said {
	var l [][]said
	for _, x := range rows() {
		l = append(l, x)
	}
	return l
}

// each calls f with all texts of up to n signs of set.
func each(set []string, n int, f func(string)) {
	f("")
	if n == 0 {
		return
	}
	var grow func(s string, n int)
	grow = func(s string, n int) {
		for _, x := range set {
			f(s + x)
			if n > 1 {
				grow(s+x, n-1)
			}
		}
	}
	grow("", n)
}

func signs(s string) []string { return strings.Split(s, "") }

func TestAllShortTexts(t *testing.T) {
	t.Parallel()
	for _, x := range []struct {
		in    start
		ahead string
		set   []string
		n     int
	}{
		{inData(), "", signs("<>/a !?-é"), 5},
		{inData(), "<a", signs(" />=\"b"), 6},
		{inData(), "</a", signs(" />='b"), 5},
		{inData(), "<a b", signs(" =/>'\"<b"), 5},
		{inData(), "<a b=c ", signs(" =/>'\"Bc"), 4},
		{inData(), "<a b=", signs(" =/>'\"`<&c"), 4},
		{inData(), "<a b='", signs("'&lt; >\"="), 4},
		{inData(), "<a b=&lt", signs("';i=1 >&\""), 4},
		{inData(), "<!-", signs("-!>a"), 7},
		{inData(), "<!", []string{"doc", "DOC", "type", "TYPE", "t", " ", ">", "x", "-", "--"}, 4},
		{inForeign(), "<!", []string{"[CDATA", "[CDA", "TA", "[", "]", ">", "x", "&lt;"}, 5},
		{inForeign(), "<![CDATA[", signs("]>x"), 7},
		{inData(), "<!doctype", signs(" >Xy\n\""), 5},
		{inRc("p"), "", signs("</pP> &"), 5},
		{inRaw("p"), "", signs("</pP> &"), 5},
		{inRaw("p"), "</p", signs("/> b=p<"), 5},
		{inPlain("p"), "", signs("</p>&"), 4},
		{inData(), "&", signs("#xX1aG;&<"), 4},
		{inData(), "&n", signs("otin;=&"), 5},
		{inRc("p"), "&l", signs("t;</p> "), 5},
	} {
		each(x.set, x.n, func(s string) { checkRead(t, x.in, x.ahead+s, false) })
	}
}

// made gives texts from pieces by a row of numbers that is always the same.
func made(pieces []string, count, size int, f func(string)) {
	seed := uint64(1)
	draw := func(n int) int {
		seed = seed*6364136223846793005 + 1442695040888963407
		return int(seed>>33) % n
	}
	for range count {
		var b strings.Builder
		for range 1 + draw(size) {
			b.WriteString(pieces[draw(len(pieces))])
		}
		f(b.String())
	}
}

func TestMadeTexts(t *testing.T) {
	t.Parallel()
	pieces := []string{
		"<", ">", "/", "</", "/>", "<a", "</a>", "<p ", "</p", "<title>", "</title>", "</TITLE ", "<script>", "</script>", "<plaintext>", "<style/>", " ", "\n", "\r\n", "=", "\"", "'", "`", "a", "B", "b=1", "c='", "d=\"",
		"&", "&lt", "&lt;", "&noti", "n;", "&#", "&#x", "41", ";", "&am;", "#", "é", "€", "😀", "\x00", "\xFF", "<!", "<!--", "--", "-", "-->", "--!>", "!", "<!doctype", "<!DOCTYPE html>", "<![CDATA[", "]", "]]>", "?", "<?",
	}
	ins := starts()
	i := 0
	made(pieces, 20000, 24, func(s string) {
		checkRead(t, ins[i%len(ins)], s, i%2 == 0)
		i++
	})
}

// Of the texts of the tables, cut off at each place.
func TestBeginningsOfTexts(t *testing.T) {
	t.Parallel()
	for _, x := range slices.Concat(refRows(), endRows(), slices.Concat(rowLists()...)) {
		for i := range len(x.s) {
			checkRead(t, x.in, x.s[:i], false)
			checkRead(t, x.in, x.s[:i], true)
		}
	}
}

// A text is covered: no two tokens of it have a byte both, and they come in order.
func TestSpansRise(t *testing.T) {
	for _, x := range everything() {
		got, _ := x.in.all(x.s)
		at := 0
		for _, k := range got {
			if k.Span.From < at || k.Span.To < k.Span.From || k.Span.To > len(x.s) {
				t.Errorf("%v %q: %s", x.in, x.s, told(got))
				break
			}
			at = k.Span.To
		}
		if n := len(got); n == 0 || got[n-1].Span != (api.Span{From: len(x.s), To: len(x.s)}) {
			t.Errorf("%v %q: the last is not at the end: %s", x.in, x.s, told(got))
		}
	}
}

package rawtext

import (
	"slices"
	"strings"
	"testing"

	"taffrail/api"
	"taffrail/tokens"
)

// row is a text that is laid piece by piece, with what its pieces are to be: the spans come of the pieces' lengths.
type row struct {
	s      string
	want   []api.Token
	faults []api.Fault
}

func lay() *row { return &row{} }

func (r *row) put(piece string, t api.Token) *row {
	t.Span = api.Span{From: len(r.s), To: len(r.s) + len(piece)}
	r.want = append(r.want, t)
	return r.skip(piece)
}

// skip lays a piece of which no token comes.
func (r *row) skip(piece string) *row {
	r.s += piece
	return r
}

// char lays a piece that is one character.
func (r *row) char(piece string, c int) *row {
	return r.put(piece, api.Token{Kind: api.TokChar, R: c})
}

// chars lays characters that stand for themselves.
func (r *row) chars(piece string) *row {
	for _, c := range piece {
		r.char(string(c), int(c))
	}
	return r
}

func (r *row) ref(piece string, c int) *row {
	return r.put(piece, api.Token{Kind: api.TokChar, R: c, Self: true})
}

func (r *row) start(piece, name string, l ...api.Attr) *row {
	return r.put(piece, api.Token{Kind: api.TokStart, Name: name, Attrs: l})
}

// shut lays a start tag with / ahead of >.
func (r *row) shut(piece, name string, l ...api.Attr) *row {
	return r.put(piece, api.Token{Kind: api.TokStart, Name: name, Attrs: l, Self: true})
}

func (r *row) end(piece, name string) *row {
	return r.put(piece, api.Token{Kind: api.TokEnd, Name: name})
}

func (r *row) comment(piece, text string) *row {
	return r.put(piece, api.Token{Kind: api.TokComment, Text: text})
}

func (r *row) doctype(piece, name string) *row {
	return r.put(piece, api.Token{Kind: api.TokDoctype, Name: name})
}

func (r *row) fault(code, at int) *row {
	r.faults = append(r.faults, api.Fault{Code: code, At: at})
	return r
}

func attr(name, value string) api.Attr { return api.Attr{Name: name, Value: value} }

func eof(at int) api.Token {
	return api.Token{Kind: api.TokEof, Span: api.Span{From: at, To: at}}
}

func (r *row) check(t *testing.T, call string, got []api.Token, faults []api.Fault) {
	t.Helper()
	if want := append(slices.Clone(r.want), eof(len(r.s))); !tokens.List(got, want) {
		t.Errorf("%s of %q:\n got %+v\nwant %+v", call, r.s, got, want)
	}
	if !slices.Equal(faults, r.faults) {
		t.Errorf("%s of %q: faults\n got %+v\nwant %+v", call, r.s, faults, r.faults)
	}
}

func (r *row) checkTokens(t *testing.T, text int, last string) {
	t.Helper()
	got, faults := Tokens(r.s, text, last)
	r.check(t, "Tokens", got, faults)
}

func (r *row) checkData(t *testing.T) {
	t.Helper()
	got, faults := Data(r.s)
	r.check(t, "Data", got, faults)
}

// The chapter's examples, written out.
func TestExamples(t *testing.T) {
	got, faults := Tokens("a</b></i>", api.TextRaw, "i")
	want := []api.Token{
		{Kind: api.TokChar, R: 'a', Span: api.Span{From: 0, To: 1}},
		{Kind: api.TokChar, R: '<', Span: api.Span{From: 1, To: 2}},
		{Kind: api.TokChar, R: '/', Span: api.Span{From: 2, To: 3}},
		{Kind: api.TokChar, R: 'b', Span: api.Span{From: 3, To: 4}},
		{Kind: api.TokChar, R: '>', Span: api.Span{From: 4, To: 5}},
		{Kind: api.TokEnd, Name: "i", Span: api.Span{From: 5, To: 9}},
		{Kind: api.TokEof, Span: api.Span{From: 9, To: 9}},
	}
	if !tokens.List(got, want) || len(faults) != 0 {
		t.Errorf("got %+v %+v, want %+v", got, faults, want)
	}
	if at, ok := Ends("a</b></i>", "i"); at != 5 || !ok {
		t.Errorf("Ends: %d %v, want 5 true", at, ok)
	}
}

// Example 7 of the document's whole.
func TestScriptIsOneText(t *testing.T) {
	lay().start("<script>", "script").chars("<b>").end("</script>", "script").checkData(t)
}

func TestEmptyText(t *testing.T) {
	for text := api.TextData; text <= api.TextPlain; text++ {
		for _, last := range []string{"", "i", "I"} {
			lay().checkTokens(t, text, last)
		}
	}
	lay().checkData(t)
}

// One text, as each of the four reads it.
func TestTexts(t *testing.T) {
	rc := func(last string) *row {
		return lay().chars("a").ref("&lt;", '<').chars("<b></b>").end("</"+last+">", last).ref("&gt;", '>').start("<b>", "b").end("</b>", "b")
	}
	raw := func(last string) *row {
		return lay().chars("a&lt;<b></b>").end("</"+last+">", last).ref("&gt;", '>').start("<b>", "b").end("</b>", "b")
	}
	for _, last := range []string{"i", "p", "title", "abcdefghijklmnopqrstuvwxyz", strings.Repeat("z", 300)} {
		rc(last).checkTokens(t, api.TextRc, last)
		raw(last).checkTokens(t, api.TextRaw, last)
	}
	data := lay().chars("a").ref("&lt;", '<').start("<b>", "b").end("</b>", "b").end("</i>", "i").ref("&gt;", '>').start("<b>", "b")
	plain := lay().chars("a&lt;<b></b></i>&gt;<b></b>")
	without := func(name string) *row { return lay().chars("a&lt;<b></b></" + name + ">&gt;<b>") }
	for _, last := range []string{"", "i", "b"} {
		data.checkTokens(t, api.TextData, last)
		plain.checkTokens(t, api.TextPlain, last)
		without("j").checkTokens(t, api.TextPlain, last)
	}
	without("i").checkTokens(t, api.TextRaw, "")
	lay().chars("a").ref("&lt;", '<').chars("<b></b></i>").ref("&gt;", '>').chars("<b>").checkTokens(t, api.TextRc, "")
}

func TestOtherTextsAreData(t *testing.T) {
	const least, most = -1 << 63, 1<<63 - 1
	for _, text := range []int{least, least + 1, -1 << 32, -2, -1, api.TextPlain + 1, 5, 1 << 31, 1<<32 + api.TextRaw, 1<<32 + api.TextPlain, most - 1, most} {
		for _, last := range []string{"", "b"} {
			lay().chars("a").ref("&amp;", '&').start("<i>", "i").comment("<!--x-->", "x").end("</b>", "b").checkTokens(t, text, last)
		}
	}
}

// All kinds of tokens, with all their fields.
func TestKindsOfTokens(t *testing.T) {
	lay().doctype("<!DOCTYPE Html>", "html").start("<A B=1 c='&lt;' d>", "a", attr("b", "1"), attr("c", "<"), attr("d", "")).
		shut("<br x=\"y\"/>", "br", attr("x", "y")).char("\r\n", '\n').char("\r", '\n').chars("é€😀").ref("&#x41;", 'A').
		comment("<!-- c -->", " c ").skip("</>").fault(api.FaultEndOpen, 74).end("</A\t>", "a").checkTokens(t, api.TextData, "x")
}

// Tokens alone sets no text behind a start tag: that is Data's.
func TestTokensTurnNoText(t *testing.T) {
	turning := func(r *row) *row {
		return r.start("<script>", "script").start("<b>", "b").ref("&lt;", '<').start("<plaintext>", "plaintext").start("<title>", "title").start("<i>", "i")
	}
	turning(lay()).checkTokens(t, api.TextData, "")
	turning(lay()).checkTokens(t, api.TextData, "script")
	turning(lay().chars("<script>").end("</i>", "i")).checkTokens(t, api.TextRaw, "i")
	turning(lay().chars("<title>").end("</title>", "title")).checkTokens(t, api.TextRc, "title")
	// Also such a name ahead: the text is the one that was asked for.
	lay().start("<b>", "b").end("</plaintext>", "plaintext").checkTokens(t, api.TextData, "plaintext")
	lay().chars("<b>&lt;").end("</title>", "title").checkTokens(t, api.TextRaw, "title")
	lay().chars("<b>").ref("&lt;", '<').end("</script>", "script").checkTokens(t, api.TextRc, "script")
	lay().chars("<b>&lt;</b>").checkTokens(t, api.TextPlain, "b")
}

// wrongNames are no names of letters a to z alone; each would end a text that i ends, or be told, or be a fault, were it fed as it is.
func wrongNames() []string {
	return []string{
		"I", "iI", "Ii", "İ", "ı", "i1", "1i", "h1", "1", "i ", " i", " ", "i\t", "i\n", "i\r", "\x00", "i\x00", "i>", "i>x", ">", "i/", "/i", "i/>", "i b", "i b=1", "i b=1 b=2", "<", "i<", "<i", "!--", "?", "!",
		"i&lt;", "é", "ié", "\xFF", "i\xFF", "i\xC3", "\xE2\x82", "i-j", "i:j", "`", "{", "i`", "{i", "@", "[", "i'", "i\"", "=", "i=",
	}
}

func TestWrongNamesAreNone(t *testing.T) {
	for _, last := range wrongNames() {
		for _, s := range []string{"", "</i>", "x</I >&lt;", "</b></h>", "'\">--></i>", "</ii>"} {
			for text := api.TextData; text <= api.TextPlain; text++ {
				want, wantFaults := Tokens(s, text, "")
				got, faults := Tokens(s, text, last)
				if !tokens.List(got, want) || !slices.Equal(faults, wantFaults) {
					t.Errorf("%q in %d, last %q:\n got %+v %v\nwant %+v %v", s, text, last, got, faults, want, wantFaults)
				}
			}
		}
		if s := "</" + last + ">"; strings.ToValidUTF8(s, "") == s && !strings.ContainsAny(s, "\r\x00") {
			lay().chars(s).checkTokens(t, api.TextRaw, last)
		}
		lay().chars("</i></I></i b=1 b=2></ii>").checkTokens(t, api.TextRaw, last)
	}
}

// Each name of one letter, and the bytes around the letters.
func TestNamesOfOneByte(t *testing.T) {
	for b := range 256 {
		last := string([]byte{byte(b)})
		is := b >= 'a' && b <= 'z'
		if at, ok := Ends("xy</"+last+">", last); ok != is || is && at != 2 || !is && at != 0 {
			t.Errorf("last % X: %d %v", last, at, ok)
		}
		got, _ := Tokens("</"+last+">", api.TextRaw, last)
		if has := slices.ContainsFunc(got, func(x api.Token) bool { return x.Kind == api.TokEnd }); has != is {
			t.Errorf("last % X: %+v", last, got)
		}
	}
}

// The start tag ahead leaves nothing in what is told: neither a token nor a fault nor a place ahead of 0.
func TestTagAheadIsNotTold(t *testing.T) {
	for _, last := range []string{"a", "i", "script", "plaintext", "br", strings.Repeat("ab", 1000)} {
		for text := api.TextData; text <= api.TextPlain; text++ {
			lay().checkTokens(t, text, last)
			lay().chars("x").checkTokens(t, text, last)
			lay().chars(">").checkTokens(t, text, last)
			lay().chars(last+">").checkTokens(t, text, last)
			got, faults := Tokens("\x00<\x01</ <a/b></a/>&#0<", text, last)
			for _, x := range got {
				if x.Span.From < 0 || x.Span.To > 22 || x.Span.From > x.Span.To {
					t.Errorf("last %q in %d: %+v", last, text, x)
				}
			}
			for _, f := range faults {
				if f.At < 0 || f.At > 22 {
					t.Errorf("last %q in %d: %+v", last, text, f)
				}
			}
		}
	}
}

// What the end makes sure, of the bytes and of the machine, and the place of the end.
func TestEndOfText(t *testing.T) {
	lay().chars("a").char("\xE2\x82", 0xFFFD).fault(api.FaultUtf8, 1).checkTokens(t, api.TextPlain, "")
	lay().chars("a").char("\r", '\n').checkTokens(t, api.TextRaw, "i")
	lay().chars("é€😀").checkTokens(t, api.TextRc, "i")
	lay().chars("<").fault(api.FaultTagOpen, 1).checkTokens(t, api.TextData, "")
	lay().chars("</").fault(api.FaultEndOpen, 2).checkTokens(t, api.TextData, "")
	lay().chars("é</i").checkTokens(t, api.TextRaw, "i")
	lay().chars("é").skip("</i \xF0").fault(api.FaultUtf8, 6).fault(api.FaultTagEof, 7).checkTokens(t, api.TextRaw, "i")
	lay().chars("é").skip("</i\r").fault(api.FaultTagEof, 6).checkTokens(t, api.TextRaw, "i")
	lay().skip("<a \r").fault(api.FaultTagEof, 4).checkTokens(t, api.TextData, "i")
	lay().comment("<!--é", "é").fault(api.FaultComEof, 6).checkTokens(t, api.TextData, "i")
	lay().comment("<!--\xC3", "\uFFFD").fault(api.FaultUtf8, 4).fault(api.FaultComEof, 5).checkTokens(t, api.TextData, "")
	lay().ref("&lt", '<').fault(api.FaultRefSemi, 3).checkTokens(t, api.TextRc, "i")
	lay().chars("&l").char("\xC3", 0xFFFD).fault(api.FaultUtf8, 2).checkTokens(t, api.TextRc, "")
	lay().ref("&#65", 'A').char("\r", '\n').fault(api.FaultRefSemi, 4).checkTokens(t, api.TextData, "i")
}

// Bytes that are no character, odd characters and line ends in each text.
func TestBytesOfTexts(t *testing.T) {
	for text := api.TextData; text <= api.TextPlain; text++ {
		lay().char("\x00", 0xFFFD).fault(api.FaultNull, 0).char("\xFF", 0xFFFD).fault(api.FaultUtf8, 1).char("\x01", 1).fault(api.FaultControl, 2).
			char("\xEF\xBF\xBE", 0xFFFE).fault(api.FaultNonchar, 3).char("\xE2\x82", 0xFFFD).fault(api.FaultUtf8, 6).chars("A").char("\r\n", '\n').char("\r", '\n').char("\r\n", '\n').chars("\n😀").checkTokens(t, text, "i")
	}
	lay().chars("é</i").char("\x00", 0xFFFD).fault(api.FaultNull, 5).chars(">").end("</i\r\n>", "i").checkTokens(t, api.TextRaw, "i")
	lay().start("<a\x00 b=\xFF>", "a\uFFFD", attr("b", "\uFFFD")).fault(api.FaultNull, 2).fault(api.FaultUtf8, 6).checkData(t)
}

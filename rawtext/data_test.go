package rawtext

import (
	"strings"
	"testing"

	"taffrail/api"
)

// named is a name, and the text that stands behind its start tag.
type named struct {
	name string
	text int
}

// textNames are those behind which another text than TextData stands.
func textNames() []named {
	return []named{
		{"title", api.TextRc}, {"textarea", api.TextRc},
		{"style", api.TextRaw}, {"script", api.TextRaw}, {"xmp", api.TextRaw}, {"iframe", api.TextRaw}, {"noembed", api.TextRaw},
		{"plaintext", api.TextPlain},
	}
}

// mixed gives name with every second letter in upper case.
func mixed(name string) string {
	b := []byte(name)
	for i := 0; i < len(b); i += 2 {
		b[i] -= 'a' - 'A'
	}
	return string(b)
}

// opened gives rows that begin with each form of a start tag of that name.
func opened(name string) []*row {
	var l []*row
	for _, written := range []string{name, strings.ToUpper(name), mixed(name)} {
		l = append(l,
			lay().start("<"+written+">", name),
			lay().chars("é ").start("<"+written+"\n>", name),
			lay().start("<"+written+" a=1 B='>'>", name, attr("a", "1"), attr("b", ">")),
			lay().shut("<"+written+"/>", name),
			lay().shut("<"+written+" a=\"1\" />", name, attr("a", "1")),
			lay().start("<b>", "b").end("</"+name+">", name).start("<"+written+">", name),
		)
	}
	return l
}

// inside lays what stands in a text, as the text reads it.
func (r *row) inside(text int) *row {
	switch text {
	case api.TextData:
		return r.start("<b>", "b").ref("&amp;", '&').end("</b>", "b").comment("<!--c-->", "c")
	case api.TextRc:
		return r.chars("<b>").ref("&amp;", '&').chars("</b><!--c-->")
	}
	return r.chars("<b>&amp;</b><!--c-->")
}

func TestDataNames(t *testing.T) {
	for _, x := range textNames() {
		name, text := x.name, x.text
		for i := range opened(name) {
			next := func() *row { return opened(name)[i].inside(text) }
			next().checkData(t)
			next().chars("</" + name).checkData(t)
			next().chars("</" + name + "x></").checkData(t)
			for _, other := range textNames() {
				if other.name != name {
					next().chars("<" + other.name + "></" + other.name + ">").inside(text).checkData(t)
				}
			}
			if text == api.TextPlain {
				next().chars("</" + name + ">").inside(text).checkData(t)
				continue
			}
			for _, written := range []string{name, strings.ToUpper(name), mixed(name)} {
				next().end("</"+written+">", name).inside(api.TextData).checkData(t)
				next().end("</"+written+"\f>", name).inside(api.TextData).end("</"+written+">", name).inside(api.TextData).checkData(t)
				next().end("</"+written+">", name).start("<"+written+">", name).inside(text).end("</"+written+" \r\n>", name).inside(api.TextData).checkData(t)
			}
		}
	}
}

// Names that are none of them, though some look like one.
func TestDataOtherNames(t *testing.T) {
	for _, name := range []string{"a", "b", "p", "h1", "svg", "math", "noscript", "noframes", "textare", "titles", "xtitle", "scripts", "scrip", "script-", "plaintex", "template", "select", "listing", "pre", "tıtle", "style\u00A0"} {
		lay().start("<"+name+">", name).inside(api.TextData).end("</"+name+">", name).inside(api.TextData).checkData(t)
		lay().start("<title>", "title").chars("<"+name+">").inside(api.TextRc).end("</title>", "title").start("<"+name+">", name).inside(api.TextData).checkData(t)
	}
}

func TestDataNested(t *testing.T) {
	lay().start("<title>", "title").chars("<title>").end("</title>", "title").end("</title>", "title").checkData(t)
	lay().start("<script>", "script").chars("<style>").end("</script>", "script").end("</style>", "style").checkData(t)
	lay().start("<textarea>", "textarea").chars("<script>").end("</textarea>", "textarea").start("<script>", "script").chars("</textarea>&lt;").end("</script>", "script").checkData(t)
	lay().start("<xmp>", "xmp").chars("<plaintext>").end("</xmp>", "xmp").start("<plaintext>", "plaintext").chars("</xmp></plaintext>").checkData(t)
	lay().start("<svg>", "svg").start("<title>", "title").chars("<b>").end("</title>", "title").end("</svg>", "svg").checkData(t)
	lay().start("<b>", "b").start("<i>", "i").start("<style>", "style").chars("</i></b>").end("</style>", "style").end("</i>", "i").end("</b>", "b").checkData(t)
}

// End tags, and start tags that are none, change no text.
func TestDataWithoutStart(t *testing.T) {
	for _, x := range textNames() {
		name := x.name
		lay().end("</"+name+">", name).inside(api.TextData).checkData(t)
		lay().comment("<!--<"+name+">-->", "<"+name+">").inside(api.TextData).checkData(t)
		lay().start("<b "+name+">", "b", attr(name, "")).inside(api.TextData).checkData(t)
		lay().start("<b c='<"+name+">'>", "b", attr("c", "<"+name+">")).inside(api.TextData).checkData(t)
		lay().ref("&lt;", '<').chars(name + ">").inside(api.TextData).checkData(t)
		lay().comment("<?"+name+">", "?"+name).fault(api.FaultBogus, 1).inside(api.TextData).checkData(t)
		lay().skip("<"+name+" b=1").fault(api.FaultTagEof, len(name)+5).checkData(t)
	}
}

// A reference that > ends within a start tag: the text is set behind the tag all the same.
func TestDataBehindReference(t *testing.T) {
	lay().start("<title a=&lt>", "title", attr("a", "<")).fault(api.FaultRefSemi, 12).chars("<b>").end("</title>", "title").checkData(t)
	lay().start("<script a=&>", "script", attr("a", "&")).chars("<b>").end("</script>", "script").checkData(t)
	lay().chars("&").start("<style>", "style").chars("&<b>").end("</style>", "style").checkData(t)
	lay().start("<title>", "title").chars("&").end("</title>", "title").start("<b>", "b").checkData(t)
	lay().start("<title>", "title").ref("&lt", '<').fault(api.FaultRefSemi, 10).end("</title>", "title").start("<b>", "b").checkData(t)
}

// CDATA is none in Data, and none in Tokens.
func TestDataHasNoCdata(t *testing.T) {
	lay().start("<svg>", "svg").comment("<![CDATA[x]]>", "[CDATA[x]]").fault(api.FaultCdata, 7).checkData(t)
	lay().comment("<![CDATA[x]]>", "[CDATA[x]]").fault(api.FaultCdata, 2).checkTokens(t, api.TextData, "svg")
}

func TestDataManyTags(t *testing.T) {
	t.Parallel()
	r := lay()
	var text strings.Builder // the row's text, which would be copied anew for each piece else
	add := func(part *row) {
		at := text.Len()
		text.WriteString(part.s)
		for _, x := range part.want {
			x.Span.From += at
			x.Span.To += at
			r.want = append(r.want, x)
		}
	}
	for range 300 {
		for _, x := range textNames() {
			if x.text != api.TextPlain {
				add(lay().start("<"+x.name+" a=1>", x.name, attr("a", "1")).inside(x.text).end("</"+x.name+" >", x.name).inside(api.TextData))
			}
		}
		add(lay().start("<p>", "p").chars("é").end("</p>", "p"))
	}
	r.s = text.String()
	r.checkData(t)
	r.checkSpans(t)
}

// checkSpans checks that Data's spans cover the text without a gap.
func (r *row) checkSpans(t *testing.T) {
	t.Helper()
	got, _ := Data(r.s)
	at := 0
	for _, x := range got {
		if x.Span.From != at || x.Span.To < at {
			t.Fatalf("at byte %d: %+v", at, x)
		}
		at = x.Span.To
	}
}

package tokenizer

import (
	"fmt"
	"math"
	"testing"

	"taffrail/api"
)

func endsInTags() []said {
	return []said{
		{inData(), "", "[eof]@0-0", ""},
		{inData(), "x", "'x@0-1 [eof]@1-1", ""},
		{inData(), "x<", "'x<@0-2 [eof]@2-2", "TagOpen@2"},
		{inData(), "x</", "'x</@0-3 [eof]@3-3", "EndOpen@3"},
		{inData(), "x<a", "'x@0-1 [eof]@3-3", "TagEof@3"},       // TagName
		{inData(), "</ab", "[eof]@4-4", "TagEof@4"},             //
		{inData(), "<a ", "[eof]@3-3", "TagEof@3"},              // BeforeName
		{inData(), "<a b", "[eof]@4-4", "TagEof@4"},             // Name
		{inData(), "<a b b", "[eof]@6-6", "TagEof@6"},           // (the name does not end)
		{inData(), "<a b b ", "[eof]@7-7", "Double@5 TagEof@7"}, // AfterName
		{inData(), "<a b=", "[eof]@5-5", "TagEof@5"},            // BeforeValue
		{inData(), "<a b= ", "[eof]@6-6", "TagEof@6"},
		{inData(), "<a b=\"c>", "[eof]@8-8", "TagEof@8"}, // Double
		{inData(), "<a b='c>", "[eof]@8-8", "TagEof@8"},  // Single
		{inData(), "<a b=c", "[eof]@6-6", "TagEof@6"},    // Bare
		{inData(), "<a b='c'", "[eof]@8-8", "TagEof@8"},  // AfterValue
		{inData(), "<a/", "[eof]@3-3", "TagEof@3"},       // Slash
		{inData(), "</a b/", "[eof]@6-6", "TagEof@6"},    // (no EndAttr: no tag is told)
		{inData(), "<a é", "[eof]@5-5", "TagEof@5"},      //
		{inRc("p"), "x</p ", "'x@0-1 [eof]@5-5", "TagEof@5"},
		{inRaw("p"), "</p/", "[eof]@4-4", "TagEof@4"},
		// A reference in a value is ended first.
		{inData(), "<a b=&", "[eof]@6-6", "TagEof@6"},
		{inData(), "<a b=&lt", "[eof]@8-8", "RefSemi@8 TagEof@8"},
		{inData(), "<a b='&lt", "[eof]@9-9", "RefSemi@9 TagEof@9"},
		{inData(), "<a b=\"&lt", "[eof]@9-9", "RefSemi@9 TagEof@9"},
		{inData(), "<a b=&noti", "[eof]@10-10", "TagEof@10"},
		{inData(), "<a b=&am", "[eof]@8-8", "TagEof@8"},
		{inData(), "<a b=&#", "[eof]@7-7", "RefNum@5 TagEof@7"},
		{inData(), "<a b=\"&#x", "[eof]@9-9", "RefNum@6 TagEof@9"},
		{inData(), "<a b='&#0", "[eof]@9-9", "RefNum@6 RefSemi@9 TagEof@9"},
		{inData(), "</a b=&#65", "[eof]@10-10", "RefSemi@10 TagEof@10"},
	}
}

func endsInMarkup() []said {
	return []said{
		{inData(), "x<?", "'x@0-1 <!--?-->@1-3 [eof]@3-3", "Bogus@2"},
		{inData(), "<?ab", "<!--?ab-->@0-4 [eof]@4-4", "Bogus@1"},
		{inData(), "</ a", "<!-- a-->@0-4 [eof]@4-4", "Bogus@2"},
		{inData(), "<!x", "<!--x-->@0-3 [eof]@3-3", "Bogus@2"},
		{inData(), "<![CDATA[", "<!--[CDATA[-->@0-9 [eof]@9-9", "Cdata@2"},
		// Markup
		{inData(), "x<!", "'x@0-1 <!---->@1-3 [eof]@3-3", "Bogus@3"},
		{inData(), "<!-", "<!----->@0-3 [eof]@3-3", "Bogus@2"},
		{inData(), "<!D", "<!--D-->@0-3 [eof]@3-3", "Bogus@2"},
		{inData(), "<!docTYP", "<!--docTYP-->@0-8 [eof]@8-8", "Bogus@2"},
		{inData(), "<![", "<!--[-->@0-3 [eof]@3-3", "Bogus@2"},
		{inForeign(), "<![CDATA", "<!--[CDATA-->@0-8 [eof]@8-8", "Bogus@2"},
		// ComStart to ComBang
		{inData(), "<!--", "<!---->@0-4 [eof]@4-4", "ComEof@4"},
		{inData(), "<!---", "<!---->@0-5 [eof]@5-5", "ComEof@5"},
		{inData(), "<!--x", "<!--x-->@0-5 [eof]@5-5", "ComEof@5"},
		{inData(), "<!--x-", "<!--x-->@0-6 [eof]@6-6", "ComEof@6"},
		{inData(), "<!--x--", "<!--x-->@0-7 [eof]@7-7", "ComEof@7"},
		{inData(), "<!--x---", "<!--x--->@0-8 [eof]@8-8", "ComEof@8"},
		{inData(), "<!----", "<!---->@0-6 [eof]@6-6", "ComEof@6"},
		{inData(), "<!--x--!", "<!--x-->@0-8 [eof]@8-8", "ComEof@8"},
		{inData(), "<!--x--!-", "<!--x--!-->@0-9 [eof]@9-9", "ComEof@9"},
		{inData(), "<!---é", "<!---é-->@0-7 [eof]@7-7", "ComEof@7"},
		// BeforeDoc to BogusDoc
		{inData(), "<!doctype", "<!doctype !>@0-9 [eof]@9-9", "Doctype@9"},
		{inData(), "<!doctype ", "<!doctype !>@0-10 [eof]@10-10", "Doctype@10"},
		{inData(), "<!doctype Xy", "<!doctype xy!>@0-12 [eof]@12-12", "Doctype@12"},
		{inData(), "<!doctype x ", "<!doctype x!>@0-12 [eof]@12-12", "Doctype@12"},
		{inData(), "<!doctype x yz", "<!doctype x!>@0-14 [eof]@14-14", "Doctype@12 Doctype@14"},
	}
}

func endsInTexts() []said {
	var l []said
	for _, in := range []start{inRc("p"), inRaw("p"), inRc(""), inRaw("")} {
		l = append(l,
			said{in, "x<", "'x<@0-2 [eof]@2-2", ""},
			said{in, "</", "'</@0-2 [eof]@2-2", ""},
			said{in, "</p", "'</p@0-3 [eof]@3-3", ""},
			said{in, "</Pq", "'</Pq@0-4 [eof]@4-4", ""},
		)
	}
	return append(l,
		said{inForeign(), "<![CDATA[", "[eof]@9-9", ""},
		said{inForeign(), "<![CDATA[x", "'x@9-10 [eof]@10-10", ""},
		said{inForeign(), "<![CDATA[x]", "'x]@9-11 [eof]@11-11", ""},
		said{inForeign(), "<![CDATA[x]]", "'x]]@9-12 [eof]@12-12", ""},
		said{inForeign(), "<![CDATA[x]]]", "'x]]]@9-13 [eof]@13-13", ""},
		// A reference in Data, as if no more came.
		said{inData(), "&", "'&@0-1 [eof]@1-1", ""},
		said{inData(), "&l", "'&l@0-2 [eof]@2-2", ""},
		said{inData(), "&lt", "&<@0-3 [eof]@3-3", "RefSemi@3"},
		said{inData(), "x&noti", "'x@0-1 &¬@1-5 'i@5-6 [eof]@6-6", "RefSemi@5"},
		said{inData(), "&#", "'&#@0-2 [eof]@2-2", "RefNum@0"},
		said{inData(), "&#x", "'&#x@0-3 [eof]@3-3", "RefNum@0"},
		said{inData(), "&#65", "&A@0-4 [eof]@4-4", "RefSemi@4"},
		said{inRc("p"), "&noti", "&¬@0-4 'i@4-5 [eof]@5-5", "RefSemi@4"},
		said{inRaw("p"), "&noti", "'&noti@0-5 [eof]@5-5", ""},
		said{inPlain("p"), "&noti</", "'&noti</@0-7 [eof]@7-7", ""},
	)
}

func endRows() []said {
	return append(append(endsInTags(), endsInMarkup()...), endsInTexts()...)
}

func TestEnd(t *testing.T) { checkSaid(t, endRows()) }

// The end may be at any byte: spans that it ends, and the faults that it makes, are there.
func TestEndAtAnyByte(t *testing.T) {
	for _, at := range []int{100, 0, -1, -7, math.MinInt, math.MaxInt} {
		for _, x := range []struct{ s, tokens, faults string }{
			{"x", "", ""},
			{"<", "'<@0-1 ", "TagOpen@%d"},
			{"</", "'</@0-2 ", "EndOpen@%d"},
			{"<a", "", "TagEof@%d"},
			{"<?x", "<!--?x-->@0-%d ", "Bogus@1"},
			{"<!", "<!---->@0-%d ", "Bogus@%d"},
			{"<!-", "<!----->@0-%d ", "Bogus@2"},
			{"<!--x", "<!--x-->@0-%d ", "ComEof@%d"},
			{"<!doctype x", "<!doctype x!>@0-%d ", "Doctype@%d"},
			{"&lt", "&<@0-3 ", "RefSemi@3"},
			{"<a b=&lt", "", "RefSemi@8 TagEof@%d"},
		} {
			m := New()
			feed(m, chars(x.s))
			place := func(s string) string {
				for i := range len(s) {
					if s[i] == '%' {
						return fmt.Sprintf(s, at)
					}
				}
				return s
			}
			want := place(x.tokens) + fmt.Sprintf("[eof]@%d-%d", at, at)
			if got := told(m.End(at)); got != want {
				t.Errorf("%s, end at %d: %s, want %s", x.s, at, got, want)
			}
			if got := wrong(m.Faults()); got != place(x.faults) {
				t.Errorf("%s, end at %d: %s, want %s", x.s, at, got, place(x.faults))
			}
		}
	}
}

// TokEof is the last token, and the only one of its kind, whatever was fed.
func TestEofIsLast(t *testing.T) {
	for _, in := range starts() {
		for _, s := range unfinished() {
			got, _ := in.all(s)
			for i, x := range got {
				if (x.Kind == api.TokEof) != (i == len(got)-1) {
					t.Errorf("%v %q: %s", in, s, told(got))
				}
			}
		}
	}
}

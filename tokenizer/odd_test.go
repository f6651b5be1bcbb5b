package tokenizer

import (
	"math"
	"strings"
	"testing"

	"taffrail/api"
)

// oddNumbers are no character; cut to 32 bits, some of them would be one that counts.
func oddNumbers() []int {
	return []int{
		-1, -'<', math.MinInt, math.MinInt + '<', 0, 0xD800, 0xDFFF, 0x110000, math.MaxInt32, 1 << 31, 1 << 32,
		1<<32 + '<', 1<<32 + '&', 1<<32 + '>', 1<<32 + 'a', 1<<32 + '/', 1<<32 + ' ', 1<<40 + '-', 1<<40 + ']', math.MaxInt,
	}
}

func oddSpans() []api.Span {
	return []api.Span{api.None(), {From: 0, To: 0}, {From: 5, To: 2}, {From: math.MaxInt, To: math.MinInt}, {From: math.MinInt, To: math.MaxInt}, {From: -3, To: -2}}
}

// Each call ends, and none panics, whatever characters come: in each state, and on from it.
func TestOddCharacters(t *testing.T) {
	spans := oddSpans()
	for _, in := range starts() {
		for _, s := range append(unfinished(), "<a b=c d=e f='&#1", "&#1111111111111111", "<a b b=&lt") {
			for i, r := range oddNumbers() {
				m := in.machine()
				feed(m, chars(s))
				x := spans[i%len(spans)]
				m.Feed(api.Char{R: r, From: x.From, To: x.To})
				c := m.Copy()
				m.Feed(api.Char{R: r, From: x.To, To: x.From})
				feed(m, chars(">-->]]>\"'>&lt;</p>"))
				checkLast(t, m.End(x.To))
				checkLast(t, c.End(x.From))
				m.Faults()
			}
		}
	}
}

func checkLast(t *testing.T, l []api.Token) {
	t.Helper()
	if len(l) == 0 || l[len(l)-1].Kind != api.TokEof {
		t.Errorf("no end: %+v", l)
	}
}

// A number that would be a sign, were it cut to fewer bits, is none.
func TestOddNumbersAreNoSigns(t *testing.T) {
	for _, r := range oddNumbers() {
		c := api.Char{R: r, From: 0, To: 1}
		checkTokens(t, "in Data", New().Feed(c), []api.Token{{Kind: api.TokChar, R: r, Span: api.Span{From: 0, To: 1}}})
		m := New()
		feed(m, chars("<a"))
		checkTokens(t, "in a name", m.Feed(c), nil)
		want := "a\uFFFD"
		if r == 0 {
			want = "a\x00"
		}
		checkTokens(t, "the tag", m.Feed(api.Char{R: '>', From: 3, To: 4}), []api.Token{{Kind: api.TokStart, Name: want, Span: api.Span{From: 0, To: 4}}})
		m = New()
		feed(m, chars("&am"))
		if l := m.Feed(c); len(l) != 4 {
			t.Errorf("%d behind &am: %+v", r, l)
		}
	}
}

// Spans that no stream made are handed on as they are.
func TestOddSpans(t *testing.T) {
	for _, x := range oddSpans() {
		m := New()
		got := m.Feed(api.Char{R: 'x', From: x.From, To: x.To})
		for _, r := range "<b>" {
			got = append(got, m.Feed(api.Char{R: int(r), From: x.From, To: x.To})...)
		}
		checkTokens(t, "spans", got, []api.Token{{Kind: api.TokChar, R: 'x', Span: x}, {Kind: api.TokStart, Name: "b", Span: x}})
	}
}

// Long texts are read in a time that goes with their length, whatever they are made of.
func TestLongTexts(t *testing.T) {
	t.Parallel()
	const n = 200000
	var many strings.Builder
	for i := range n / 4 {
		many.WriteString(" x" + string(rune(0x4E00+i%20000)) + string(rune('a'+i/20000)))
	}
	for name, x := range map[string]struct {
		in     start
		s      string
		tokens int
		faults int
	}{
		"a name":            {inData(), "<" + strings.Repeat("a", n) + ">", 2, 0},
		"a value":           {inData(), "<a b='" + strings.Repeat("c", n) + "'>", 2, 0},
		"an attribute":      {inData(), "<a " + strings.Repeat("c", n) + ">", 2, 0},
		"many attributes":   {inData(), "<a" + many.String() + ">", 2, 0},
		"one of them again": {inData(), "<a" + strings.Repeat(" b", n) + ">", 2, n - 1},
		"a comment":         {inData(), "<!--" + strings.Repeat("-", n) + ">", 2, 0},
		"a bogus comment":   {inData(), "<?" + strings.Repeat("-", n) + ">", 2, 1},
		"a doctype":         {inData(), "<!doctype " + strings.Repeat("a", n) + ">", 2, 0},
		"digits":            {inData(), "&#" + strings.Repeat("9", n) + ";", 2, 1},
		"digits in a value": {inData(), "<a b=&#x" + strings.Repeat("0", n) + "41;>", 2, 0},
		"ampersands":        {inData(), strings.Repeat("&", n), n + 1, 0},
		"angles":            {inData(), strings.Repeat("<", n), n + 1, n},
		"slashes":           {inData(), "<a" + strings.Repeat("/", n) + ">", 2, n - 1},
		"a raw name":        {inRaw("p"), "</" + strings.Repeat("p", n) + ">", n + 4, 0},
		"raw angles":        {inRaw("p"), strings.Repeat("</", n), 2*n + 1, 0},
		"brackets":          {inForeign(), "<![CDATA[" + strings.Repeat("]", n) + ">", n - 1, 0},
	} {
		got, faults := x.in.all(x.s)
		if len(got) != x.tokens || len(faults) != x.faults {
			t.Errorf("%s: %d tokens and %d faults, want %d and %d", name, len(got), len(faults), x.tokens, x.faults)
		}
	}
}

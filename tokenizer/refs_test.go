package tokenizer

import (
	"fmt"
	"slices"
	"strings"
	"testing"

	"taffrail/api"
	"taffrail/charref"
)

func namedRefs() []said {
	return []said{
		{inData(), "&amp;x", "&&@0-5 'x@5-6 [eof]@6-6", ""},
		{inData(), "&ampx", "&&@0-4 'x@4-5 [eof]@5-5", "RefSemi@4"},
		{inData(), "&amp1", "&&@0-4 '1@4-5 [eof]@5-5", "RefSemi@4"},
		{inData(), "&amp=", "&&@0-4 '=@4-5 [eof]@5-5", "RefSemi@4"},
		{inData(), "&amp;;", "&&@0-5 ';@5-6 [eof]@6-6", ""},
		{inData(), "&amp<b>", "&&@0-4 <b>@4-7 [eof]@7-7", "RefSemi@4"},
		{inData(), "&amp</b>", "&&@0-4 </b>@4-8 [eof]@8-8", "RefSemi@4"},
		{inData(), "&amp&amp;", "&&@0-4 &&@4-9 [eof]@9-9", "RefSemi@4"},
		{inData(), "&amp\r\n", "&&@0-4 '\n@4-6 [eof]@6-6", "RefSemi@4"},
		{inData(), "&amp é", "&&@0-4 ' é@4-7 [eof]@7-7", "RefSemi@4"},
		{inData(), "&ampé", "&&@0-4 'é@4-6 [eof]@6-6", "RefSemi@4"},
		{inData(), "&amp\x00", "&&@0-4 '\uFFFD@4-5 [eof]@5-5", "RefSemi@4"},
		{inData(), "&amp", "&&@0-4 [eof]@4-4", "RefSemi@4"},
		{inData(), "&AMP;&AMP&LT;&QUOT", "&&@0-5 &&@5-9 &<@9-13 &\"@13-18 [eof]@18-18", "RefSemi@9 RefSemi@18"},
		{inData(), "é&eacute;&euro;&nbsp;", "'é@0-2 &é@2-10 &€@10-16 &\u00A0@16-22 [eof]@22-22", ""},
		// Names that are the beginning of longer ones.
		{inData(), "&not", "&¬@0-4 [eof]@4-4", "RefSemi@4"},
		{inData(), "&not;", "&¬@0-5 [eof]@5-5", ""},
		{inData(), "&notin;", "&∉@0-7 [eof]@7-7", ""},
		{inData(), "&notin;;", "&∉@0-7 ';@7-8 [eof]@8-8", ""},
		{inData(), "&notin", "&¬@0-4 'in@4-6 [eof]@6-6", "RefSemi@4"},
		{inData(), "&notinx", "&¬@0-4 'inx@4-7 [eof]@7-7", "RefSemi@4"},
		{inData(), "&noti;", "&¬@0-4 'i;@4-6 [eof]@6-6", "RefSemi@4"},
		{inData(), "&notit;", "&¬@0-4 'it;@4-7 [eof]@7-7", "RefSemi@4"},
		{inData(), "&noti<b>", "&¬@0-4 'i@4-5 <b>@5-8 [eof]@8-8", "RefSemi@4"},
		{inData(), "&noti&notin;", "&¬@0-4 'i@4-5 &∉@5-12 [eof]@12-12", "RefSemi@4"},
		{inData(), "&noti&noti", "&¬@0-4 'i@4-5 &¬@5-9 'i@9-10 [eof]@10-10", "RefSemi@4 RefSemi@9"},
		{inData(), "&noti<", "&¬@0-4 'i<@4-6 [eof]@6-6", "RefSemi@4 TagOpen@6"},
		{inData(), "&pi;&piv;&pix;", "&π@0-4 &ϖ@4-9 '&pix;@9-14 [eof]@14-14", ""},
		// Names that are none.
		{inData(), "&am;", "'&am;@0-4 [eof]@4-4", "RefName@0"},
		{inData(), "x&a;y", "'x&a;y@0-5 [eof]@5-5", "RefName@1"},
		{inData(), "&alph;&alpha;&alpha", "'&alph;@0-6 &α@6-13 '&alpha@13-19 [eof]@19-19", "RefName@0"},
		{inData(), "&alphax;", "'&alphax;@0-8 [eof]@8-8", ""},
		{inData(), "&x;&xx;&1;", "'&x;&xx;&1;@0-10 [eof]@10-10", ""},
		{inData(), "&;&;", "'&;&;@0-4 [eof]@4-4", ""},
		{inData(), "&Amp;&aMP;", "'&Amp;&aMP;@0-10 [eof]@10-10", ""},
		{inData(), "&am<b>&am&am;", "'&am@0-3 <b>@3-6 '&am&am;@6-13 [eof]@13-13", "RefName@9"},
		{inData(), "&é;", "'&é;@0-4 [eof]@4-4", ""},
		// & alone.
		{inData(), "&", "'&@0-1 [eof]@1-1", ""},
		{inData(), "&&", "'&&@0-2 [eof]@2-2", ""},
		{inData(), "&&&lt;", "'&&@0-2 &<@2-6 [eof]@6-6", ""},
		{inData(), "& &\t&\r\n&é", "'& &\t&@0-5 '\n@5-7 '&é@7-10 [eof]@10-10", ""},
		{inData(), "&<b>&</b>&<", "'&@0-1 <b>@1-4 '&@4-5 </b>@5-9 '&<@9-11 [eof]@11-11", "TagOpen@11"},
		{inData(), "&=&\"&>", "'&=&\"&>@0-6 [eof]@6-6", ""},
	}
}

func numberRefs() []said {
	return []said{
		{inData(), "&#65;", "&A@0-5 [eof]@5-5", ""},
		{inData(), "&#65;;", "&A@0-5 ';@5-6 [eof]@6-6", ""},
		{inData(), "&#65", "&A@0-4 [eof]@4-4", "RefSemi@4"},
		{inData(), "&#65a", "&A@0-4 'a@4-5 [eof]@5-5", "RefSemi@4"},
		{inData(), "&#65<b>", "&A@0-4 <b>@4-7 [eof]@7-7", "RefSemi@4"},
		{inData(), "&#65&#66;", "&A@0-4 &B@4-9 [eof]@9-9", "RefSemi@4"},
		{inData(), "&#65 é", "&A@0-4 ' é@4-7 [eof]@7-7", "RefSemi@4"},
		{inData(), "&#x41;&#X41;&#x4a;&#X4A;", "&A@0-6 &A@6-12 &J@12-18 &J@18-24 [eof]@24-24", ""},
		{inData(), "&#x41", "&A@0-5 [eof]@5-5", "RefSemi@5"},
		{inData(), "&#x41g&#X4G", "&A@0-5 'g@5-6 &\x04@6-10 'G@10-11 [eof]@11-11", "RefSemi@5 RefNum@6 RefSemi@10"},
		{inData(), "&#x41x", "&A@0-5 'x@5-6 [eof]@6-6", "RefSemi@5"},
		{inData(), "&#0065;&#x00041;", "&A@0-7 &A@7-16 [eof]@16-16", ""},
		{inData(), "é&#x1F600;", "'é@0-2 &😀@2-11 [eof]@11-11", ""},
		// Numbers that are no character.
		{inData(), "&#0;&#x110000;&#xD800;", "&\uFFFD@0-4 &\uFFFD@4-14 &\uFFFD@14-22 [eof]@22-22", "RefNum@0 RefNum@4 RefNum@14"},
		{inData(), "&#x80;&#13;&#xFFFE;&#1;", "&€@0-6 &\r@6-11 &\uFFFE@11-19 &\x01@19-23 [eof]@23-23", "RefNum@0 RefNum@6 RefNum@11 RefNum@19"},
		{inData(), "&#128x", "&€@0-5 'x@5-6 [eof]@6-6", "RefNum@0 RefSemi@5"},
		// Without a digit.
		{inData(), "&#", "'&#@0-2 [eof]@2-2", "RefNum@0"},
		{inData(), "&#x", "'&#x@0-3 [eof]@3-3", "RefNum@0"},
		{inData(), "&#;", "'&#;@0-3 [eof]@3-3", "RefNum@0"},
		{inData(), "&#x;&#X;", "'&#x;&#X;@0-8 [eof]@8-8", "RefNum@0 RefNum@4"},
		{inData(), "&#a;&#xg;&#xx1;", "'&#a;&#xg;&#xx1;@0-15 [eof]@15-15", "RefNum@0 RefNum@4 RefNum@9"},
		{inData(), "&##65;&#&#65;", "'&##65;&#@0-8 &A@8-13 [eof]@13-13", "RefNum@0 RefNum@6"},
		{inData(), "&#<b>&#x<b>", "'&#@0-2 <b>@2-5 '&#x@5-8 <b>@8-11 [eof]@11-11", "RefNum@0 RefNum@5"},
		{inData(), "&#<", "'&#<@0-3 [eof]@3-3", "RefNum@0 TagOpen@3"},
		{inData(), "&#-1;&# 1;&#é", "'&#-1;&# 1;&#é@0-14 [eof]@14-14", "RefNum@0 RefNum@5 RefNum@10"},
		{inData(), "&#\u0661;&#\uFF11;", "'&#\u0661;&#\uFF11;@0-11 [eof]@11-11", "RefNum@0 RefNum@5"},
	}
}

// The texts decide whether a & begins a reference.
func refsByText() []said {
	return []said{
		{inRc("p"), "&lt;&notit;&am;&#65&", "&<@0-4 &¬@4-8 'it;&am;@8-15 &A@15-19 '&@19-20 [eof]@20-20", "RefSemi@8 RefName@11 RefSemi@19"},
		{inRc("p"), "&lt</p>&lt", "&<@0-3 </p>@3-7 &<@7-10 [eof]@10-10", "RefSemi@3 RefSemi@10"},
		{inRc("p"), "&</p>&<b>&#<!", "'&@0-1 </p>@1-5 '&@5-6 <b>@6-9 '&#@9-11 <!---->@11-13 [eof]@13-13", "RefNum@9 Bogus@13"},
		{inRc("p"), "&ltx=", "&<@0-3 'x=@3-5 [eof]@5-5", "RefSemi@3"},
		{inRaw("p"), "&lt;&notit;&am;&#65&&#0", "'&lt;&notit;&am;&#65&&#0@0-23 [eof]@23-23", ""},
		{inRaw("p"), "&</p>&lt;", "'&@0-1 </p>@1-5 &<@5-9 [eof]@9-9", ""},
		{inPlain("p"), "&lt;&notit;&am;&#65&&#0", "'&lt;&notit;&am;&#65&&#0@0-23 [eof]@23-23", ""},
	}
}

// inValue is what a text in a value is turned to; the faults' places are the text's own.
type inValue struct{ s, value, faults string }

// refsInValues are those that are alike in all three kinds of values.
func refsInValues() []inValue {
	return []inValue{
		{"&lt;", "<", ""},
		{"x&lt;y", "x<y", ""},
		{"&lt;;", "<;", ""},
		{"&lt", "<", "RefSemi@3"},
		{"&ltx", "&ltx", ""},
		{"&lt1", "&lt1", ""},
		{"&ltZ;", "&ltZ;", ""},
		{"&lt-", "<-", "RefSemi@3"},
		{"&lté", "<é", "RefSemi@3"},
		{"&lt/", "</", "RefSemi@3"},
		{"&lt&lt;", "<<", "RefSemi@3"},
		{"&lt&lt", "<<", "RefSemi@3 RefSemi@6"},
		{"&not", "¬", "RefSemi@4"},
		{"&notin;", "∉", ""},
		{"&notin", "&notin", ""},
		{"&noti;", "&noti;", ""},
		{"&noti-", "&noti-", ""},
		{"&notit;", "&notit;", ""},
		{"&noti&notin;", "&noti∉", ""},
		{"&am;", "&am;", "RefName@0"},
		{"&am", "&am", ""},
		{"&alpha", "&alpha", ""},
		{"&;&x;", "&;&x;", ""},
		{"&", "&", ""},
		{"&&&lt;", "&&<", ""},
		{"&é", "&é", ""},
		{"&#65;", "A", ""},
		{"&#65", "A", "RefSemi@4"},
		{"&#65a", "Aa", "RefSemi@4"}, // only of names it counts what stands behind
		{"&#x41g", "Ag", "RefSemi@5"},
		{"&#0", "\uFFFD", "RefNum@0 RefSemi@3"},
		{"&#x80;", "€", "RefNum@0"},
		{"&#", "&#", "RefNum@0"},
		{"&#x", "&#x", "RefNum@0"},
		{"&#;", "&#;", "RefNum@0"},
		{"&#xg;", "&#xg;", "RefNum@0"},
		{"&#&#65", "&#A", "RefNum@0 RefSemi@6"},
		{"É&eacute;€&euro;😀", "Éé€€😀", ""},
		{"&#62;&#34;&#39;&#32;&amp;lt;", ">\"' &lt;", ""},
	}
}

func shifted(faults string, by int) string {
	var out []string
	for _, f := range strings.Fields(faults) {
		var at int
		name, place, _ := strings.Cut(f, "@")
		fmt.Sscan(place, &at)
		out = append(out, fmt.Sprintf("%s@%d", name, at+by))
	}
	return strings.Join(out, " ")
}

func valueRefs() []said {
	var l []said
	for _, x := range refsInValues() {
		for _, around := range [][2]string{{"<a b=\"", "\">"}, {"<a b='", "'>"}, {"<a b=", ">"}, {"<a b=", " >"}, {"<a b=", "\n>"}, {"<a b=\"", "\"c>"}} {
			s := around[0] + x.s + around[1]
			faults, rest := shifted(x.faults, len(around[0])), ""
			if around[1] == "\"c>" {
				faults = strings.TrimSpace(fmt.Sprintf("%s Between@%d", faults, len(s)-2))
				rest = " c=\"\""
			}
			l = append(l, said{inData(), s, fmt.Sprintf("<a b=\"%s\"%s>@0-%d [eof]@%d-%d", x.value, rest, len(s), len(s), len(s)), faults})
		}
	}
	return l
}

// What is left over is taken as the kind of the value says.
func leftOver() []said {
	return []said{
		{inData(), "<a b=&lt=>", "<a b=\"&lt=\">@0-10 [eof]@10-10", "AttrChar@8"},
		{inData(), "<a b=\"&lt=\">", "<a b=\"&lt=\">@0-12 [eof]@12-12", ""},
		{inData(), "<a b='&lt='>", "<a b=\"&lt=\">@0-12 [eof]@12-12", ""},
		{inData(), "<a b=&l=>", "<a b=\"&l=\">@0-9 [eof]@9-9", "AttrChar@7"},
		{inData(), "<a b=&=&=>", "<a b=\"&=&=\">@0-10 [eof]@10-10", "AttrChar@6 AttrChar@8"},
		{inData(), "<a b=&lt\"'<`>", "<a b=\"<\"'<`\">@0-13 [eof]@13-13", "RefSemi@8 AttrChar@8 AttrChar@9 AttrChar@10 AttrChar@11"},
		{inData(), "<a b=&noti=>", "<a b=\"&noti=\">@0-12 [eof]@12-12", "AttrChar@10"},
		{inData(), "<a b=&#=>", "<a b=\"&#=\">@0-9 [eof]@9-9", "RefNum@5 AttrChar@7"},
		{inData(), "<a b=&#x`>", "<a b=\"&#x`\">@0-10 [eof]@10-10", "RefNum@5 AttrChar@8"},
		{inData(), "<a b=&am;<>", "<a b=\"&am;<\">@0-11 [eof]@11-11", "RefName@5 AttrChar@9"},
		{inData(), "<a b=\"&lt'\">", "<a b=\"<'\">@0-12 [eof]@12-12", "RefSemi@9"},
		{inData(), "<a b='&lt\"'>", "<a b=\"<\"\">@0-12 [eof]@12-12", "RefSemi@9"},
		{inData(), "<a b=\"&lt>\">", "<a b=\"<>\">@0-12 [eof]@12-12", "RefSemi@9"},
		{inData(), "<a b=\"&lt \">", "<a b=\"< \">@0-12 [eof]@12-12", "RefSemi@9"},
		{inData(), "<a b=\"&lt<\">", "<a b=\"<<\">@0-12 [eof]@12-12", "RefSemi@9"},
		{inData(), "<a b=\"&l\"c=&l>&l", "<a b=\"&l\" c=\"&l\">@0-14 '&l@14-16 [eof]@16-16", "Between@9"},
		{inData(), "<a b=&lt>&lt;", "<a b=\"<\">@0-9 &<@9-13 [eof]@13-13", "RefSemi@8"},
		{inData(), "<a b=&>&lt;", "<a b=\"&\">@0-7 &<@7-11 [eof]@11-11", ""},
		{inData(), "<a b=& c=&\t>", "<a b=\"&\" c=\"&\">@0-12 [eof]@12-12", ""},
		{inData(), "<a b=&lt\r\nc>", "<a b=\"<\" c=\"\">@0-12 [eof]@12-12", "RefSemi@8"},
		{inData(), "</a b=&lt>", "</a>@0-10 [eof]@10-10", "RefSemi@9 EndAttr@0"},
		{inRaw("p"), "</p b=&#0>", "</p>@0-10 [eof]@10-10", "RefNum@6 RefSemi@9 EndAttr@0"},
		// Not in names, comments, doctypes.
		{inData(), "<a&lt; &lt;=1>", "<a&lt; &lt;=\"1\">@0-14 [eof]@14-14", ""},
		{inData(), "<!--&lt;&#0--><!doctype &lt; &lt;><?&#0>", "<!--&lt;&#0-->@0-14 <!doctype &lt;!>@14-34 <!--?&#0-->@34-40 [eof]@40-40", "Doctype@29 Bogus@35"},
	}
}

func refRows() []said {
	return slices.Concat(namedRefs(), numberRefs(), refsByText(), valueRefs(), leftOver())
}

func TestReferences(t *testing.T) { checkSaid(t, refRows()) }

// Each name of api's, with its own character, in Data and in a value.
func TestAllNames(t *testing.T) {
	for _, x := range api.Refs() {
		n, r := 1+len(x.Name), string(rune(x.R))
		faults, inAttr := "", ""
		if !strings.HasSuffix(x.Name, ";") {
			faults, inAttr = fmt.Sprintf("RefSemi@%d", n), fmt.Sprintf("RefSemi@%d", n+6)
		}
		checkSaid(t, []said{
			{inData(), "&" + x.Name, fmt.Sprintf("&%s@0-%d [eof]@%d-%d", r, n, n, n), faults},
			{inData(), "&" + x.Name + " ", fmt.Sprintf("&%s@0-%d ' @%d-%d [eof]@%d-%d", r, n, n, n+1, n+1, n+1), faults},
			{inData(), "<a b='&" + x.Name + "'>", fmt.Sprintf("<a b=\"%s\">@0-%d [eof]@%d-%d", r, n+8, n+8, n+8), inAttr},
		})
	}
}

func TestManyDigits(t *testing.T) {
	for _, x := range []struct{ ahead, digit, behind, r, faults string }{
		{"&#", "0", "65;", "A", ""},
		{"&#x", "0", "41;", "A", ""},
		{"&#", "9", ";", "\uFFFD", "RefNum@0"},
		{"&#X", "f", ";", "\uFFFD", "RefNum@0"},
		{"&#", "0", ";", "\uFFFD", "RefNum@0"},
		{"&#", "9", "", "\uFFFD", "RefNum@0 RefSemi@"},
	} {
		for _, n := range []int{1, 7, 8, 20, 100, 10000} {
			if n < 8 && (x.digit == "9" || x.digit == "f") {
				continue // not above all characters
			}
			s := x.ahead + strings.Repeat(x.digit, n) + x.behind
			faults := x.faults
			if strings.HasSuffix(faults, "@") {
				faults += fmt.Sprint(len(s))
			}
			checkSaid(t, []said{{inData(), s, fmt.Sprintf("&%s@0-%d [eof]@%d-%d", x.r, len(s), len(s), len(s)), faults}})
		}
	}
}

// open tells, by going on in all ways that may count, whether what comes can change something of a reference.
func open(s string, attr bool, ways []string) bool {
	r, n, codes := charref.One(s, attr)
	for _, more := range ways {
		x, k, c := charref.One(s+more, attr)
		if x != r || k != n || !slices.Equal(codes, c) {
			return true
		}
	}
	return false
}

func continuations() []string {
	var l []string
	for b := range 128 {
		l = append(l, string(rune(b)))
	}
	l = append(l, "é", "x1", "x1;", "1;", "#1;", "#x1;", "#xA")
	for _, x := range api.Refs() {
		for i := range len(x.Name) {
			l = append(l, x.Name[i:])
		}
	}
	slices.Sort(l)
	return slices.Compact(l)
}

// beginnings are references and what is nearly one, each ended by what can't belong to it.
func beginnings() []string {
	l := []string{"& ", "&&", "&;", "&<", "&é", "&x ", "&1;", "&#;", "&# ", "&##", "&#x;", "&#xx", "&#x ", "&#Xg", "&#1;", "&#1 ", "&#12a", "&#x1;", "&#x1g", "&#XaF0;", "&#xaF ", "&#x1&", "&#1<", "&#00000000000000000000000000000001;", "&notit;", "&ap;", "&apos", "&apos "}
	for _, x := range api.Refs() {
		for i := range len(x.Name) {
			l = append(l, "&"+x.Name[:i]+"~", "&"+x.Name[:i]+";")
		}
		l = append(l, "&"+x.Name+"~", "&"+x.Name+"z")
	}
	slices.Sort(l)
	return slices.Compact(l)
}

// asker gives what tells whether a reference is open; like beginnings are asked once.
func asker(attr bool) func(string) bool {
	ways, known := continuations(), map[string]bool{}
	return func(s string) bool {
		if _, asked := known[s]; !asked {
			known[s] = open(s, attr, ways)
		}
		return known[s]
	}
}

// A reference is told with the first character behind which nothing can change it, and not ahead of that.
func TestWhenReferencesAreTold(t *testing.T) {
	t.Parallel()
	for _, in := range []start{inData(), inRc("p")} {
		isOpen := asker(false)
		for _, s := range beginnings() {
			m := in.machine()
			for i, c := range chars(s) {
				got, waits := m.Feed(c), isOpen(s[:c.To])
				if waits != (len(got) == 0) {
					t.Errorf("%v %q: character %d tells %s, open: %v", in, s, i, told(got), waits)
				}
				if !waits {
					break
				}
			}
		}
	}
}

// In a value it is to be seen by the faults alone when a reference is sure: they come with it.
func TestWhenReferencesInValuesAreSure(t *testing.T) {
	t.Parallel()
	isOpen := asker(true)
	for _, s := range beginnings() {
		m := New()
		feed(m, chars("<a b=\""))
		for _, c := range chars(s) {
			m.Feed(c)
			part := s[:c.To]
			if isOpen(part) {
				checkFaults(t, part+" is open", m.Faults(), nil)
				continue
			}
			_, _, codes := charref.One(part, true)
			if len(m.Faults()) != len(codes) {
				t.Errorf("%q: %q is sure, and has %s", s, part, wrong(m.Faults()))
			}
			break
		}
	}
}

// sure leans on this: each name that has no ; goes on to one with it, and none goes on behind a ;.
func TestNamesGoOn(t *testing.T) {
	l := api.Refs()
	for _, x := range l {
		if strings.Contains(x.Name[:len(x.Name)-1], ";") {
			t.Errorf("%s goes on behind its ;", x.Name)
		}
		if !strings.HasSuffix(x.Name, ";") && !slices.Contains(l, api.Ref{Name: x.Name + ";", R: x.R}) {
			t.Errorf("%s does not go on", x.Name)
		}
	}
}

// The faults of a reference come ahead of those of what is left, in one call.
func TestFaultsOfReferencesFirst(t *testing.T) {
	m := New()
	feed(m, chars("<a b=&lt"))
	checkFaults(t, "open", m.Faults(), nil)
	m.Feed(api.Char{R: '`', From: 8, To: 9})
	checkFaults(t, "sure", m.Faults(), []api.Fault{{Code: api.FaultRefSemi, At: 8}, {Code: api.FaultAttrChar, At: 8}})
}

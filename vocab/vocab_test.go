package vocab

import (
	"math"
	"slices"
	"strings"
	"testing"

	"taffrail/api"
)

// What the chapter lists, in its own words.
const (
	voidNames    = "area base br col embed hr img input keygen link meta param source track wbr"
	formatNames  = "a b big code em font i nobr s small strike strong tt u"
	impliedNames = "dd dt li optgroup option p rb rp rt rtc"
	headingNames = "h1 h2 h3 h4 h5 h6"
	blockNames   = "address article aside blockquote center details dialog dir div dl fieldset figcaption figure footer header hgroup main menu nav ol section summary ul"
	rcNames      = "title textarea"
	rawNames     = "style script xmp iframe noembed"
	plainNames   = "plaintext"
	htmlNames    = "applet body button caption colgroup dd dt form head html iframe li listing marquee noembed object p plaintext pre script select style table tbody td textarea tfoot th thead title tr xmp"
	svgNames     = "foreignObject desc title"
	mathNames    = "mi mo mn ms mtext"
)

// meaning is all that is told of a name.
type meaning struct {
	void, formats, implied, heading, block bool
	text                                   int
	html, svg, math                        bool
}

func told(name string) meaning {
	return meaning{
		Void(name), Formats(name), Implied(name), Heading(name), Block(name), TextOf(name),
		Special(api.Html, name), Special(api.Svg, name), Special(api.Math, name),
	}
}

func has(list, name string) bool { return slices.Contains(strings.Fields(list), name) }

// asked is what the chapter's lists say of a name.
func asked(name string) meaning {
	m := meaning{
		void: has(voidNames, name), formats: has(formatNames, name), implied: has(impliedNames, name),
		heading: has(headingNames, name), block: has(blockNames, name),
		svg: has(svgNames, name), math: has(mathNames, name),
	}
	m.html = m.void || m.block || m.heading || has(htmlNames, name)
	switch {
	case has(rcNames, name):
		m.text = api.TextRc
	case has(rawNames, name):
		m.text = api.TextRaw
	case has(plainNames, name):
		m.text = api.TextPlain
	}
	return m
}

// allNames gives each name of each of the chapter's lists, once.
func allNames() []string {
	l := strings.Fields(strings.Join([]string{
		voidNames, formatNames, impliedNames, headingNames, blockNames,
		rcNames, rawNames, plainNames, htmlNames, svgNames, mathNames,
	}, " "))
	slices.Sort(l)
	return slices.Compact(l)
}

func check(t *testing.T, name string) {
	t.Helper()
	if got, want := told(name), asked(name); got != want {
		t.Errorf("%q: told %+v, want %+v", name, got, want)
	}
}

func TestExamples(t *testing.T) {
	if got := Lower("DiV"); got != "div" {
		t.Errorf("Lower(DiV): %q", got)
	}
	if !Special(api.Html, "p") || !Special(api.Svg, "title") || Special(api.Html, "span") {
		t.Error("Special of p, of title, of span")
	}
}

func TestNamesByHand(t *testing.T) {
	nothing := meaning{}
	for name, want := range map[string]meaning{
		"br":             {void: true, html: true},
		"wbr":            {void: true, html: true},
		"keygen":         {void: true, html: true},
		"nobr":           {formats: true},
		"a":              {formats: true},
		"u":              {formats: true},
		"rtc":            {implied: true},
		"optgroup":       {implied: true},
		"li":             {implied: true, html: true},
		"dd":             {implied: true, html: true},
		"dt":             {implied: true, html: true},
		"p":              {implied: true, html: true},
		"h1":             {heading: true, html: true},
		"h6":             {heading: true, html: true},
		"address":        {block: true, html: true},
		"ul":             {block: true, html: true},
		"summary":        {block: true, html: true},
		"title":          {text: api.TextRc, html: true, svg: true},
		"textarea":       {text: api.TextRc, html: true},
		"style":          {text: api.TextRaw, html: true},
		"script":         {text: api.TextRaw, html: true},
		"xmp":            {text: api.TextRaw, html: true},
		"iframe":         {text: api.TextRaw, html: true},
		"noembed":        {text: api.TextRaw, html: true},
		"plaintext":      {text: api.TextPlain, html: true},
		"applet":         {html: true},
		"pre":            {html: true},
		"tr":             {html: true},
		"foreignObject":  {svg: true},
		"desc":           {svg: true},
		"mi":             {math: true},
		"mo":             {math: true},
		"mn":             {math: true},
		"ms":             {math: true},
		"mtext":          {math: true},
		"foreignobject":  nothing,
		"FOREIGNOBJECT":  nothing,
		"Desc":           nothing,
		"Title":          nothing,
		"noscript":       nothing,
		"noframes":       nothing,
		"template":       nothing,
		"frame":          nothing,
		"frameset":       nothing,
		"bgsound":        nothing,
		"search":         nothing,
		"ruby":           nothing,
		"label":          nothing,
		"span":           nothing,
		"svg":            nothing,
		"math":           nothing,
		"h0":             nothing,
		"h7":             nothing,
		"h10":            nothing,
		"h":              nothing,
		"annotation-xml": nothing,
		"":               nothing,
	} {
		if got := told(name); got != want {
			t.Errorf("%q: told %+v, want %+v", name, got, want)
		}
	}
}

func TestEachNameOfEachList(t *testing.T) {
	names := allNames()
	if len(names) != 103 {
		t.Fatalf("the chapter's lists have %d names", len(names))
	}
	for _, n := range names {
		check(t, n)
		if told(n) == (meaning{}) {
			t.Errorf("%q means nothing", n)
		}
	}
}

func TestNamesThatAreNearlyOnes(t *testing.T) {
	for _, n := range allNames() {
		for i := 0; i <= len(n); i++ {
			for c := 0; c < 256; c++ {
				check(t, n[:i]+string([]byte{byte(c)})+n[i:])
				if i < len(n) {
					check(t, n[:i]+string([]byte{byte(c)})+n[i+1:])
				}
			}
			if i < len(n) {
				check(t, n[:i]+n[i+1:])
				check(t, n[:i])
				check(t, n[i:])
			}
		}
		check(t, strings.ToUpper(n))
		check(t, n+"\x00")
		check(t, n+n)
		check(t, "é"+n)
		// By hand, so that it hangs on no list of the test's.
		for _, odd := range []string{" " + n, n + " ", "\n" + n, n + "\t", n + "\x00", n + "\xff", "\xc3" + n, strings.ToUpper(n)} {
			if got := told(odd); got != (meaning{}) {
				t.Errorf("%q: told %+v, want nothing", odd, got)
			}
		}
	}
}

func TestTwoNamesAreNone(t *testing.T) {
	for _, a := range allNames() {
		for _, b := range allNames() {
			for _, between := range []string{" ", "\x00", ","} {
				if got := told(a + between + b); got != (meaning{}) {
					t.Fatalf("%q: told %+v, want nothing", a+between+b, got)
				}
			}
		}
	}
	for _, list := range []string{voidNames, formatNames, impliedNames, headingNames, blockNames, rcNames, rawNames, htmlNames, svgNames, mathNames} {
		if got := told(list); got != (meaning{}) {
			t.Errorf("%q: told %+v, want nothing", list, got)
		}
	}
}

func TestAllShortNames(t *testing.T) {
	const signs = "abcdefghijklmnopqrstuvwxyz0123456789 "
	names := []string{""}
	for range 3 {
		var longer []string
		for _, n := range names {
			for _, c := range signs {
				longer = append(longer, n+string(c))
			}
		}
		for _, n := range longer {
			check(t, n)
		}
		names = longer
	}
}

func TestSpecialBySpaces(t *testing.T) {
	for _, x := range []struct {
		name            string
		html, svg, math bool
	}{
		{"foreignObject", false, true, false},
		{"foreignobject", false, false, false},
		{"desc", false, true, false},
		{"title", true, true, false},
		{"mi", false, false, true},
		{"mo", false, false, true},
		{"mn", false, false, true},
		{"ms", false, false, true},
		{"mtext", false, false, true},
		{"p", true, false, false},
		{"div", true, false, false},
		{"h1", true, false, false},
		{"img", true, false, false},
		{"annotation-xml", false, false, false},
		{"svg", false, false, false},
		{"", false, false, false},
	} {
		got := [3]bool{Special(api.Html, x.name), Special(api.Svg, x.name), Special(api.Math, x.name)}
		if got != [3]bool{x.html, x.svg, x.math} {
			t.Errorf("Special of %q in Html, Svg, Math: %v", x.name, got)
		}
	}
}

func TestNothingIsSpecialInOtherSpaces(t *testing.T) {
	for _, space := range []int{-1, 3, 4, -2, 256, 257, 258, 1 << 32, 1<<32 + 1, math.MinInt, math.MaxInt, math.MinInt32, math.MaxInt32, math.MinInt + 1} {
		for _, n := range append(allNames(), "", "span") {
			if Special(space, n) {
				t.Errorf("Special(%d, %q)", space, n)
			}
		}
	}
}

func TestListsBesideEachOther(t *testing.T) {
	for _, n := range strings.Fields(formatNames) {
		if !Formats(n) || Special(api.Html, n) {
			t.Errorf("%s is of Formats and not special", n)
		}
	}
	for _, n := range strings.Fields(voidNames + " " + blockNames + " " + headingNames) {
		if !Special(api.Html, n) {
			t.Errorf("%s is special", n)
		}
	}
	for _, n := range allNames() {
		if Special(api.Html, n) && Formats(n) {
			t.Errorf("%s is special, and of Formats", n)
		}
	}
}

func TestLowerOfEachByte(t *testing.T) {
	for c := 0; c < 256; c++ {
		want := c
		if c >= 65 && c <= 90 {
			want = c + 32
		}
		for _, around := range [][2]string{{"", ""}, {"x", "y"}, {"\xe2", "\xac"}} {
			s := around[0] + string([]byte{byte(c)}) + around[1]
			if got := Lower(s); got != around[0]+string([]byte{byte(want)})+around[1] {
				t.Errorf("Lower(%q): %q", s, got)
			}
		}
	}
}

func TestLowerOfTexts(t *testing.T) {
	for _, x := range [][2]string{
		{"", ""},
		{"DiV", "div"},
		{"ABCDEFGHIJKLMNOPQRSTUVWXYZ", "abcdefghijklmnopqrstuvwxyz"},
		{"abcdefghijklmnopqrstuvwxyz", "abcdefghijklmnopqrstuvwxyz"},
		{"@A[`a{Z", "@a[`a{z"},
		{"H1", "h1"},
		{"A-B_C9", "a-b_c9"},
		{"É", "É"},
		{"ÄÖÜ", "ÄÖÜ"},
		{"İ", "İ"},
		{"\u212A", "\u212A"}, // the sign of kelvin, whose lower case elsewhere is k
		{"\u212B", "\u212B"},
		{"ΑΒΓ", "ΑΒΓ"},
		{"A\u20ACB", "a\u20ACb"},
		{"A\U0001F600B\U00010400", "a\U0001F600b\U00010400"},
		{"A\xffB\xc3C", "a\xffb\xc3c"},
		{"\xed\xa0\x80X", "\xed\xa0\x80x"},
		{"\x00A\x00", "\x00a\x00"},
		{" A\r\nB ", " a\r\nb "},
		{"foreignObject", "foreignobject"},
	} {
		if got := Lower(x[0]); got != x[1] {
			t.Errorf("Lower(%q): %q, want %q", x[0], got, x[1])
		}
	}
}

func TestLowerIsAsLongAndDoneOnce(t *testing.T) {
	pieces := []string{"A", "Z", "a", "@", "[", "`", "{", "É", "\u20AC", "\U0001F600", "\xff", "\xc3", "\x00"}
	for _, a := range pieces {
		for _, b := range pieces {
			for _, c := range pieces {
				s := a + b + c
				got := Lower(s)
				if len(got) != len(s) || got != Lower(a)+Lower(b)+Lower(c) {
					t.Errorf("Lower(%q): %q", s, got)
				}
				if Lower(got) != got || Lower(s) != got {
					t.Errorf("Lower(%q) twice: %q", s, Lower(got))
				}
			}
		}
	}
	long := strings.Repeat("AbC\xff", 1<<18)
	if Lower(long) != strings.Repeat("abc\xff", 1<<18) {
		t.Error("Lower of a long text")
	}
}

func TestBlank(t *testing.T) {
	for r := -1; r <= 40; r++ {
		if want := r == 9 || r == 10 || r == 12 || r == 32; Blank(r) != want {
			t.Errorf("Blank(%d): %v", r, !want)
		}
	}
	for _, r := range []int{
		0x85, 0xA0, 0x1680, 0x2000, 0x2028, 0x2029, 0x202F, 0x3000, 0xFEFF, 9 + 256, 10 + 256, 32 + 256, 32 + 65536, 9 + 65536,
		9 + 1<<32, 32 + 1<<32, -9, -32, math.MinInt, math.MinInt + 9, math.MinInt + 32, math.MaxInt, math.MaxInt - 22,
	} {
		if Blank(r) {
			t.Errorf("Blank(%d)", r)
		}
	}
}

func TestAnswersHangOnArgumentsAlone(t *testing.T) {
	for range 3 {
		for _, n := range allNames() {
			before := told(n)
			told("x" + n)
			Special(-1, n)
			Lower(n)
			if told(n) != before {
				t.Errorf("%q is told otherwise the second time", n)
			}
		}
	}
}

func TestNamesOfAnyLength(t *testing.T) {
	long := strings.Repeat("p", 1<<20)
	if told(long) != (meaning{}) || told("p"+strings.Repeat("\x00", 1<<20)) != (meaning{}) {
		t.Error("a long name means something")
	}
}

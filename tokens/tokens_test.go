package tokens

import (
	"math"
	"reflect"
	"slices"
	"strconv"
	"strings"
	"testing"
	"unicode/utf8"

	"taffrail/api"
)

// attrsOf makes attributes of names and values, in turn.
func attrsOf(texts ...string) []api.Attr {
	var l []api.Attr
	for i := 0; i < len(texts); i += 2 {
		l = append(l, api.Attr{Name: texts[i], Value: texts[i+1]})
	}
	return l
}

func char(r int) api.Token { return api.Token{Kind: api.TokChar, R: r} }

func charsOf(s string) []api.Token {
	var l []api.Token
	for _, r := range s {
		l = append(l, char(int(r)))
	}
	return l
}

// usual gives tokens of each kind as a tokenizer makes them.
func usual() []api.Token {
	return []api.Token{
		{Kind: api.TokChar, R: 'x', Span: api.Span{From: 0, To: 1}},
		{Kind: api.TokChar, R: '&', Self: true, Span: api.Span{From: 1, To: 6}},
		{Kind: api.TokStart, Name: "p", Span: api.Span{From: 6, To: 9}},
		{Kind: api.TokStart, Name: "a", Attrs: attrsOf("href", "1", "id", "2"), Self: true, Span: api.Span{From: 9, To: 25}},
		{Kind: api.TokEnd, Name: "a", Span: api.Span{From: 25, To: 29}},
		{Kind: api.TokComment, Text: "c", Span: api.Span{From: 29, To: 37}},
		{Kind: api.TokDoctype, Name: "html", Span: api.Span{From: 37, To: 52}},
		{Kind: api.TokDoctype, Self: true, Span: api.Span{From: 52, To: 62}},
		{Kind: api.TokEof, Span: api.Span{From: 62, To: 62}},
	}
}

// noKinds are numbers that are no token's kind.
func noKinds() []int {
	return []int{0, -1, 7, 8, -6, 100, math.MinInt, math.MaxInt, 1 << 32, 1<<32 + 1, 1<<32 + api.TokStart}
}

// full gives tokens of each kind, and of kinds that are none, with something in each field.
func full() []api.Token {
	var l []api.Token
	for _, kind := range append([]int{1, 2, 3, 4, 5, 6}, noKinds()...) {
		l = append(l, api.Token{Kind: kind, R: 'r', Name: "n", Text: "t", Attrs: attrsOf("x", "1", "y", "2"), Self: true, Span: api.Span{From: 3, To: 7}})
	}
	return l
}

// noChars are numbers that are no character. Cut to 32 bits, some of them would be one.
func noChars() []int {
	return []int{
		-1, -2, -'a', math.MinInt, math.MinInt + 'a', 0xD800, 0xD801, 0xDBFF, 0xDC00, 0xDFFE, 0xDFFF,
		0x110000, 0x110001, 0x7FFFFFFF, 1 << 31, 1 << 32, 1<<32 + 'a', 1<<32 + '<', 1<<40 + 0x20AC, math.MaxInt,
	}
}

func checkSame(t *testing.T, a, b api.Token, want bool) {
	t.Helper()
	if Same(a, b) != want || Same(b, a) != want {
		t.Errorf("Same of %+v and %+v: %v, the other way round %v", a, b, Same(a, b), Same(b, a))
	}
}

func checkList(t *testing.T, a, b []api.Token, want bool) {
	t.Helper()
	if List(a, b) != want || List(b, a) != want {
		t.Errorf("List of %+v and %+v: %v, the other way round %v", a, b, List(a, b), List(b, a))
	}
}

func TestClassesAreApis(t *testing.T) {
	got := [...]int{classNone, classText, classTag, classComment, classDoctype, classRef}
	want := [...]int{0, api.ClassText, api.ClassTag, api.ClassComment, api.ClassDoctype, api.ClassRef}
	if got != want {
		t.Errorf("%v, not %v", got, want)
	}
}

func TestSameOfEachKind(t *testing.T) {
	l := append(usual(), full()...)
	for i, a := range l {
		for j, b := range l {
			checkSame(t, a, b, i == j)
		}
		checkSame(t, a, api.Token{}, false)
	}
	checkSame(t, api.Token{}, api.Token{}, true)
}

// changes are ways to make a token of full another one, each in one field alone.
func changes() map[string]func(*api.Token) {
	return map[string]func(*api.Token){
		"Kind":                      func(t *api.Token) { t.Kind ^= 1 },
		"R":                         func(t *api.Token) { t.R = 's' },
		"R, none":                   func(t *api.Token) { t.R = 0 },
		"R, in the upper bits":      func(t *api.Token) { t.R += 1 << 32 },
		"Name":                      func(t *api.Token) { t.Name = "m" },
		"Name in upper case":        func(t *api.Token) { t.Name = "N" },
		"Name, none":                func(t *api.Token) { t.Name = "" },
		"Name, longer":              func(t *api.Token) { t.Name += "n" },
		"Text":                      func(t *api.Token) { t.Text = "s" },
		"Text in upper case":        func(t *api.Token) { t.Text = "T" },
		"Text, none":                func(t *api.Token) { t.Text = "" },
		"Text, longer":              func(t *api.Token) { t.Text += "t" },
		"Self":                      func(t *api.Token) { t.Self = false },
		"From":                      func(t *api.Token) { t.Span.From++ },
		"To":                        func(t *api.Token) { t.Span.To++ },
		"one attribute more":        func(t *api.Token) { t.Attrs = append(t.Attrs, api.Attr{Name: "z", Value: "3"}) },
		"an empty attribute more":   func(t *api.Token) { t.Attrs = append(t.Attrs, api.Attr{}) },
		"the last one twice":        func(t *api.Token) { t.Attrs = append(t.Attrs, t.Attrs[1]) },
		"one attribute less":        func(t *api.Token) { t.Attrs = t.Attrs[:1] },
		"no attribute":              func(t *api.Token) { t.Attrs = nil },
		"the first one's name":      func(t *api.Token) { t.Attrs[0].Name = "w" },
		"the last one's name":       func(t *api.Token) { t.Attrs[1].Name = "w" },
		"a name in upper case":      func(t *api.Token) { t.Attrs[0].Name = "X" },
		"the first one's value":     func(t *api.Token) { t.Attrs[0].Value = "9" },
		"the last one's value":      func(t *api.Token) { t.Attrs[1].Value = "9" },
		"the last one's value none": func(t *api.Token) { t.Attrs[1].Value = "" },
		"values changed over":       func(t *api.Token) { t.Attrs = attrsOf("x", "2", "y", "1") },
		"names and values":          func(t *api.Token) { t.Attrs = attrsOf("1", "x", "2", "y") },
		"another order":             func(t *api.Token) { slices.Reverse(t.Attrs) },
		"one byte further":          func(t *api.Token) { t.Attrs[0] = api.Attr{Name: "x1"} },
	}
}

func TestSameOfOneFieldChanged(t *testing.T) {
	for what, change := range changes() {
		for i, a := range full() {
			b := full()[i]
			change(&b)
			if Same(a, b) || Same(b, a) {
				t.Errorf("%s of %+v: the same as %+v", what, a, b)
			}
			checkSame(t, b, b, true)
			checkList(t, []api.Token{char('x'), a}, []api.Token{char('x'), b}, false)
		}
	}
}

func TestSameOfEqualAttributesInOtherMemory(t *testing.T) {
	for i, a := range full() {
		checkSame(t, a, full()[i], true)
		checkList(t, []api.Token{a}, full()[i:i+1], true)
	}
}

func TestSameOfEmptyLists(t *testing.T) {
	behind := attrsOf("behind", "1")
	for i, a := range full() {
		b, c := a, full()[i]
		a.Attrs, b.Attrs, c.Attrs = nil, []api.Attr{}, behind[:0]
		checkSame(t, a, b, true)
		checkSame(t, a, c, true)
		checkSame(t, b, c, true)
		checkList(t, []api.Token{a, b, c}, []api.Token{b, c, a}, true)
		c.Attrs = behind
		checkSame(t, a, c, false)
		checkSame(t, b, c, false)
	}
}

// What lies behind a list's end is not of it.
func TestSameOfWhatLiesBehind(t *testing.T) {
	a, b := usual()[3], usual()[3]
	a.Attrs = attrsOf("href", "1", "id", "2", "behind", "3")[:2]
	checkSame(t, a, b, true)
	checkList(t, usual()[:4], append(usual()[:3], b), true)
	checkList(t, usual()[:4], usual()[:3], false)
}

func TestSameByBytes(t *testing.T) {
	a, b := api.Token{Kind: api.TokComment, Text: "\xff"}, api.Token{Kind: api.TokComment, Text: "\xfe"}
	checkSame(t, a, a, true)
	checkSame(t, a, b, false)
	b.Text = "\ufffd"
	checkSame(t, a, b, false)
	// Numbers that are told as one character are different numbers.
	checkSame(t, char(-1), char(0xFFFD), false)
	checkSame(t, char(-1), char(-2), false)
}

func TestList(t *testing.T) {
	l := usual()
	checkList(t, nil, nil, true)
	checkList(t, nil, []api.Token{}, true)
	checkList(t, []api.Token{}, []api.Token{}, true)
	checkList(t, nil, l[:0], true)
	checkList(t, l, l, true)
	checkList(t, l, usual(), true)
	checkList(t, nil, l, false)
	checkList(t, nil, make([]api.Token, 1), false)
	checkList(t, make([]api.Token, 1), make([]api.Token, 2), false)
	for n := range l {
		checkList(t, l, l[:n], false)
		checkList(t, l, l[n+1:], false)
		checkList(t, l[:n], usual()[:n], true)
	}
}

func TestListsThatDifferInOneToken(t *testing.T) {
	l := usual()
	for i := range l {
		other := usual()
		other[i].Span.To++
		checkList(t, l, other, false)
		other[i] = api.Token{}
		checkList(t, l, other, false)
		checkList(t, l, slices.Delete(usual(), i, i+1), false)
		checkList(t, l, slices.Insert(usual(), i, l[i]), false)
		for j := range i {
			other = usual()
			other[i], other[j] = other[j], other[i]
			checkList(t, l, other, false)
		}
	}
	turned := usual()
	slices.Reverse(turned)
	checkList(t, l, turned, false)
}

func TestSameAndListChangeNothing(t *testing.T) {
	whole := full()
	for i := range whole {
		whole[i].Attrs = append(whole[i].Attrs, attrsOf("behind", "1")...)[:2]
	}
	want := full()
	List(whole[:3], want[:3])
	List(whole[:3], whole[1:4])
	Same(whole[0], whole[1])
	Text(whole[:3])
	for i, x := range whole {
		Show(x)
		Class(x)
		if !reflect.DeepEqual(x, want[i]) || x.Attrs[:3][2] != (api.Attr{Name: "behind", Value: "1"}) {
			t.Errorf("%+v is changed", x)
		}
	}
}

func TestShiftMovesTheSpan(t *testing.T) {
	const least, most = math.MinInt, math.MaxInt
	for _, c := range []struct {
		s    api.Span
		by   int
		want api.Span
	}{
		{api.Span{From: 2, To: 5}, 3, api.Span{From: 5, To: 8}},
		{api.Span{From: 2, To: 5}, -1, api.Span{From: 1, To: 4}},
		{api.Span{From: 2, To: 5}, -2, api.Span{From: 0, To: 3}},
		{api.Span{From: 2, To: 5}, 0, api.Span{From: 2, To: 5}},
		{api.Span{From: 4, To: 4}, 1, api.Span{From: 5, To: 5}},
		// From 0 is none below it.
		{api.Span{From: 0, To: 1}, 5, api.Span{From: 5, To: 6}},
		{api.Span{}, 5, api.Span{From: 5, To: 5}},
		{api.Span{From: 0, To: 3}, -1, api.Span{From: -1, To: 2}},
		// Whatever To is, From alone says whether the span stays.
		{api.Span{From: 2, To: -1}, 5, api.Span{From: 7, To: 4}},
		{api.Span{From: 7, To: 3}, 1, api.Span{From: 8, To: 4}},
		{api.Span{From: 0, To: -1}, 1, api.Span{From: 1, To: 0}},
		// To below 0, and to what looks like none.
		{api.Span{From: 2, To: 5}, -9, api.Span{From: -7, To: -4}},
		{api.Span{From: 2, To: 2}, -3, api.None()},
		// Those that stay.
		{api.None(), 5, api.None()},
		{api.None(), -5, api.None()},
		{api.None(), 0, api.None()},
		{api.Span{From: -1, To: 7}, 5, api.Span{From: -1, To: 7}},
		{api.Span{From: -1, To: 0}, 1, api.Span{From: -1, To: 0}},
		{api.Span{From: -2, To: -1}, 5, api.Span{From: -2, To: -1}},
		{api.Span{From: -7, To: 7}, -5, api.Span{From: -7, To: 7}},
		{api.Span{From: least, To: most}, 1, api.Span{From: least, To: most}},
		{api.Span{From: least, To: least}, -1, api.Span{From: least, To: least}},
		{api.Span{From: -1, To: most}, most, api.Span{From: -1, To: most}},
		// The farthest whose sums are ints.
		{api.Span{From: 0, To: 0}, most, api.Span{From: most, To: most}},
		{api.Span{From: 0, To: 0}, least, api.Span{From: least, To: least}},
		{api.Span{From: 1, To: 2}, most - 2, api.Span{From: most - 1, To: most}},
		{api.Span{From: most, To: most}, -most, api.Span{}},
		{api.Span{From: most, To: most}, least, api.None()},
		{api.Span{From: most - 1, To: most}, 0, api.Span{From: most - 1, To: most}},
		{api.Span{From: 1 << 40, To: 1<<40 + 1}, 1 << 53, api.Span{From: 1<<53 + 1<<40, To: 1<<53 + 1<<40 + 1}},
		{api.Span{From: 0, To: 1}, 1<<53 + 1, api.Span{From: 1<<53 + 1, To: 1<<53 + 2}},
	} {
		for _, x := range append(usual(), full()...) {
			x.Span = c.s
			if got := Shift(x, c.by).Span; got != c.want {
				t.Errorf("Shift of %v by %d: %v, not %v", c.s, c.by, got, c.want)
			}
		}
	}
}

func TestShiftForthAndBack(t *testing.T) {
	for _, x := range append(usual(), full()...) {
		for _, by := range []int{0, 1, 2, 3, 100, 1 << 40} {
			moved := Shift(x, by)
			checkSame(t, x, moved, by == 0)
			checkSame(t, x, Shift(moved, -by), true)
			checkSame(t, Shift(Shift(x, by), by), Shift(x, 2*by), true)
		}
	}
	x := Shift(api.Token{Kind: api.TokEof, Span: api.Span{From: 9, To: 12}}, -4)
	if y := Shift(x, 4); x.Span != (api.Span{From: 5, To: 8}) || y.Span != (api.Span{From: 9, To: 12}) {
		t.Errorf("back and forth: %v, %v", x.Span, y.Span)
	}
}

func TestShiftLeavesAllElse(t *testing.T) {
	for _, s := range []api.Span{{From: 3, To: 7}, {}, api.None(), {From: -4, To: 7}} {
		for _, by := range []int{0, 1, -1, -3, 1000} {
			for i, x := range append(usual(), full()...) {
				x.Span = s
				got := Shift(x, by)
				got.Span = s
				if !Same(got, x) || len(got.Attrs) != len(x.Attrs) {
					t.Errorf("number %d, by %d: %+v, of %+v", i, by, got, x)
				}
			}
		}
	}
}

// Sums that are no int's: all that is asked is that the call ends, and leaves the rest.
func TestShiftPastAllInts(t *testing.T) {
	for _, by := range []int{1, math.MaxInt, math.MinInt} {
		for _, s := range []api.Span{{From: math.MaxInt, To: math.MaxInt}, {From: 5, To: math.MinInt}, {From: 0, To: math.MaxInt}} {
			x := usual()[3]
			x.Span = s
			got := Shift(x, by)
			got.Span = s
			checkSame(t, got, x, true)
		}
	}
}

// spoil writes over all that a list has, up to its capacity.
func spoil(l []api.Attr) {
	whole := l[:cap(l)]
	for i := range whole {
		whole[i] = api.Attr{Name: "spoilt", Value: "spoilt"}
	}
}

func TestShiftSharesNothing(t *testing.T) {
	for n := range 12 {
		for _, s := range []api.Span{{From: 3, To: 7}, api.None()} {
			for _, by := range []int{0, 1, -9} {
				checkShiftApart(t, n, s, by)
			}
		}
	}
}

// checkShiftApart moves a token twice that has n attributes, and others behind them, and sees to it that none of the three share memory.
func checkShiftApart(t *testing.T, n int, s api.Span, by int) {
	t.Helper()
	var whole []api.Attr
	for i := range n + 4 {
		whole = append(whole, api.Attr{Name: "n" + strconv.Itoa(i), Value: strconv.Itoa(i)})
	}
	was := slices.Clone(whole)
	x := api.Token{Kind: api.TokStart, Name: "a", Attrs: whole[:n], Span: s}
	a, b := Shift(x, by), Shift(x, by)
	if !slices.Equal(whole, was) || len(x.Attrs) != n || x.Span != s {
		t.Errorf("Shift changes what it is given: %v", whole)
	}
	spoil(a.Attrs)
	if !slices.Equal(b.Attrs, was[:n]) {
		t.Error("two answers share memory")
	}
	spoil(b.Attrs)
	if !slices.Equal(whole, was) {
		t.Errorf("an answer shares memory with what was given: %v", whole)
	}
	c := Shift(x, by)
	spoil(whole)
	if !slices.Equal(c.Attrs, was[:n]) {
		t.Error("an answer changes with what was given")
	}
}

func TestText(t *testing.T) {
	for _, c := range []struct {
		l    []api.Token
		want string
	}{
		{nil, ""},
		{[]api.Token{}, ""},
		{charsOf("x"), "x"},
		{charsOf("abc"), "abc"},
		{charsOf("<&>\""), "<&>\""},
		{charsOf("é€\U0001F600z"), "é€\U0001F600z"},
		{charsOf("\x7f\u0080\u07ff\u0800\uffff\U00010000\U0010ffff"), "\x7f\u0080\u07ff\u0800\uffff\U00010000\U0010ffff"},
		{charsOf("\ud7ff\ue000\ufdd0\ufffd\ufffe"), "\ud7ff\ue000\ufdd0\ufffd\ufffe"},
		{charsOf(" \t\n\f\r\x00"), " \t\n\f\r\x00"},
		{[]api.Token{char('a'), char(-1), char('b'), char(0xD800), char(0xDC00), char(0x110000)}, "a\ufffdb\ufffd\ufffd\ufffd"},
		{usual(), "x&"},
		{[]api.Token{{}}, ""},
	} {
		if got := Text(c.l); got != c.want {
			t.Errorf("Text of %+v: %q, not %q", c.l, got, c.want)
		}
	}
}

// Tokens of other kinds add nothing, wherever they stand and whatever they hold.
func TestTextBetweenOthers(t *testing.T) {
	for _, x := range full() {
		got := Text([]api.Token{x, char('a'), x, x, char(0x20AC), x})
		want := "a€"
		if x.Kind == api.TokChar {
			want = "rarr€r"
		}
		if got != want {
			t.Errorf("between kind %d: %q", x.Kind, got)
		}
	}
	if got := Text(full()); got != "r" {
		t.Errorf("of all kinds: %q", got)
	}
}

// A character's R alone counts.
func TestTextOfCharsWithOtherFields(t *testing.T) {
	x := api.Token{Kind: api.TokChar, R: 'x', Name: "n", Text: "t", Attrs: attrsOf("a", "b"), Self: true, Span: api.None()}
	if got := Text([]api.Token{x, char('y')}); got != "xy" {
		t.Errorf("%q", got)
	}
}

func TestEachCharacter(t *testing.T) {
	var l []api.Token
	var want []rune
	for r := range utf8.MaxRune + 1 {
		x := char(int(r))
		told := string(r) // U+FFFD of a surrogate
		if got := Text([]api.Token{x}); got != told {
			t.Fatalf("Text of %#x: %q", r, got)
		}
		if r == '<' {
			told = "[lt]"
		}
		if got := Show(x); got != told {
			t.Fatalf("Show of %#x: %q", r, got)
		}
		l, want = append(l, x), append(want, r)
	}
	if Text(l) != string(want) {
		t.Error("Text of all characters")
	}
}

func TestNoCharacters(t *testing.T) {
	for _, r := range noChars() {
		for _, self := range []bool{false, true} {
			x := api.Token{Kind: api.TokChar, R: r, Self: self}
			if Text([]api.Token{x}) != "\ufffd" || Show(x) != "\ufffd" {
				t.Errorf("%#x: %q, %q", r, Text([]api.Token{x}), Show(x))
			}
		}
	}
}

func TestClass(t *testing.T) {
	for _, c := range []struct {
		kind        int
		plain, self int
	}{
		{api.TokChar, api.ClassText, api.ClassRef},
		{api.TokStart, api.ClassTag, api.ClassTag},
		{api.TokEnd, api.ClassTag, api.ClassTag},
		{api.TokComment, api.ClassComment, api.ClassComment},
		{api.TokDoctype, api.ClassDoctype, api.ClassDoctype},
		{api.TokEof, 0, 0},
	} {
		checkClass(t, c.kind, c.plain, c.self)
	}
	for _, kind := range noKinds() {
		checkClass(t, kind, 0, 0)
	}
}

// checkClass asks for the class of a kind, without and with Self, with nothing else in the token and with all.
func checkClass(t *testing.T, kind, plain, self int) {
	t.Helper()
	for _, x := range []api.Token{{}, full()[0], {R: -1}, {R: '<', Span: api.None()}} {
		x.Kind, x.Self = kind, false
		if got := Class(x); got != plain {
			t.Errorf("Class of %+v: %d, not %d", x, got, plain)
		}
		x.Self = true
		if got := Class(x); got != self {
			t.Errorf("Class of %+v: %d, not %d", x, got, self)
		}
	}
}

func TestShow(t *testing.T) {
	for _, c := range []struct {
		x    api.Token
		want string
	}{
		// The chapter's example.
		{api.Token{Kind: api.TokStart, Name: "a", Attrs: attrsOf("href", "1")}, `<a href="1">`},

		{char('x'), "x"}, {char(0xE9), "é"}, {char(0x20AC), "€"}, {char(0x1F600), "\U0001F600"},
		{char('<'), "[lt]"}, {char('>'), ">"}, {char('&'), "&"}, {char('['), "["}, {char(0), "\x00"}, {char('\n'), "\n"}, {char(0xFF1C), "\uff1c"},
		{char(-1), "\ufffd"}, {char(0xFFFD), "\ufffd"},
		{api.Token{Kind: api.TokChar, R: 'x', Self: true}, "x"},
		{api.Token{Kind: api.TokChar, R: '<', Self: true}, "[lt]"},
		{api.Token{Kind: api.TokChar, R: 0x20AC, Self: true}, "€"},

		{api.Token{Kind: api.TokStart, Name: "p"}, "<p>"},
		{api.Token{Kind: api.TokStart, Name: "p", Attrs: []api.Attr{}}, "<p>"},
		{api.Token{Kind: api.TokStart, Name: "br", Self: true}, "<br/>"},
		{api.Token{Kind: api.TokStart, Name: "a", Attrs: attrsOf("x", "1", "y", "")}, `<a x="1" y="">`},
		{api.Token{Kind: api.TokStart, Name: "a", Attrs: attrsOf("x", "1", "y", ""), Self: true}, `<a x="1" y=""/>`},
		{api.Token{Kind: api.TokStart, Name: "a", Attrs: attrsOf("y", "1", "x", "2", "y", "1")}, `<a y="1" x="2" y="1">`},
		{api.Token{Kind: api.TokStart, Name: "a", Attrs: attrsOf("x", "")}, `<a x="">`},
		{api.Token{Kind: api.TokStart, Name: "a", Attrs: attrsOf("x", `"`)}, `<a x=""">`},
		{api.Token{Kind: api.TokStart, Name: "a", Attrs: attrsOf("x", `1"2'3`)}, `<a x="1"2'3">`},
		{api.Token{Kind: api.TokStart, Name: "a", Attrs: attrsOf("x", "<&>\u00a0/")}, "<a x=\"<&>\u00a0/\">"},
		{api.Token{Kind: api.TokStart, Name: "a", Attrs: attrsOf("", "")}, `<a ="">`},
		{api.Token{Kind: api.TokStart, Name: "a", Attrs: attrsOf("\xff", "\xfe")}, "<a \xff=\"\xfe\">"},
		{api.Token{Kind: api.TokStart, Name: "A<b"}, "<A<b>"},
		{api.Token{Kind: api.TokStart}, "<>"},
		{api.Token{Kind: api.TokStart, Self: true}, "</>"},

		{api.Token{Kind: api.TokEnd, Name: "b"}, "</b>"},
		{api.Token{Kind: api.TokEnd, Name: "b", Attrs: attrsOf("x", "1")}, "</b>"},
		{api.Token{Kind: api.TokEnd, Name: "b", Self: true}, "</b>"},
		{api.Token{Kind: api.TokEnd, Name: "b", Attrs: attrsOf("x", "1"), Self: true}, "</b>"},
		{api.Token{Kind: api.TokEnd}, "</>"},

		{api.Token{Kind: api.TokComment, Text: "c"}, "<!--c-->"},
		{api.Token{Kind: api.TokComment, Text: " <b> & --> "}, "<!-- <b> & --> -->"},
		{api.Token{Kind: api.TokComment, Text: "\xff\x00"}, "<!--\xff\x00-->"},
		{api.Token{Kind: api.TokComment}, "<!---->"},
		{api.Token{Kind: api.TokComment, Text: "c", Self: true}, "<!--c-->"},

		{api.Token{Kind: api.TokDoctype, Name: "html"}, "<!doctype html>"},
		{api.Token{Kind: api.TokDoctype, Name: "html", Self: true}, "<!doctype html!>"},
		{api.Token{Kind: api.TokDoctype}, "<!doctype >"},
		{api.Token{Kind: api.TokDoctype, Self: true}, "<!doctype !>"},
		{api.Token{Kind: api.TokDoctype, Name: "HTML"}, "<!doctype HTML>"},

		{api.Token{Kind: api.TokEof}, "[eof]"},
		{api.Token{Kind: api.TokEof, Self: true, Span: api.None()}, "[eof]"},
		{api.Token{}, ""},
	} {
		if got := Show(c.x); got != c.want {
			t.Errorf("Show of %+v: %q, not %q", c.x, got, c.want)
		}
	}
}

// Of each kind its own fields alone are told.
func TestShowOfFullTokens(t *testing.T) {
	want := []string{"r", `<n x="1" y="2"/>`, "</n>", "<!--t-->", "<!doctype n!>", "[eof]"}
	for i, x := range full() {
		told := ""
		if i < len(want) {
			told = want[i]
		}
		for _, s := range []api.Span{x.Span, {}, api.None(), {From: math.MinInt, To: math.MaxInt}} {
			x.Span = s
			if got := Show(x); got != told {
				t.Errorf("Show of %+v: %q, not %q", x, got, told)
			}
		}
	}
}

// What lies behind a list's end is not told.
func TestShowOfWhatLiesBehind(t *testing.T) {
	l := attrsOf("x", "1", "behind", "2")
	if got := Show(api.Token{Kind: api.TokStart, Name: "a", Attrs: l[:1]}); got != `<a x="1">` {
		t.Errorf("%q", got)
	}
	if got := Text(charsOf("ab")[:1]); got != "a" {
		t.Errorf("%q", got)
	}
}

// Long lists and texts end, in a time that grows as they do.
func TestLong(t *testing.T) {
	const n = 1 << 18
	l := slices.Repeat([]api.Token{char(0x20AC), {Kind: api.TokEnd, Name: "b"}}, n)
	if Text(l) != strings.Repeat("€", n) || !List(l, slices.Clone(l)) || List(l, l[1:]) {
		t.Error("Text or List of a long list")
	}
	other := slices.Clone(l)
	other[len(l)-1].Self = true
	checkList(t, l[len(l)-2:], other[len(l)-2:], false)
	if List(l, other) || List(other, l) {
		t.Error("List of long lists that differ in the last token")
	}
	x := api.Token{Kind: api.TokStart, Name: "a", Attrs: slices.Repeat(attrsOf("x", "1"), n), Self: true, Span: api.Span{From: 1, To: 2}}
	if Show(x) != "<a"+strings.Repeat(` x="1"`, n)+"/>" {
		t.Error("Show of a long list of attributes")
	}
	if !Same(x, Shift(Shift(x, 5), -5)) || Same(x, Shift(x, 5)) {
		t.Error("Same or Shift of a long list of attributes")
	}
	text := strings.Repeat("t", 1<<20)
	if Show(api.Token{Kind: api.TokComment, Text: text}) != "<!--"+text+"-->" {
		t.Error("Show of a long comment")
	}
}

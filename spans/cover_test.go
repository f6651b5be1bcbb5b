package spans

import (
	"math"
	"reflect"
	"slices"
	"strings"
	"testing"

	"taffrail/api"
	"taffrail/rawtext"
	"taffrail/tokens"
)

func token(kind, from, to int) api.Token {
	return api.Token{Kind: kind, Span: api.Span{From: from, To: to}}
}

func charAt(from, to int) api.Token { return token(api.TokChar, from, to) }

func startAt(from, to int) api.Token { return token(api.TokStart, from, to) }

func refAt(from, to int) api.Token {
	t := charAt(from, to)
	t.Self = true
	return t
}

func checkCover(t *testing.T, l []api.Token, n int, want ...api.Part) {
	t.Helper()
	got := Cover(l, n)
	if !slices.Equal(got, want) {
		t.Errorf("%v, n %d:\n got %v\nwant %v", l, n, got, want)
	}
	if !Check(got, n) {
		t.Errorf("%v, n %d: Check says no to %v", l, n, got)
	}
}

func TestCoverNoTokens(t *testing.T) {
	for _, l := range [][]api.Token{nil, {}} {
		checkCover(t, l, 0)
		for _, n := range odd() {
			if n < 0 {
				checkCover(t, l, n)
			} else {
				checkCover(t, l, n, tag(0, n))
			}
		}
		checkCover(t, l, 1, tag(0, 1))
		checkCover(t, l, 7, tag(0, 7))
	}
}

func TestCoverKinds(t *testing.T) {
	for _, x := range []struct{ kind, plain, self int }{
		{api.TokChar, api.ClassText, api.ClassRef}, {api.TokStart, api.ClassTag, api.ClassTag}, {api.TokEnd, api.ClassTag, api.ClassTag},
		{api.TokComment, api.ClassComment, api.ClassComment}, {api.TokDoctype, api.ClassDoctype, api.ClassDoctype},
	} {
		k := token(x.kind, 1, 3)
		checkCover(t, []api.Token{k}, 3, tag(0, 1), part(1, 3, x.plain))
		checkCover(t, []api.Token{k}, 5, tag(0, 1), part(1, 3, x.plain), tag(3, 5))
		k.Self = true
		checkCover(t, []api.Token{k}, 3, tag(0, 1), part(1, 3, x.self))
		k.R, k.Name, k.Text, k.Attrs = 'x', "n", "t", []api.Attr{{Name: "a", Value: "b"}}
		checkCover(t, []api.Token{k}, 3, tag(0, 1), part(1, 3, x.self))
	}
}

// What has no class has no part: its bytes are as if it were not there.
func TestCoverKindsWithoutClass(t *testing.T) {
	for _, kind := range append(odd(), api.TokEof, 0, 7, 1<<32+api.TokChar) {
		for _, self := range []bool{false, true} {
			k := token(kind, 1, 3)
			k.Self = self
			checkCover(t, []api.Token{k}, 0)
			checkCover(t, []api.Token{k}, 3, tag(0, 3))
			checkCover(t, []api.Token{charAt(0, 1), k, charAt(3, 4)}, 4, text(0, 1), tag(1, 3), text(3, 4))
			checkCover(t, []api.Token{charAt(0, 1), k, charAt(1, 2)}, 4, text(0, 2), tag(2, 4))
			checkCover(t, []api.Token{k, charAt(2, 3)}, 3, tag(0, 2), text(2, 3))
		}
	}
	checkCover(t, []api.Token{charAt(0, 2), token(api.TokEof, 2, 2)}, 2, text(0, 2))
}

func TestCoverEmptySpans(t *testing.T) {
	const most, least = math.MaxInt, math.MinInt
	for _, x := range []api.Span{{From: 1, To: 1}, {From: 0, To: 0}, {From: 2, To: 2}, {From: 4, To: 4}, {From: 2, To: 1}, {From: 3, To: 0}, {From: 4, To: -4}, api.None(), {From: 9, To: 9}, {From: most, To: least}, {From: most, To: most}, {From: least, To: least}, {From: 0, To: least}, {From: most, To: 0}, {From: 3, To: 2}} {
		for _, k := range []api.Token{charAt(x.From, x.To), startAt(x.From, x.To), token(api.TokComment, x.From, x.To)} {
			checkCover(t, []api.Token{k}, 4, tag(0, 4))
			checkCover(t, []api.Token{k}, 0)
			checkCover(t, []api.Token{k}, most, tag(0, most))
			checkCover(t, []api.Token{charAt(0, 2), k, charAt(2, 4)}, 4, text(0, 4))
			checkCover(t, []api.Token{startAt(0, 2), k, startAt(2, 4)}, 4, tag(0, 2), tag(2, 4))
			checkCover(t, []api.Token{k, k, startAt(2, 4), k}, 4, tag(0, 2), tag(2, 4))
		}
	}
}

func TestCoverSpansThatDoNotRise(t *testing.T) {
	checkCover(t, []api.Token{startAt(2, 4), charAt(0, 2)}, 4, tag(0, 2), tag(2, 4))
	checkCover(t, []api.Token{startAt(2, 4), charAt(0, 6)}, 6, tag(0, 2), tag(2, 4), text(4, 6))
	checkCover(t, []api.Token{startAt(2, 4), charAt(0, 3), charAt(3, 5)}, 6, tag(0, 2), tag(2, 4), text(4, 5), tag(5, 6))
	checkCover(t, []api.Token{charAt(0, 3), startAt(1, 5), refAt(2, 7)}, 7, text(0, 3), tag(3, 5), part(5, 7, api.ClassRef))
	checkCover(t, []api.Token{startAt(0, 6), charAt(2, 4)}, 6, tag(0, 6))
	checkCover(t, []api.Token{charAt(2, 4), startAt(0, 6)}, 6, tag(0, 2), text(2, 4), tag(4, 6))
	checkCover(t, []api.Token{startAt(0, 3), startAt(0, 3)}, 3, tag(0, 3))
	checkCover(t, []api.Token{charAt(0, 3), charAt(0, 3), charAt(0, 3)}, 4, text(0, 3), tag(3, 4))
	checkCover(t, []api.Token{charAt(0, 3), refAt(0, 3)}, 3, text(0, 3))
	checkCover(t, []api.Token{refAt(0, 3), charAt(0, 3)}, 3, part(0, 3, api.ClassRef))
	checkCover(t, []api.Token{charAt(4, 5), charAt(3, 4), charAt(2, 3)}, 5, tag(0, 4), text(4, 5))
}

func TestCoverSpansOutside(t *testing.T) {
	const most, least = math.MaxInt, math.MinInt
	checkCover(t, []api.Token{charAt(-5, -2)}, 3, tag(0, 3))
	checkCover(t, []api.Token{charAt(-5, 0)}, 3, tag(0, 3))
	checkCover(t, []api.Token{charAt(-5, 1)}, 3, text(0, 1), tag(1, 3))
	checkCover(t, []api.Token{charAt(-1, 3)}, 3, text(0, 3))
	checkCover(t, []api.Token{charAt(-1, 9)}, 3, text(0, 3))
	checkCover(t, []api.Token{charAt(3, 4)}, 3, tag(0, 3))
	checkCover(t, []api.Token{charAt(2, 4)}, 3, tag(0, 2), text(2, 3))
	checkCover(t, []api.Token{charAt(5, 9)}, 3, tag(0, 3))
	checkCover(t, []api.Token{charAt(0, 3), startAt(3, 6), charAt(6, 7)}, 3, text(0, 3))
	checkCover(t, []api.Token{charAt(0, 3), startAt(3, 6), charAt(6, 7)}, 4, text(0, 3), tag(3, 4))
	checkCover(t, []api.Token{charAt(5, 9), charAt(1, 2)}, 3, tag(0, 1), text(1, 2), tag(2, 3))
	checkCover(t, []api.Token{charAt(-9, -1), startAt(-1, 1), charAt(1, 9), startAt(9, 10)}, 3, tag(0, 1), text(1, 3))
	for _, n := range []int{0, -1, -3, least} {
		checkCover(t, []api.Token{charAt(0, 1), startAt(-5, 5), charAt(-5, -2), refAt(least, most), token(api.TokEof, 0, 0)}, n)
	}
}

func TestCoverGreatNumbers(t *testing.T) {
	const most, least = math.MaxInt, math.MinInt
	checkCover(t, []api.Token{charAt(least, most)}, 4, text(0, 4))
	checkCover(t, []api.Token{charAt(least, most)}, most, text(0, most))
	checkCover(t, []api.Token{charAt(least, 2), refAt(2, most)}, 4, text(0, 2), part(2, 4, api.ClassRef))
	checkCover(t, []api.Token{charAt(least, least+1), charAt(most-1, most)}, most, tag(0, most-1), text(most-1, most))
	checkCover(t, []api.Token{charAt(least, least+1), charAt(most-1, most)}, most-1, tag(0, most-1))
	checkCover(t, []api.Token{charAt(0, 1), charAt(1, most)}, most, text(0, most))
	checkCover(t, []api.Token{charAt(0, 1), charAt(2, 3)}, most, text(0, 1), tag(1, 2), text(2, 3), tag(3, most))
	checkCover(t, []api.Token{charAt(most, least), charAt(0, least), charAt(most, most)}, most, tag(0, most))
	checkCover(t, []api.Token{charAt(least, 1), charAt(least, 2)}, least)
	checkCover(t, []api.Token{startAt(1<<32, 1<<32+1)}, 1<<33, tag(0, 1<<32), tag(1<<32, 1<<32+1), tag(1<<32+1, 1<<33))
}

func TestCoverGaps(t *testing.T) {
	checkCover(t, []api.Token{charAt(2, 3)}, 3, tag(0, 2), text(2, 3))
	checkCover(t, []api.Token{charAt(0, 1), charAt(2, 3)}, 3, text(0, 1), tag(1, 2), text(2, 3))
	checkCover(t, []api.Token{charAt(0, 1)}, 3, text(0, 1), tag(1, 3))
	// A gap stays a part of its own, also next to a tag.
	checkCover(t, []api.Token{startAt(1, 2), startAt(3, 4)}, 5, tag(0, 1), tag(1, 2), tag(2, 3), tag(3, 4), tag(4, 5))
	checkCover(t, []api.Token{refAt(1, 2), token(api.TokComment, 3, 4)}, 5, tag(0, 1), part(1, 2, api.ClassRef), tag(2, 3), part(3, 4, api.ClassComment), tag(4, 5))
}

func TestCoverNeighbours(t *testing.T) {
	checkCover(t, []api.Token{charAt(0, 1), charAt(1, 3), charAt(3, 4)}, 4, text(0, 4))
	checkCover(t, []api.Token{charAt(1, 2), charAt(2, 4), startAt(4, 5), charAt(5, 6), charAt(6, 7)}, 7, tag(0, 1), text(1, 4), tag(4, 5), text(5, 7))
	checkCover(t, []api.Token{refAt(0, 1), refAt(1, 2), charAt(2, 3), refAt(3, 4)}, 4, part(0, 1, 5), part(1, 2, 5), text(2, 3), part(3, 4, 5))
	for _, kind := range []int{api.TokStart, api.TokEnd, api.TokComment, api.TokDoctype} {
		class := tokens.Class(token(kind, 0, 1))
		checkCover(t, []api.Token{token(kind, 0, 1), token(kind, 1, 2), token(kind, 2, 3)}, 3, part(0, 1, class), part(1, 2, class), part(2, 3, class))
	}
	checkCover(t, []api.Token{startAt(0, 1), token(api.TokEnd, 1, 2)}, 2, tag(0, 1), tag(1, 2))
	// What stands between texts is cut away, or part of what is behind it.
	checkCover(t, []api.Token{charAt(0, 2), startAt(0, 2), charAt(2, 3)}, 3, text(0, 3))
	checkCover(t, []api.Token{charAt(0, 2), startAt(1, 1), refAt(-3, 1), token(api.TokEof, 2, 9), charAt(2, 3)}, 3, text(0, 3))
	checkCover(t, []api.Token{charAt(0, 2), startAt(9, 12), charAt(1, 4)}, 5, text(0, 4), tag(4, 5))
}

// modelled gives what Cover is to tell, byte by byte: who has each byte, and then where that changes.
func modelled(l []api.Token, n int) []api.Part {
	owner := make([]int, max(n, 0)) // a token's number and 1
	free := 0
	for i, t := range l {
		for b := free; b < n && tokens.Class(t) != 0; b++ {
			if t.Span.From <= b && b < t.Span.To {
				owner[b], free = i+1, b+1
			}
		}
	}
	class := func(b int) int {
		if owner[b] == 0 {
			return api.ClassTag
		}
		return tokens.Class(l[owner[b]-1])
	}
	var out []api.Part
	for b := range owner {
		if b > 0 && (owner[b] == owner[b-1] || class(b) == api.ClassText && class(b-1) == api.ClassText) {
			out[len(out)-1].Span.To++
		} else {
			out = append(out, part(b, b+1, class(b)))
		}
	}
	return out
}

func checkModelled(t *testing.T, l []api.Token, n int) {
	t.Helper()
	if got, want := Cover(l, n), modelled(l, n); !slices.Equal(got, want) || !Check(got, n) {
		t.Fatalf("%v, n %d:\n got %v\nwant %v", l, n, got, want)
	}
}

// All rows of up to three tokens with small spans, in all orders.
func TestCoverSmallRows(t *testing.T) {
	var all, few []api.Token
	for from := -1; from <= 4; from++ {
		for to := -1; to <= 4; to++ {
			all = append(all, charAt(from, to), refAt(from, to), startAt(from, to), token(api.TokEof, from, to))
			if to > from {
				few = append(few, charAt(from, to), startAt(from, to))
			}
		}
	}
	for n := -1; n <= 4; n++ {
		checkModelled(t, nil, n)
		for _, a := range all {
			checkModelled(t, []api.Token{a}, n)
			for _, b := range all {
				checkModelled(t, []api.Token{a, b}, n)
			}
		}
		for _, a := range few {
			for _, b := range few {
				for _, c := range few {
					checkModelled(t, []api.Token{a, b, c}, n)
				}
			}
		}
	}
}

// Long rows, spans and kinds by a rule that jumps about.
func TestCoverLongRows(t *testing.T) {
	x := uint32(1)
	next := func(most int) int {
		x = x*1664525 + 1013904223
		return int(x>>8) % most
	}
	for round := range 2000 {
		var l []api.Token
		at := 0
		for range next(20) {
			k := token(next(8), at-next(3), at+next(5))
			k.Self = next(2) == 0
			l = append(l, k)
			at += next(4) - round%2 // in every second round it may go back
		}
		checkModelled(t, l, next(60)-5)
	}
}

// What the layers below tell: T4.
func TestCoverTexts(t *testing.T) {
	pieces := []string{"", "a", "é\r\n", "<b>", "</b>", "</>", "<!--c-->", "&lt;", "&lt", "&x", "<!doctype html>", "<title>", "</title>", "<", "</", "<![CDATA[", "<b c", "\x00\xFF", "<plaintext>", "<?", "<!--"}
	for _, a := range pieces {
		for _, b := range pieces {
			for _, c := range pieces {
				s := a + b + c
				l, _ := rawtext.Data(s)
				checkModelled(t, l, len(s))
				checkModelled(t, l, len(s)-1)
				checkModelled(t, l, len(s)+1)
			}
		}
	}
}

func TestCoverTextsByHand(t *testing.T) {
	for _, x := range []struct {
		s    string
		want []api.Part
	}{
		{"", nil},
		{"</>", row(tag(0, 3))},
		{"</></>", row(tag(0, 6))},
		{"<b></>x", row(tag(0, 3), tag(3, 6), text(6, 7))},
		{"é\r\na", row(text(0, 5))},
		{"&lt;&gt;x", row(part(0, 4, 5), part(4, 8, 5), text(8, 9))},
		{"x<a b", row(text(0, 1), tag(1, 5))},
		{"<title><b></title>", row(tag(0, 7), text(7, 10), tag(10, 18))},
		{"<!doctype a><!--b--><!--c-->", row(part(0, 12, 4), part(12, 20, 3), part(20, 28, 3))},
		{"a<", row(text(0, 2))},
	} {
		l, _ := rawtext.Data(x.s)
		checkCover(t, l, len(x.s), x.want...)
	}
}

// Neither the tokens nor what lies behind the list's end is touched.
func TestCoverLeavesTokens(t *testing.T) {
	mixed := func() []api.Token {
		a := []api.Attr{{Name: "x", Value: "1"}, {Name: "y", Value: "2"}}
		return []api.Token{
			charAt(0, 2), charAt(1, 4), {Kind: api.TokStart, Name: "a", Attrs: a, Span: api.Span{From: -3, To: 9}},
			{Kind: api.TokComment, Text: "c", Span: api.Span{From: 9, To: 5}}, token(api.TokEof, 20, 30), charAt(8, 50), charAt(1, 3), startAt(60, 70),
		}
	}
	l := mixed()
	for n := -1; n < 80; n++ {
		Cover(l[:5], n)
		Cover(l, n)
		Cover(l[2:2], n)
	}
	if !reflect.DeepEqual(l, mixed()) {
		t.Errorf("%+v", l)
	}
}

func TestCoverGivesNewMemory(t *testing.T) {
	l, _ := rawtext.Data("a<b>c</b>&lt;</>d")
	a, b := Cover(l, 17), Cover(l, 17)
	want := slices.Clone(a)
	if !Same(a, b) {
		t.Fatalf("two answers: %v and %v", a, b)
	}
	for i := range a[:cap(a)] {
		a[:cap(a)][i] = part(-7, -7, -7)
	}
	if !slices.Equal(b, want) || !slices.Equal(Cover(l, 17), want) {
		t.Errorf("they share memory: %v", b)
	}
}

func TestCoverManyTokens(t *testing.T) {
	const n = 1 << 18
	var l []api.Token
	for i := range n {
		l = append(l, charAt(i, i+1))
	}
	checkCover(t, l, n, text(0, n))
	for i := range n {
		l[i].Self = i%2 == 0
	}
	got := Cover(l, n)
	if len(got) != n || got[n-1] != text(n-1, n) || !Check(got, n) || Check(got, n+1) || At(got, n-1) != api.ClassText || At(got, n) != 0 {
		t.Error("a long row of references and characters")
	}
	if !Same(got, Cover(l, n)) || Same(got, got[:n-1]) {
		t.Error("Same of long rows")
	}
	s := strings.Repeat("<b>x</b></>", 1000)
	m, _ := rawtext.Data(s)
	if p := Cover(m, len(s)); len(p) != 4000 || !Check(p, len(s)) {
		t.Errorf("%d parts", len(p))
	}
}

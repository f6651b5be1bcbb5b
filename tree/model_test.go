package tree

import (
	"cmp"
	"slices"
	"testing"

	"taffrail/api"
	"taffrail/attrs"
)

// What the chapter says, in as plain calls within calls as can be.

func likeOf(a, b api.Node) bool {
	if a.Kind != b.Kind || a.Space != b.Space || a.Name != b.Name || a.Text != b.Text || !attrs.Same(a.Attrs, b.Attrs) || len(a.Kids) != len(b.Kids) {
		return false
	}
	for i := range a.Kids {
		if !likeOf(a.Kids[i], b.Kids[i]) {
			return false
		}
	}
	return true
}

func idsOf(n api.Node) []int {
	out := []int{n.Id}
	for _, kid := range n.Kids {
		out = append(out, idsOf(kid)...)
	}
	return out
}

func findOf(n api.Node, id int) (api.Node, bool) {
	if n.Id == id {
		return n, true
	}
	for _, kid := range n.Kids {
		if x, ok := findOf(kid, id); ok {
			return x, true
		}
	}
	return api.Node{}, false
}

func depthOf(n api.Node) int {
	deepest := 0
	for _, kid := range n.Kids {
		deepest = max(deepest, depthOf(kid))
	}
	return 1 + deepest
}

func stripOf(n api.Node) api.Node {
	n.Id, n.Start, n.End, n.Attrs = 0, api.Span{From: -1, To: -1}, api.Span{From: -1, To: -1}, attrs.Sorted(n.Attrs)
	kids := n.Kids
	n.Kids = nil
	for _, kid := range kids {
		n.Kids = append(n.Kids, stripOf(kid))
	}
	return n
}

func checkOf(n api.Node) api.Errno {
	seen := map[int]bool{}
	for _, id := range idsOf(n) {
		if id < 0 || seen[id] {
			return api.ErrNode
		}
		seen[id] = true
	}
	if n.Kind != api.NodeDocument || !kindsOf(n, true) {
		return api.ErrArg
	}
	return api.OK
}

func kindsOf(n api.Node, root bool) bool {
	holds := n.Kind == api.NodeDocument || n.Kind == api.NodeElement
	if n.Kind < 0 || n.Kind > 4 || n.Kind == api.NodeDocument && !root || !holds && len(n.Kids) > 0 || n.Kind == api.NodeText && n.Text == "" {
		return false
	}
	return !slices.ContainsFunc(n.Kids, func(kid api.Node) bool { return !kindsOf(kid, false) })
}

// drawer answers numbers below most by a rule that jumps about.
type drawer uint32

func (d *drawer) next(most int) int {
	*d = *d*1664525 + 1013904223
	return int(*d>>8) % most
}

// attrList draws attributes of few names and values; once has each name once.
func (d *drawer) attrList(once bool) []api.Attr {
	l := make([]api.Attr, 0, 4)
	for range d.next(5) {
		a := api.Attr{Name: string(rune('a' + d.next(4))), Value: string(rune('0' + d.next(2)))}
		if _, has := attrs.Get(l, a.Name); !has || !once {
			l = append(l, a)
		}
	}
	return l
}

// wild draws a node with anything in its fields, and kids.
func (d *drawer) wild(levels int) api.Node {
	n := api.Node{
		Id: d.next(40) - 1, Kind: d.next(7) - 1, Space: d.next(4) - 1, Name: string(rune('p' + d.next(2))), Text: []string{"", "t", "u"}[d.next(3)],
		Attrs: d.attrList(true), Start: api.Span{From: d.next(3), To: d.next(3)}, End: api.Span{From: d.next(2) - 1, To: d.next(2) - 1},
	}
	if levels > 1 {
		for range d.next(4) {
			n.Kids = append(n.Kids, d.wild(levels-1))
		}
	}
	return n
}

// proper draws a proper node of a kind, with numbers from *id on.
func (d *drawer) proper(kind, levels int, id *int) api.Node {
	n := api.Node{Id: *id, Kind: kind, Start: api.None(), End: api.None()}
	*id++
	switch kind {
	case api.NodeElement:
		n.Space, n.Name, n.Attrs = d.next(3), string(rune('p'+d.next(2))), d.attrList(true)
		n.Start = api.Span{From: d.next(9), To: 9 + d.next(9)}
	case api.NodeText:
		n.Text = string(rune('x' + d.next(2)))
	case api.NodeComment:
		n.Text = []string{"", "c"}[d.next(2)]
	case api.NodeDoctype:
		n.Name = []string{"", "html"}[d.next(2)]
	}
	for range d.next(4) {
		if kind <= api.NodeElement && levels > 1 {
			n.Kids = append(n.Kids, d.proper(max(1, d.next(7)-2), levels-1, id))
		}
	}
	return n
}

// nodesOf are all nodes of a tree, by their places.
func nodesOf(n *api.Node) []*api.Node {
	out := []*api.Node{n}
	for i := range n.Kids {
		out = append(out, nodesOf(&n.Kids[i])...)
	}
	return out
}

// cloned is n as new memory, by what the chapter does not promise to use.
func cloned(n api.Node) api.Node {
	n.Attrs = slices.Clone(n.Attrs)
	n.Kids = slices.Clone(n.Kids)
	for i := range n.Kids {
		n.Kids[i] = cloned(n.Kids[i])
	}
	return n
}

// touched is a clone of n with up to two small changes, many of which Like leaves out.
func (d *drawer) touched(n api.Node) api.Node {
	n = cloned(n)
	for range d.next(3) {
		l := nodesOf(&n)
		x := l[d.next(len(l))]
		switch d.next(11) {
		case 0:
			x.Kind = d.next(6)
		case 1:
			x.Space = d.next(3)
		case 2:
			x.Name = string(rune('p' + d.next(2)))
		case 3:
			x.Text = []string{"", "t", "u"}[d.next(3)]
		case 4:
			x.Attrs = d.attrList(true)
		case 5:
			x.Kids = x.Kids[:d.next(len(x.Kids)+1)]
		case 6:
			slices.Reverse(x.Kids)
		case 7:
			x.Start.From = d.next(3)
		case 8:
			x.End.To = d.next(3)
		case 9:
			x.Id = l[d.next(len(l))].Id - d.next(2)
		default:
			d.shuffle(x.Attrs)
		}
	}
	return n
}

func (d *drawer) shuffle(l []api.Attr) {
	for i := range l {
		k := d.next(i + 1)
		l[i], l[k] = l[k], l[i]
	}
}

// blurred is a clone of n with all that Like leaves out made other.
func (d *drawer) blurred(n api.Node) api.Node {
	n = cloned(n)
	for _, x := range nodesOf(&n) {
		x.Id, x.Start, x.End = d.next(1000)-500, api.Span{From: d.next(9), To: d.next(9)}, api.Span{From: d.next(9), To: d.next(9)}
		d.shuffle(x.Attrs)
	}
	return n
}

func checkModel(t *testing.T, n api.Node) {
	t.Helper()
	checkForm(t, n, idsOf(n), depthOf(n))
	for id := -3; id < 41; id++ {
		x, ok := Find(n, id)
		y, want := findOf(n, id)
		if ok != want || !isSame(x, y) {
			t.Fatalf("Find(%d): %v, %+v\nin %+v", id, ok, x, n)
		}
	}
	if got, want := Strip(n), stripOf(n); !isSame(got, want) {
		t.Fatalf("Strip:\n got %+v\nwant %+v", got, want)
	}
	checkCheck(t, "drawn", n, checkOf(n))
}

func TestAgainstModel(t *testing.T) {
	d := drawer(11)
	errs := map[api.Errno]int{}
	for range 400 {
		n := d.wild(1 + d.next(4))
		checkModel(t, n)
		id := d.next(5)
		m := d.proper(api.NodeDocument, 1+d.next(6), &id)
		checkModel(t, m)
		checkCheck(t, "proper", m, api.OK)
		m = d.touched(m)
		checkModel(t, m)
		errs[Check(m)]++
	}
	if errs[api.OK] < 10 || errs[api.ErrArg] < 10 || errs[api.ErrNode] < 10 {
		t.Errorf("the drawn trees are too much alike: %v", errs)
	}
}

// 14.2, and Equal and Like against the chapter's words, of drawn trees and of what small changes make of them.
func TestLikeJustIfStripsAreEqual(t *testing.T) {
	d := drawer(5)
	told := map[[2]bool]int{}
	held := func(a, b api.Node) {
		equal, like := Equal(a, b), Like(a, b)
		told[[2]bool{equal, like}]++
		if equal != isSame(a, b) || like != likeOf(a, b) || Equal(b, a) != equal || Like(b, a) != like {
			t.Fatalf("Equal %v, Like %v\n%+v\n%+v", equal, like, a, b)
		}
		if like != Equal(Strip(a), Strip(b)) {
			t.Fatalf("14.2: Like %v, but Equal of Strips is not\n%+v\n%+v", like, a, b)
		}
	}
	for range 1500 {
		n, id := d.wild(1+d.next(4)), 0
		m := d.proper(api.NodeDocument, 1+d.next(5), &id)
		for _, x := range []api.Node{n, m} {
			held(x, cloned(x))
			held(x, d.touched(x))
			held(x, Strip(x))
			held(x, d.blurred(x))
			held(d.blurred(x), d.touched(x))
			if !Like(x, d.blurred(x)) || !Like(x, Strip(x)) {
				t.Fatalf("Like has more to it than the chapter says: %+v", x)
			}
		}
		held(n, m)
	}
	for _, key := range [][2]bool{{true, true}, {false, true}, {false, false}} {
		if told[key] < 500 {
			t.Errorf("Equal and Like %v: %d times only", key, told[key])
		}
	}
	if told[[2]bool{true, false}] != 0 {
		t.Error("Equal, but not Like")
	}
}

// With a name twice 14.2 need not hold; Like still goes by chapter 8's Same.
func TestLikeOfDrawnNamesTwice(t *testing.T) {
	d := drawer(3)
	for range 3000 {
		a, b := el(1, "p", el(2, "q")), el(3, "p", el(4, "q"))
		a.Attrs, b.Attrs = d.attrList(false), d.attrList(false)
		a.Kids[0].Attrs = d.attrList(false)
		b.Kids[0].Attrs = slices.Clone(a.Kids[0].Attrs)
		d.shuffle(b.Kids[0].Attrs)
		checkBoth(t, "names twice", a, b, false, likeOf(a, b))
	}
}

// An answer hangs on the arguments alone.
func TestManyTimes(t *testing.T) {
	d := drawer(9)
	for range 20 {
		n := d.wild(4)
		strip, ids, err := Strip(n), Ids(n), Check(n)
		for range 20 {
			if !isSame(Strip(n), strip) || !slices.Equal(Ids(n), ids) || Check(n) != err {
				t.Fatalf("another answer: %+v", n)
			}
		}
	}
}

func TestStripsAttributesAreAsSorted(t *testing.T) {
	d := drawer(2)
	for range 500 {
		l := d.attrList(false)
		n := Strip(doc(0, api.Node{Kind: 1, Attrs: l}))
		if !slices.Equal(n.Kids[0].Attrs, attrs.Sorted(l)) || !slices.IsSortedFunc(n.Kids[0].Attrs, func(a, b api.Attr) int {
			return cmp.Or(cmp.Compare(a.Name, b.Name), cmp.Compare(a.Value, b.Value))
		}) {
			t.Errorf("%v: %v", l, n.Kids[0].Attrs)
		}
	}
}

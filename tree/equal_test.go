package tree

import (
	"math"
	"slices"
	"strings"
	"testing"

	"taffrail/api"
	"taffrail/attrs"
)

// change makes one thing of a node another; like tells whether Like leaves it out.
type change struct {
	name string
	like bool
	do   func(n *api.Node)
}

// changes are for nodes that have two attributes, of different names and values, and two kids, the first of them with a kid.
func changes() []change {
	return []change{
		{"Id", true, func(n *api.Node) { n.Id++ }},
		{"Id far away", true, func(n *api.Node) { n.Id = math.MinInt }},
		{"Id by 1<<32", true, func(n *api.Node) { n.Id += 1 << 32 }},
		{"Kind", false, func(n *api.Node) { n.Kind++ }},
		{"Kind by 1<<32", false, func(n *api.Node) { n.Kind += 1 << 32 }},
		{"Kind of none", false, func(n *api.Node) { n.Kind = -1 }},
		{"Space", false, func(n *api.Node) { n.Space = api.Math }},
		{"Space below 0", false, func(n *api.Node) { n.Space = -7 }},
		{"Name", false, func(n *api.Node) { n.Name += "x" }},
		{"Name without", false, func(n *api.Node) { n.Name = "" }},
		{"Name's case", false, func(n *api.Node) { n.Name = strings.ToUpper(n.Name) }},
		{"Text", false, func(n *api.Node) { n.Text += "x" }},
		{"Text without", false, func(n *api.Node) { n.Text = "" }},
		{"Text and Name", false, func(n *api.Node) { n.Text, n.Name = n.Name, n.Text }},
		{"first attribute's name", false, func(n *api.Node) { n.Attrs[0].Name += "x" }},
		{"last attribute's name", false, func(n *api.Node) { n.Attrs[1].Name = "" }},
		{"first attribute's value", false, func(n *api.Node) { n.Attrs[0].Value = "" }},
		{"last attribute's value", false, func(n *api.Node) { n.Attrs[1].Value += "x" }},
		{"names the other way round", false, func(n *api.Node) { n.Attrs[0].Name, n.Attrs[1].Name = n.Attrs[1].Name, n.Attrs[0].Name }},
		{"attributes' order", true, func(n *api.Node) { slices.Reverse(n.Attrs) }},
		{"an attribute less", false, func(n *api.Node) { n.Attrs = n.Attrs[:1] }},
		{"no attribute", false, func(n *api.Node) { n.Attrs = nil }},
		{"an attribute more", false, func(n *api.Node) { n.Attrs = append(n.Attrs, api.Attr{Name: "q"}) }},
		{"an attribute twice", false, func(n *api.Node) { n.Attrs = append(n.Attrs, n.Attrs[0]) }},
		{"the first attribute for the last", false, func(n *api.Node) { n.Attrs[1] = n.Attrs[0] }},
		{"Start.From", true, func(n *api.Node) { n.Start.From++ }},
		{"Start.To", true, func(n *api.Node) { n.Start.To-- }},
		{"no Start", true, func(n *api.Node) { n.Start = api.None() }},
		{"End.From", true, func(n *api.Node) { n.End.From-- }},
		{"End.To", true, func(n *api.Node) { n.End.To++ }},
		{"no End", true, func(n *api.Node) { n.End = api.None() }},
		{"Start and End", true, func(n *api.Node) { n.Start, n.End = n.End, n.Start }},
		{"a kid less", false, func(n *api.Node) { n.Kids = n.Kids[:1] }},
		{"without the first kid", false, func(n *api.Node) { n.Kids = n.Kids[1:] }},
		{"no kids", false, func(n *api.Node) { n.Kids = nil }},
		{"a kid more", false, func(n *api.Node) { n.Kids = append(n.Kids, api.Node{}) }},
		{"a kid twice", false, func(n *api.Node) { n.Kids = append(n.Kids, n.Kids[1]) }},
		{"kids' order", false, func(n *api.Node) { slices.Reverse(n.Kids) }},
		{"a kid of a kid less", false, func(n *api.Node) { n.Kids[0].Kids = nil }},
		{"a kid's kid for the kid's neighbour", false, func(n *api.Node) {
			n.Kids = []api.Node{n.Kids[0], n.Kids[0].Kids[0], n.Kids[1]}
			n.Kids[0].Kids = nil
		}},
	}
}

// family has two levels of kids, with something in each field; all nodes differ.
func family() api.Node {
	n := full(1, 1, full(2, 2, full(3, 3)), full(4, 4))
	n.Kids[0].Name, n.Kids[0].Kids[0].Text, n.Kids[1].Attrs[0].Value = "first", "below", "4"
	return n
}

func checkBoth(t *testing.T, what string, a, b api.Node, wantEqual, wantLike bool) {
	t.Helper()
	for range 2 {
		if got := Equal(a, b); got != wantEqual {
			t.Errorf("%s: Equal: %v\n%+v\n%+v", what, got, a, b)
		}
		if got := Like(a, b); got != wantLike {
			t.Errorf("%s: Like: %v\n%+v\n%+v", what, got, a, b)
		}
		a, b = b, a
	}
}

func TestSameTrees(t *testing.T) {
	for _, made := range []func() api.Node{
		func() api.Node { return api.Node{} }, sample, family,
		func() api.Node { return chain(30) }, func() api.Node { return row(30) }, func() api.Node { return comb(30) },
		func() api.Node { return full(-3, 77, full(math.MinInt, -8)) },
	} {
		n := made()
		checkBoth(t, "made twice", n, made(), true, true)
		checkBoth(t, "itself", n, n, true, true)
	}
}

// One change at the root, in a kid, in a kid of a kid, and below many others.
func TestOneChange(t *testing.T) {
	wraps := []func(n api.Node) api.Node{
		func(n api.Node) api.Node { return n },
		func(n api.Node) api.Node { return doc(0, n) },
		func(n api.Node) api.Node { return doc(0, text(70, "a"), n, el(71, "b", text(72, "c"))) },
		func(n api.Node) api.Node { return doc(0, el(70, "a", text(71, "c"), n), text(72, "b")) },
		func(n api.Node) api.Node {
			for id := range 50 {
				n = el(id, "e", text(id+100, "ahead"), n, text(id+200, "behind"))
			}
			return n
		},
	}
	for _, c := range changes() {
		for _, wrap := range wraps {
			n := family()
			c.do(&n)
			checkBoth(t, c.name, wrap(family()), wrap(n), false, c.like)
		}
	}
}

// The same changes one level further down: in what is the second kid itself.
func TestOneChangeOfLastKid(t *testing.T) {
	for _, c := range changes() {
		made := func() api.Node { return full(9, 0, full(8, 3), family()) }
		n := made()
		c.do(&n.Kids[1])
		checkBoth(t, c.name, made(), n, false, c.like)
	}
}

// Two changes that Like leaves out, at several levels at once.
func TestManyChangesThatLikeLeavesOut(t *testing.T) {
	n := family()
	for _, x := range []*api.Node{&n, &n.Kids[0], &n.Kids[0].Kids[0], &n.Kids[1]} {
		x.Id, x.Start, x.End = -x.Id, api.Span{From: 9, To: 1}, api.Span{}
		slices.Reverse(x.Attrs)
	}
	checkBoth(t, "all that plays no part", family(), n, false, true)
	n.Kids[0].Kids[0].Text = "other"
	checkBoth(t, "and a text", family(), n, false, false)
}

// Spans count in Equal whatever the kind is, and never in Like.
func TestSpansOfAllKinds(t *testing.T) {
	for kind := -1; kind <= 5; kind++ {
		n, m := api.Node{Kind: kind}, api.Node{Kind: kind}
		checkBoth(t, "bare", n, m, true, true)
		m.Start = api.None()
		checkBoth(t, "Start", n, m, false, true)
		m.Start, m.End = api.Span{}, api.None()
		checkBoth(t, "End", n, m, false, true)
		checkBoth(t, "End of a kid", doc(0, n), doc(0, m), false, true)
	}
}

func TestEmptyLists(t *testing.T) {
	lists := []api.Node{
		{},
		{Attrs: []api.Attr{}},
		{Kids: []api.Node{}},
		{Attrs: []api.Attr{}, Kids: []api.Node{}},
		{Attrs: make([]api.Attr, 0, 3), Kids: make([]api.Node, 0, 3)},
		{Attrs: []api.Attr{{Name: "a"}}[:0], Kids: []api.Node{{Id: 7}}[:0]},
	}
	for _, a := range lists {
		for _, b := range lists {
			checkBoth(t, "empty lists", a, b, true, true)
			checkBoth(t, "empty lists below", doc(0, el(1, "e"), a), doc(0, el(1, "e"), b), true, true)
			checkBoth(t, "empty lists far below", doc(0, el(1, "e", el(2, "f", a))), doc(0, el(1, "e", el(2, "f", b))), true, true)
		}
		checkBoth(t, "one kid", a, api.Node{Kids: []api.Node{a}}, false, false)
		checkBoth(t, "one attribute", a, api.Node{Attrs: make([]api.Attr, 1)}, false, false)
	}
}

// What lies behind a list's end is not of it.
func TestBehindTheEnd(t *testing.T) {
	kids := []api.Node{text(1, "x"), text(2, "y")}
	l := []api.Attr{{Name: "a"}, {Name: "b"}}
	short := api.Node{Attrs: l[:1], Kids: kids[:1]}
	checkBoth(t, "cut", short, api.Node{Attrs: []api.Attr{{Name: "a"}}, Kids: []api.Node{text(1, "x")}}, true, true)
	checkBoth(t, "not cut", short, api.Node{Attrs: l, Kids: kids}, false, false)
	checkForm(t, short, []int{0, 1}, 2)
	checkLost(t, short, 2)
	if got := Strip(short); len(got.Attrs) != 1 || len(got.Kids) != 1 {
		t.Errorf("Strip: %+v", got)
	}
	short.Kids = []api.Node{text(1, "x"), text(1, "")}[:1]
	if err := Check(short); err != api.OK {
		t.Errorf("Check: %d", err)
	}
}

// Trees of as many nodes that stand otherwise.
func TestSameNodesOtherForm(t *testing.T) {
	forms := []api.Node{
		el(0, "e", el(0, "e"), el(0, "e"), el(0, "e")),
		el(0, "e", el(0, "e", el(0, "e")), el(0, "e")),
		el(0, "e", el(0, "e"), el(0, "e", el(0, "e"))),
		el(0, "e", el(0, "e", el(0, "e"), el(0, "e"))),
		el(0, "e", el(0, "e", el(0, "e", el(0, "e")))),
	}
	for i, a := range forms {
		for j, b := range forms {
			checkBoth(t, "forms", a, b, i == j, i == j)
		}
	}
}

// Like's attributes are as chapter 8's Same: against that call, for all short lists.
func TestLikeIsAsAttrsSame(t *testing.T) {
	alphabet := []api.Attr{{}, {Name: "a"}, {Name: "a", Value: "1"}, {Name: "A"}, {Name: "b", Value: "1"}}
	lists := [][]api.Attr{nil}
	for from, count := 0, 0; count < 3; count++ {
		upto := len(lists)
		for _, l := range lists[from:upto] {
			for _, a := range alphabet {
				lists = append(lists, append(slices.Clone(l), a))
			}
		}
		from = upto
	}
	for _, a := range lists {
		for _, b := range lists {
			x, y := api.Node{Kind: 1, Attrs: a}, api.Node{Kind: 1, Attrs: b}
			checkBoth(t, "attributes", x, y, slices.Equal(a, b), attrs.Same(a, b))
		}
	}
}

// As many in all, and each stands in the other: how often each is told plays no part.
func TestLikeOfAttributesTwice(t *testing.T) {
	x, y := api.Attr{Name: "x", Value: "1"}, api.Attr{Name: "y", Value: "2"}
	node := func(l ...api.Attr) api.Node { return el(1, "e", api.Node{Kind: 1, Attrs: l}) }
	checkBoth(t, "x x y, x y y", node(x, x, y), node(x, y, y), false, true)
	checkBoth(t, "x x y, y x x", node(x, x, y), node(y, x, x), false, true)
	checkBoth(t, "x x y, x y", node(x, x, y), node(x, y), false, false)
	checkBoth(t, "x x y, x x x", node(x, x, y), node(x, x, x), false, false)
}

func TestLikeOfManyAttributes(t *testing.T) {
	const many = 1 << 16
	var l []api.Attr
	for i := range many {
		l = append(l, api.Attr{Name: strings.Repeat("n", i%7) + string(rune('a'+i%26)), Value: strings.Repeat("v", i%11)})
	}
	back := slices.Clone(l)
	slices.Reverse(back)
	a, b := doc(0, api.Node{Kind: 1, Attrs: l}), doc(0, api.Node{Kind: 1, Attrs: back})
	check := func(like bool) {
		t.Helper()
		if Equal(a, b) || Like(a, b) != like || Like(b, a) != like {
			t.Errorf("many attributes: Like is not %v, or Equal is true", like)
		}
	}
	check(true)
	back[many/2].Value = "other"
	check(false)
	slices.Reverse(back)
	check(false)
}

package tree

import (
	"math"
	"reflect"
	"slices"
	"testing"

	"taffrail/api"
)

func doc(id int, kids ...api.Node) api.Node {
	return api.Node{Id: id, Kind: api.NodeDocument, Start: api.None(), End: api.None(), Kids: kids}
}

func el(id int, name string, kids ...api.Node) api.Node {
	return api.Node{Id: id, Kind: api.NodeElement, Name: name, Start: api.None(), End: api.None(), Kids: kids}
}

func text(id int, s string) api.Node {
	return api.Node{Id: id, Kind: api.NodeText, Text: s, Start: api.None(), End: api.None()}
}

func comment(id int, s string) api.Node {
	return api.Node{Id: id, Kind: api.NodeComment, Text: s, Start: api.None(), End: api.None()}
}

func doctype(id int, name string) api.Node {
	return api.Node{Id: id, Kind: api.NodeDoctype, Name: name, Start: api.None(), End: api.None()}
}

// full has something in each field, so that it is no proper node of any kind.
func full(id, kind int, kids ...api.Node) api.Node {
	return api.Node{
		Id: id, Kind: kind, Space: api.Svg, Name: "n", Text: "t", Attrs: []api.Attr{{Name: "b", Value: "2"}, {Name: "a", Value: "1"}},
		Start: api.Span{From: 3, To: 9}, End: api.Span{From: 20, To: 25}, Kids: kids,
	}
}

// sample is a proper tree of all kinds, four levels of it, with numbers that are not in order.
func sample() api.Node {
	deep := el(11, "i", text(5, "x"), comment(9, ""))
	deep.Attrs = []api.Attr{{Name: "z", Value: "1"}, {Name: "a", Value: "2"}}
	deep.Start, deep.End = api.Span{From: 30, To: 33}, api.Span{From: 34, To: 38}
	p := el(2, "p", text(7, "y"), deep, text(3, "z"))
	p.Attrs = []api.Attr{{Name: "y", Value: "2"}, {Name: "x", Value: "1"}}
	p.Space, p.Start = api.Svg, api.Span{From: 20, To: 23}
	return doc(0, doctype(8, "html"), p, el(4, "br"), comment(6, "c"))
}

// chain is a document and below it elements, one below the other, and a text: so many levels, and the numbers 0 and up.
func chain(levels int) api.Node {
	n := text(levels-1, "x")
	for id := levels - 2; id > 0; id-- {
		n = el(id, "e", n)
	}
	return doc(0, n)
}

// row is a document with texts, so many nodes in all, and the numbers 0 and up.
func row(count int) api.Node {
	n := doc(0)
	for id := 1; id < count; id++ {
		n.Kids = append(n.Kids, text(id, "x"))
	}
	return n
}

// comb is a document below which each element has two kids, a text and the next element: the numbers 0 and up, and levels + levels - 2 nodes.
func comb(levels int) api.Node {
	last := 2*levels - 3
	n := text(last, "x")
	for id := last - 2; id > 0; id -= 2 {
		n = el(id, "e", text(id+1, "x"), n)
	}
	return doc(0, n)
}

// plain is a node with all empty lists nil.
func plain(n api.Node) api.Node {
	if len(n.Attrs) == 0 {
		n.Attrs = nil
	}
	kids := n.Kids
	n.Kids = nil
	for _, kid := range kids {
		n.Kids = append(n.Kids, plain(kid))
	}
	return n
}

func isSame(a, b api.Node) bool { return reflect.DeepEqual(plain(a), plain(b)) }

// upTo gives 0, 1 and so on, ahead of n.
func upTo(n int) []int {
	out := make([]int, n)
	for i := range out {
		out[i] = i
	}
	return out
}

func checkForm(t *testing.T, n api.Node, ids []int, depth int) {
	t.Helper()
	if got := Count(n); got != len(ids) {
		t.Errorf("Count: %d, not %d", got, len(ids))
	}
	if got := Depth(n); got != depth {
		t.Errorf("Depth: %d, not %d", got, depth)
	}
	if got := Ids(n); !slices.Equal(got, ids) {
		t.Errorf("Ids: %v, not %v", got[:min(len(got), 20)], ids[:min(len(ids), 20)])
	}
}

func checkFind(t *testing.T, n api.Node, id int, want api.Node) {
	t.Helper()
	if got, ok := Find(n, id); !ok || !isSame(got, want) {
		t.Errorf("Find(%d): %v\n got %+v\nwant %+v", id, ok, got, want)
	}
}

func checkLost(t *testing.T, n api.Node, ids ...int) {
	t.Helper()
	for _, id := range ids {
		if got, ok := Find(n, id); ok || !isSame(got, api.Node{}) {
			t.Errorf("Find(%d): %v, %+v", id, ok, got)
		}
	}
}

func TestExample(t *testing.T) {
	checkForm(t, doc(0, text(1, "x")), []int{0, 1}, 2)
}

func TestForms(t *testing.T) {
	for kind := -1; kind <= 5; kind++ {
		checkForm(t, full(7, kind), []int{7}, 1)
		checkForm(t, full(7, kind, full(6, kind), full(5, kind, full(4, kind))), []int{7, 6, 5, 4}, 3)
	}
	checkForm(t, api.Node{}, []int{0}, 1)
	checkForm(t, api.Node{Kids: []api.Node{}}, []int{0}, 1)
	checkForm(t, api.Node{Kids: make([]api.Node, 0, 4)}, []int{0}, 1)
	checkForm(t, api.Node{Kids: make([]api.Node, 3)}, []int{0, 0, 0, 0}, 2)
	checkForm(t, chain(40), upTo(40), 40)
	checkForm(t, row(40), upTo(40), 2)
	checkForm(t, comb(40), upTo(78), 40)
	checkForm(t, sample(), []int{0, 8, 2, 7, 11, 5, 9, 3, 4, 6}, 4)
	checkForm(t, sample().Kids[1], []int{2, 7, 11, 5, 9, 3}, 3)
	// The deepest kid is the first one, one in the middle, the last one.
	for i := range 3 {
		n := doc(0, el(1, "a"), el(2, "b"), el(3, "c"))
		n.Kids[i].Kids = []api.Node{el(4, "d", text(5, "x"))}
		checkForm(t, n, slices.Insert([]int{0, 1, 2, 3}, i+2, 4, 5), 4)
	}
}

func TestIdsOfAnyNumbers(t *testing.T) {
	ids := []int{math.MaxInt, math.MinInt, -1, 5, 5, 0, math.MaxInt, 1 << 32, -(1 << 31), 5}
	n := doc(ids[0])
	for _, id := range ids[1:] {
		n.Kids = append(n.Kids, el(id, "e"))
	}
	checkForm(t, n, ids, 2)
	for i := range len(ids) - 1 {
		m := el(ids[i], "e", el(ids[i+1], "e"))
		checkForm(t, m, ids[i:i+2], 2)
	}
}

func TestFind(t *testing.T) {
	n := sample()
	p := n.Kids[1]
	for id, want := range map[int]api.Node{0: n, 8: n.Kids[0], 2: p, 7: p.Kids[0], 11: p.Kids[1], 5: p.Kids[1].Kids[0], 9: p.Kids[1].Kids[1], 3: p.Kids[2], 4: n.Kids[2], 6: n.Kids[3]} {
		checkFind(t, n, id, want)
	}
	checkLost(t, n, 1, 10, 12, -1, -2, 1<<32, 1<<32+2, math.MinInt, math.MaxInt)
	checkFind(t, p, 2, p)
	checkFind(t, p, 5, p.Kids[1].Kids[0])
	checkLost(t, p, 0, 4, 6, 8)
	checkFind(t, api.Node{}, 0, api.Node{})
	checkLost(t, api.Node{}, 1, -1)
	checkFind(t, full(7, -5, full(8, 9)), 7, full(7, -5, full(8, 9)))
	checkFind(t, full(7, -5, full(8, 9)), 8, full(8, 9))
}

// The first in order counts: n itself, then all below a kid ahead of the next kid, however deep it stands.
func TestFindOfNumbersTwice(t *testing.T) {
	n := doc(1, el(1, "a"), el(2, "b", el(3, "c", text(4, "deep")), text(3, "later")), el(4, "d"), text(2, "last"))
	checkFind(t, n, 1, n)
	checkFind(t, n, 2, n.Kids[1])
	checkFind(t, n, 3, n.Kids[1].Kids[0])
	checkFind(t, n, 4, text(4, "deep"))
	checkLost(t, n, 0, 5)
	m := doc(0, text(1, "a"), text(1, "b"), text(1, "c"))
	checkFind(t, m, 1, text(1, "a"))
}

func TestFindOfAnyNumbers(t *testing.T) {
	for _, id := range []int{math.MinInt, -1 << 32, -1, 0, 1 << 31, 1 << 32, math.MaxInt} {
		n := doc(7, el(8, "e", text(id, "x")))
		checkFind(t, n, id, text(id, "x"))
		checkLost(t, n, id+1, id-1)
	}
}

// Trees may be far deeper, and wider, than calls should nest.
func TestDeepAndWide(t *testing.T) {
	const many = 1 << 17
	for name, n := range map[string]api.Node{"chain": chain(many), "row": row(many), "comb": comb(many/2 + 1)} {
		ids := Ids(n)
		if len(ids) != many || Count(n) != many || !slices.Equal(ids, upTo(many)) {
			t.Errorf("%s: %d nodes", name, len(ids))
		}
		if want := map[string]int{"chain": many, "row": 2, "comb": many/2 + 1}[name]; Depth(n) != want {
			t.Errorf("%s: depth %d, not %d", name, Depth(n), want)
		}
		last, ok := Find(n, many-1)
		if !ok || last.Kind != api.NodeText || len(last.Kids) != 0 {
			t.Errorf("%s: Find: %v, %+v", name, ok, last)
		}
		whole, ok := Find(n, 0)
		if !ok || !Equal(n, whole) || !Equal(n, n) || !Like(n, whole) {
			t.Errorf("%s: what was found is another", name)
		}
		bare := Strip(n)
		if !Like(n, bare) || !Like(bare, n) || Equal(n, bare) || Count(bare) != many || slices.Max(Ids(bare)) != 0 {
			t.Errorf("%s: Strip", name)
		}
		if err := Check(n); err != api.OK {
			t.Errorf("%s: Check: %d", name, err)
		}
		if err := Check(bare); err != api.ErrNode {
			t.Errorf("%s: Check without numbers: %d", name, err)
		}
	}
	if Equal(chain(many), chain(many+1)) || Like(row(many), row(many+1)) || Like(chain(many), row(many)) {
		t.Error("trees of another form are the same")
	}
}

func TestFaultsFarBelow(t *testing.T) {
	const many = 1 << 17
	last := func(n *api.Node) *api.Node {
		for len(n.Kids) > 0 {
			n = &n.Kids[len(n.Kids)-1]
		}
		return n
	}
	for _, n := range []api.Node{chain(many), row(many), comb(many / 2)} {
		was, _ := Find(n, 0)
		at := last(&n)
		at.Text = ""
		if err := Check(n); err != api.ErrArg || Equal(n, was) || Like(n, was) {
			t.Errorf("without a text: %d", err)
		}
		at.Text = "x"
		at.Id = 1
		if err := Check(n); err != api.ErrNode || Equal(n, was) || !Like(n, was) {
			t.Errorf("a number twice: %d", err)
		}
	}
}

package tree

import (
	"math"
	"testing"

	"taffrail/api"
)

func checkCheck(t *testing.T, what string, n api.Node, want api.Errno) {
	t.Helper()
	if got := Check(n); got != want {
		t.Errorf("%s: Check: %d, not %d\n%+v", what, got, want, n)
	}
}

// below gives documents, with numbers of 1000 and up, that have n at several levels, as the first, the last, the only kid.
func below(n api.Node) []api.Node {
	return []api.Node{
		doc(1000, n),
		doc(1000, n, text(1001, "x")),
		doc(1000, text(1001, "x"), n),
		doc(1000, doctype(1001, "html"), el(1002, "a", n), comment(1003, "")),
		doc(1000, el(1002, "a", el(1003, "b", text(1004, "x"), n, text(1005, "y"))), el(1001, "c")),
	}
}

// far is n below more elements than most trees have levels.
func far(n api.Node) api.Node {
	for id := 2000; id < 2300; id++ {
		n = el(id, "e", n)
	}
	return doc(1000, n)
}

func checkBelow(t *testing.T, what string, n api.Node, want api.Errno) {
	t.Helper()
	for _, m := range append(below(n), far(n)) {
		checkCheck(t, what, m, want)
	}
}

func TestCheckOfNoFault(t *testing.T) {
	for _, n := range []api.Node{
		{}, doc(0), doc(7), doc(math.MaxInt), sample(), chain(20), row(20), comb(20),
		{Kids: []api.Node{}}, doc(3, el(2, "", el(1, "", el(0, "")))),
	} {
		checkCheck(t, "no fault", n, api.OK)
	}
	for _, n := range []api.Node{el(1, "p"), el(0, ""), el(math.MaxInt, "p", text(3, "x"), el(4, "b")), text(1, "x"), text(1, "\x00"), text(1, "\xff"), comment(1, "x"), comment(1, ""), doctype(1, "html"), doctype(1, "")} {
		checkBelow(t, "no fault", n, api.OK)
	}
	// An empty list is no kids.
	for _, n := range []api.Node{text(1, "x"), comment(1, ""), doctype(1, "")} {
		n.Kids = []api.Node{}
		checkBelow(t, "an empty list of kids", n, api.OK)
	}
}

// Fields that a kind does not have make a node not proper; Check has nothing against them.
func TestCheckOfNodesThatAreNotProper(t *testing.T) {
	for kind := 1; kind <= 4; kind++ {
		checkBelow(t, "fields that are not of the kind", full(1, kind), api.OK)
		n := full(1, kind)
		n.Space, n.Start, n.End = -5, api.Span{From: 9, To: -9}, api.Span{From: math.MinInt, To: math.MaxInt}
		n.Attrs = append(n.Attrs, n.Attrs...)
		checkBelow(t, "fields that may be anything", n, api.OK)
	}
	checkCheck(t, "fields that are not of a document", full(1, 0, full(2, 1)), api.OK)
}

func TestCheckOfNumbers(t *testing.T) {
	for _, id := range []int{-1, -2, -1 << 31, -1 << 32, math.MinInt} {
		checkCheck(t, "root below 0", doc(id), api.ErrNode)
		checkCheck(t, "root below 0", doc(id, el(1, "p")), api.ErrNode)
		checkBelow(t, "below 0", el(id, "p"), api.ErrNode)
		checkBelow(t, "below 0", text(id, "x"), api.ErrNode)
		checkBelow(t, "below 0", comment(id, ""), api.ErrNode)
		checkBelow(t, "below 0", doctype(id, ""), api.ErrNode)
		checkBelow(t, "below 0, far down", el(1, "p", el(2, "b", text(id, "x"))), api.ErrNode)
	}
	for _, id := range []int{0, 1, 999, 1 << 32, math.MaxInt} {
		checkBelow(t, "one", el(id, "p"), api.OK)
		checkBelow(t, "kid and kid of a kid", el(id, "p", text(id, "x")), api.ErrNode)
		checkBelow(t, "far", el(id, "p", el(3, "b", el(4, "i", text(id, "x")))), api.ErrNode)
		checkBelow(t, "side by side", el(3, "p", el(id, "b"), el(id, "b")), api.ErrNode)
		checkBelow(t, "side by side, far", el(3, "p", el(id, "b"), el(4, "b"), el(5, "i", text(id, "x"))), api.ErrNode)
		checkBelow(t, "three times", el(id, "p", el(id, "b", el(id, "i"))), api.ErrNode)
		checkCheck(t, "root and kid", doc(id, el(id, "p")), api.ErrNode)
		checkCheck(t, "root and far", doc(id, el(3, "p", el(4, "b"), text(id, "x"))), api.ErrNode)
	}
	// Numbers that differ in their high bits alone are not the same.
	checkCheck(t, "high bits", doc(1, el(1<<32+1, "p"), el(1<<31+1, "p"), el(1<<62+1, "p")), api.OK)
}

// The root's own number met again at each level.
func TestCheckOfRootsNumber(t *testing.T) {
	for _, n := range below(el(1000, "p")) {
		checkCheck(t, "the root's number", n, api.ErrNode)
	}
	checkCheck(t, "the root's number, far down", far(text(1000, "x")), api.ErrNode)
}

// Each two nodes of a tree in turn are given one number.
func TestCheckOfEachTwo(t *testing.T) {
	each := func(n *api.Node) []*api.Node {
		out := []*api.Node{n}
		for i := 0; i < len(out); i++ {
			for k := range out[i].Kids {
				out = append(out, &out[i].Kids[k])
			}
		}
		return out
	}
	count := Count(sample())
	for i := range count {
		for k := range count {
			n := sample()
			l := each(&n)
			l[i].Id = l[k].Id
			want := api.ErrNode
			if i == k {
				want = api.OK
			}
			checkCheck(t, "two of one number", n, want)
		}
		n := sample()
		each(&n)[i].Id = -1
		checkCheck(t, "one below 0", n, api.ErrNode)
	}
}

func TestCheckOfKinds(t *testing.T) {
	for _, kind := range []int{-1, 5, 6, -5, 1 << 32, 1<<32 + 1, -1 << 32, math.MinInt, math.MaxInt} {
		n := el(1, "p")
		n.Kind = kind
		checkCheck(t, "root of no kind", n, api.ErrArg)
		checkBelow(t, "no kind", n, api.ErrArg)
		n.Text, n.Kids = "x", []api.Node{text(2, "x")}
		checkBelow(t, "no kind, with all", n, api.ErrArg)
		checkBelow(t, "no kind, further down", el(3, "b", n), api.ErrArg)
	}
}

func TestCheckOfRoots(t *testing.T) {
	for _, n := range []api.Node{el(0, "html"), el(1, "p", text(2, "x")), text(0, "x"), comment(0, ""), doctype(0, "html"), sample().Kids[1]} {
		checkCheck(t, "root is no document", n, api.ErrArg)
	}
}

func TestCheckOfDocumentsBelow(t *testing.T) {
	checkBelow(t, "a document", doc(1), api.ErrArg)
	checkBelow(t, "a document with kids", doc(1, el(2, "p"), text(3, "x")), api.ErrArg)
	checkBelow(t, "a document below an element", el(1, "p", doc(2)), api.ErrArg)
	checkCheck(t, "a document below a document below an element", el(1, "p", doc(2, doc(3))), api.ErrArg)
}

func TestCheckOfKids(t *testing.T) {
	for _, kid := range []api.Node{text(2, "x"), comment(2, ""), el(2, "p"), doctype(2, "html"), el(2, "p", el(3, "b"))} {
		for _, n := range []api.Node{text(1, "x"), comment(1, "x"), comment(1, ""), doctype(1, "html")} {
			n.Kids = []api.Node{kid}
			checkCheck(t, "root that has no kids", n, api.ErrArg)
			checkBelow(t, "kids", n, api.ErrArg)
			n.Kids = []api.Node{kid, el(4, "i")}
			checkBelow(t, "kids", n, api.ErrArg)
		}
	}
}

func TestCheckOfTexts(t *testing.T) {
	checkBelow(t, "a text without Text", text(1, ""), api.ErrArg)
	checkBelow(t, "a text without Text further down", el(1, "p", text(2, "x"), text(3, "")), api.ErrArg)
	n := text(1, "")
	n.Name = "x"
	checkBelow(t, "a text with a name alone", n, api.ErrArg)
	checkCheck(t, "root", text(0, ""), api.ErrArg)
	checkBelow(t, "a comment without Text", comment(1, ""), api.OK)
}

// Where both hold, the numbers' error is told, wherever either stands.
func TestCheckOfBothFaults(t *testing.T) {
	badNumbers := []api.Node{el(-1, "p"), el(1, "p", text(1, "x")), text(math.MinInt, "x")}
	badNodes := []api.Node{doc(50), text(50, ""), {Id: 50, Kind: 9}, {Id: 50, Kind: -1}, {Id: 50, Kind: api.NodeComment, Kids: []api.Node{text(51, "x")}}, {Id: 50, Kind: api.NodeDoctype, Kids: []api.Node{el(51, "x")}}}
	for _, x := range badNumbers {
		for _, y := range badNodes {
			for _, n := range []api.Node{doc(60, x, y), doc(60, y, x), doc(60, el(61, "a", y), x), doc(60, x, el(61, "a", y)), doc(60, el(61, "a", x), y), el(60, "a", x), el(60, "a", x, y)} {
				checkCheck(t, "both", n, api.ErrNode)
			}
		}
	}
	for _, n := range []api.Node{el(-1, "p"), text(-1, ""), doc(-1, text(1, "")), {Id: -1, Kind: 9}} {
		checkCheck(t, "both in one", n, api.ErrNode)
		checkBelow(t, "both in one", n, api.ErrNode)
	}
	checkBelow(t, "a node that may not be, below it a number twice", api.Node{Id: 1, Kind: api.NodeText, Kids: []api.Node{text(2, "x"), text(2, "y")}}, api.ErrNode)
}

// All trees of a document and up to three nodes, each of any kind, against the chapter's words.
func TestCheckOfAllSmallTrees(t *testing.T) {
	for code := range 6 * 6 * 6 * 6 {
		kinds := []int{code%6 - 1, code/6%6 - 1, code/36%6 - 1, code/216 - 1}
		node := func(i int, kids ...api.Node) api.Node {
			return api.Node{Id: i, Kind: kinds[i], Text: "x", Kids: kids}
		}
		for _, n := range []api.Node{node(0, node(1), node(2), node(3)), node(0, node(1, node(2)), node(3)), node(0, node(1), node(2, node(3))), node(0, node(1, node(2), node(3))), node(0, node(1, node(2, node(3))))} {
			checkCheck(t, "small tree", n, checkOf(n))
			n.Kids[0].Text = ""
			checkCheck(t, "small tree", n, checkOf(n))
		}
	}
}

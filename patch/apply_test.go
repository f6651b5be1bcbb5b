package patch

import (
	"math"
	"testing"

	"taffrail/api"
	"taffrail/tree"
)

func checkApply(t *testing.T, n api.Node, want api.Node, l ...api.Op) {
	t.Helper()
	got, err := Apply(n, l)
	if err != api.OK || !isSame(got, want) {
		t.Errorf("%d: %+v\n got %+v\nwant %+v", err, l, got, want)
	}
}

func checkRefused(t *testing.T, n api.Node, want api.Errno, l ...api.Op) {
	t.Helper()
	got, err := Apply(n, l)
	if err != want || !isSame(got, api.Node{}) {
		t.Errorf("%d, not %d: %+v\n%+v", err, want, l, got)
	}
}

func TestApplyOfTreesThatAreRefused(t *testing.T) {
	for _, x := range []struct {
		n    api.Node
		want api.Errno
	}{
		{doc(-1), api.ErrNode},
		{doc(0, el(1, "p"), text(1, "x")), api.ErrNode},
		{doc(0, el(1, "p", text(0, "x"))), api.ErrNode},
		{el(0, "p", text(-5, "x")), api.ErrNode},
		{el(0, "p"), api.ErrArg},
		{text(0, "x"), api.ErrArg},
		{doc(0, doc(1)), api.ErrArg},
		{doc(0, text(1, "")), api.ErrArg},
		{doc(0, api.Node{Id: 1, Kind: 5}), api.ErrArg},
		{doc(0, full(1, 2, b)), api.ErrNode},
		{doc(0, full(1, 3, el(2, "b"))), api.ErrArg},
		{doc(0, full(1, 4, el(2, "b"))), api.ErrArg},
	} {
		if err := tree.Check(x.n); err != x.want {
			t.Fatalf("%d: %+v", err, x.n)
		}
		checkRefused(t, x.n, x.want)
		checkRefused(t, x.n, x.want, setAttrs(1))
		checkRefused(t, x.n, x.want, remove(1))
		checkRefused(t, x.n, x.want, api.Op{Kind: 9})
		checkRefused(t, x.n, x.want, remove(77), api.Op{})
	}
}

func TestApplyOfNone(t *testing.T) {
	for _, n := range []api.Node{{}, doc(0), doc(math.MaxInt), sample(), full(3, 0, full(1, 1, full(4, 2), full(5, 3), full(6, 4)))} {
		checkApply(t, n, n)
		checkApply(t, n, n, []api.Op{}...)
	}
}

func TestInsertAtEachPlace(t *testing.T) {
	n := func() api.Node { return doc(0, el(1, "p", text(2, "x"), el(3, "i"), text(4, "y")), el(5, "q")) }
	for i, before := range []int{2, 3, 4, -1} {
		want := n()
		kids := want.Kids[0].Kids
		want.Kids[0].Kids = nil
		want.Kids[0].Kids = append(want.Kids[0].Kids, kids[:i]...)
		want.Kids[0].Kids = append(want.Kids[0].Kids, el(7, "b"))
		want.Kids[0].Kids = append(want.Kids[0].Kids, kids[i:]...)
		checkApply(t, n(), want, insert(7, 1, before, b))
	}
	checkApply(t, n(), doc(0, el(1, "p", text(2, "x"), el(3, "i", el(7, "b")), text(4, "y")), el(5, "q")), insert(7, 3, -1, b))
	checkApply(t, doc(0), doc(0, doctype(7, "html")), insert(7, 0, -1, doctype(0, "html")))
	checkApply(t, doc(9), doc(9, text(math.MaxInt, "x")), insert(math.MaxInt, 9, -1, text(0, "x")))
	// The same place, again and again: one ahead of the other, one behind the other.
	checkApply(t, doc(0, el(1, "p")), doc(0, el(2, "b"), el(3, "b"), el(4, "b"), el(1, "p")), insert(2, 0, 1, b), insert(3, 0, 1, b), insert(4, 0, 1, b))
	checkApply(t, doc(0, el(1, "p")), doc(0, el(4, "b"), el(3, "b"), el(2, "b"), el(1, "p")), insert(2, 0, 1, b), insert(3, 0, 2, b), insert(4, 0, 3, b))
	checkApply(t, doc(0, el(1, "p")), doc(0, el(1, "p"), el(2, "b"), el(3, "b"), el(4, "b")), insert(2, 0, -1, b), insert(3, 0, -1, b), insert(4, 0, -1, b))
}

// A node that is put in has its number, and all else of Node, whatever its kind has.
func TestInsertKeepsFields(t *testing.T) {
	for kind := api.NodeElement; kind <= api.NodeDoctype; kind++ {
		checkApply(t, doc(0), doc(0, full(7, kind)), insert(7, 0, -1, full(0, kind)))
		bare := api.Node{Kind: kind, Text: "x"}
		want := bare
		want.Id = 7
		checkApply(t, doc(0), doc(0, want), insert(7, 0, -1, bare))
	}
}

func TestRemoveAtEachPlace(t *testing.T) {
	n := func() api.Node {
		return doc(0, el(1, "p", text(2, "x"), el(3, "i", text(6, "z")), text(4, "y")), el(5, "q"))
	}
	p := n().Kids[0].Kids
	checkApply(t, n(), doc(0, el(1, "p", p[1], p[2]), el(5, "q")), remove(2))
	checkApply(t, n(), doc(0, el(1, "p", p[0], p[2]), el(5, "q")), remove(3))
	checkApply(t, n(), doc(0, el(1, "p", p[0], p[1]), el(5, "q")), remove(4))
	checkApply(t, n(), doc(0, el(5, "q")), remove(1))
	checkApply(t, n(), doc(0, n().Kids[0]), remove(5))
	checkApply(t, n(), doc(0), remove(5), remove(1))
	checkApply(t, n(), doc(0, el(1, "p"), el(5, "q")), remove(3), remove(2), remove(4))
	checkApply(t, n(), doc(0, el(1, "p"), el(5, "q")), remove(4), remove(2), remove(3))
	checkApply(t, n(), doc(0, el(1, "p", el(9, "b")), el(5, "q")), remove(4), remove(2), remove(3), insert(9, 1, -1, b))
	checkApply(t, n(), doc(0, el(1, "p", p[0], p[1], el(9, "b")), el(5, "q")), remove(4), insert(9, 1, -1, b))
	checkApply(t, n(), doc(0, el(1, "p", el(9, "b"), p[1], p[2]), el(5, "q")), remove(2), insert(9, 1, 3, b))
}

// What stood below one that is taken out is there no more, and its numbers may be given anew.
func TestRemoveTakesAllBelow(t *testing.T) {
	for _, id := range []int{2, 7, 11, 5, 9, 3} {
		checkRefused(t, sample(), api.ErrNode, remove(2), remove(id))
		checkRefused(t, sample(), api.ErrNode, remove(2), setText(id, "x"))
		checkRefused(t, sample(), api.ErrNode, remove(2), setAttrs(id))
		checkRefused(t, sample(), api.ErrNode, remove(2), insert(20, id, -1, b))
		checkRefused(t, sample(), api.ErrNode, remove(2), insert(20, 0, id, b))
		want := sample()
		want.Kids[1] = el(id, "b")
		checkApply(t, sample(), want, remove(2), insert(id, 0, 4, b))
	}
	for _, id := range []int{0, 8, 4, 6} {
		checkRefused(t, sample(), api.ErrArg, remove(2), insert(id, 0, -1, b))
	}
}

func TestSetters(t *testing.T) {
	n := func() api.Node { return doc(0, full(1, 1, full(2, 2)), full(3, 3), full(4, 4)) }
	for _, l := range [][]api.Attr{nil, {}, {{Name: "x", Value: "y"}}, {{Name: "b"}, {Name: "a"}, {Name: "b"}, {}}} {
		want := n()
		want.Kids[0].Attrs = l
		checkApply(t, n(), want, setAttrs(1, l...))
		checkApply(t, n(), want, setAttrs(1, api.Attr{Name: "z"}), setAttrs(1, l...))
	}
	for _, s := range []string{"x", "\xff\x00", "\n"} {
		want := n()
		want.Kids[0].Kids[0].Text = s
		checkApply(t, n(), want, setText(2, s))
		checkApply(t, n(), want, setText(2, "z"), setText(2, s))
		want = n()
		want.Kids[1].Text = s
		checkApply(t, n(), want, setText(3, s))
	}
	want := n()
	want.Kids[1].Text = ""
	checkApply(t, n(), want, setText(3, ""))
}

func TestOneLeansOnAnother(t *testing.T) {
	n := doc(0, el(1, "p", text(2, "x")))
	checkApply(t, n, n, insert(3, 1, 2, b), insert(4, 3, -1, text(0, "y")), setText(4, "z"), setAttrs(3, api.Attr{Name: "a"}), insert(5, 3, 4, comment(0, "")), remove(3))
	checkApply(t, n, n, insert(3, 1, 2, b), insert(4, 3, -1, text(0, "y")), remove(4), remove(3))
	checkApply(t, n, doc(0, el(1, "p", text(2, "x")), el(3, "i")), insert(3, 1, 2, b), remove(3), insert(3, 0, -1, el(0, "i")))
	filled := el(3, "b", comment(5, "c"), text(4, "z"))
	filled.Attrs = []api.Attr{{Name: "a"}}
	checkApply(t, n, doc(0, el(1, "p", filled, text(2, "x"))), insert(3, 1, 2, b), insert(4, 3, -1, text(0, "y")), setText(4, "z"), setAttrs(3, api.Attr{Name: "a"}), insert(5, 3, 4, comment(0, "")), setText(5, "c"))
	checkRefused(t, n, api.ErrArg, insert(3, 1, 2, b), insert(3, 1, 2, b))
	checkRefused(t, n, api.ErrNode, remove(2), insert(3, 1, 2, b))
	checkRefused(t, n, api.ErrNode, insert(4, 3, -1, b), insert(3, 1, -1, b))
	checkRefused(t, n, api.ErrArg, insert(3, 1, 2, text(0, "y")), insert(4, 3, -1, b))
	checkRefused(t, n, api.ErrArg, insert(3, 0, 1, b), insert(4, 1, 3, b))
}

func TestFirstErrorCounts(t *testing.T) {
	fine := []api.Op{insert(20, 2, -1, b), setText(7, "q"), remove(4), setAttrs(20, api.Attr{Name: "k"})}
	bad := map[api.Errno]api.Op{api.ErrOp: {Kind: 7}, api.ErrNode: remove(99), api.ErrArg: remove(0)}
	for want, o := range bad {
		for at := range len(fine) + 1 {
			for _, other := range bad {
				var l []api.Op
				l = append(l, fine[:at]...)
				l = append(l, o)
				l = append(l, fine[at:]...)
				checkRefused(t, sample(), want, l...)
				checkRefused(t, sample(), want, append(l, other)...)
			}
		}
	}
	if _, err := Apply(sample(), fine); err != api.OK {
		t.Errorf("%d", err)
	}
}

// chain is a document and below it elements, one below the other, and a text: so many levels, and the numbers 0 and up.
func chain(levels int) api.Node {
	n := text(levels-1, "x")
	for id := levels - 2; id > 0; id-- {
		n = el(id, "e", n)
	}
	return doc(0, n)
}

// row is a document with texts, so many nodes in all, and the numbers 0 and up.
func row(count int) api.Node {
	n := doc(0)
	for id := 1; id < count; id++ {
		n.Kids = append(n.Kids, text(id, "x"))
	}
	return n
}

// comb is a document below which each element has two kids, a text and the next element: the numbers 0 and up, and levels + levels - 2 nodes.
func comb(levels int) api.Node {
	last := 2*levels - 3
	n := text(last, "x")
	for id := last - 2; id > 0; id -= 2 {
		n = el(id, "e", text(id+1, "x"), n)
	}
	return doc(0, n)
}

// Trees may be far deeper, and wider, than calls should nest, and have many operations.
func TestDeepAndWide(t *testing.T) {
	const many = 1 << 17
	for name, n := range map[string]api.Node{"chain": chain(many), "row": row(many), "comb": comb(many/2 + 1)} {
		got, err := Apply(n, nil)
		if err != api.OK || !tree.Equal(got, n) {
			t.Errorf("%s: without operations: %d", name, err)
		}
		if err := Check(n, setText(many-1, "y")); err != api.OK {
			t.Errorf("%s: Check: %d", name, err)
		}
		if err := Check(n, setText(many, "y")); err != api.ErrNode {
			t.Errorf("%s: Check: %d", name, err)
		}
		var l []api.Op
		for _, o := range Build(n.Kids[0], 0, -1) {
			l = append(l, o)
		}
		for _, kid := range n.Kids[1:] {
			l = append(l, Build(kid, 0, -1)...)
		}
		if len(l) != many-1 || len(Touched(l)) != many {
			t.Errorf("%s: %d operations, %d numbers", name, len(l), len(Touched(l)))
		}
		built, err := Apply(doc(0), l)
		if err != api.OK || !tree.Equal(built, n) {
			t.Errorf("%s: built: %d", name, err)
		}
		for _, kid := range n.Kids {
			l = append(l, remove(kid.Id))
		}
		if gone, err := Apply(doc(0), append(l, remove(many-1))); err != api.ErrNode || len(gone.Kids) > 0 {
			t.Errorf("%s: taken out again, and once more: %d", name, err)
		}
		if gone, err := Apply(doc(0), l); err != api.OK || !isSame(gone, doc(0)) {
			t.Errorf("%s: taken out again: %d", name, err)
		}
	}
}

// One ahead of the other, at the beginning of a great row, in its middle, and at its end.
func TestManyAtOnePlace(t *testing.T) {
	const many = 1 << 16
	for _, before := range []int{1, many / 2, -1} {
		var l []api.Op
		for id := many; id < 2*many; id++ {
			l = append(l, insert(id, 0, before, b))
		}
		got, err := Apply(row(many), l)
		if err != api.OK || len(got.Kids) != 2*many-1 {
			t.Fatalf("%d: %d kids", err, len(got.Kids))
		}
		at := map[int]int{1: 0, many / 2: many/2 - 1, -1: many - 1}[before]
		for i := range many {
			if got.Kids[at+i].Id != many+i {
				t.Fatalf("before %d: number %d at %d", before, got.Kids[at+i].Id, at+i)
			}
		}
		for id := many; id < 2*many; id++ {
			l = append(l, remove(id))
		}
		if got, err := Apply(row(many), l); err != api.OK || !tree.Equal(got, row(many)) {
			t.Fatalf("taken out again: %d", err)
		}
	}
}

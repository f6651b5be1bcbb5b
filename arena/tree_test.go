package arena

import (
	"math"
	"reflect"
	"slices"
	"testing"

	"taffrail/api"
)

// forest gives an arena with the document and all kinds: 1 (3, 4 (5)), 2 within the document; 6 (7) and 8 stand nowhere.
func forest(t *testing.T) *Arena {
	t.Helper()
	a := New()
	for _, kind := range []int{api.NodeElement, api.NodeDoctype, api.NodeText, api.NodeElement, api.NodeComment, api.NodeElement, api.NodeElement, api.NodeText} {
		a.Make(full(kind))
	}
	put(t, a, 0, 1, -1)
	put(t, a, 0, 2, 1)
	put(t, a, 1, 3, -1)
	put(t, a, 1, 4, -1)
	put(t, a, 4, 5, -1)
	put(t, a, 6, 7, -1)
	return a
}

// node is what full gives, as one of an arena, with those kids.
func node(id, kind int, kids ...api.Node) api.Node {
	n := full(kind)
	n.Id, n.Kids = id, kids
	return n
}

func TestParentAndKids(t *testing.T) {
	a := forest(t)
	for id, want := range []int{-1, 0, 0, 1, 1, 4, -1, 6, -1} {
		if got := a.Parent(id); got != want {
			t.Errorf("Parent(%d): %d, not %d", id, got, want)
		}
	}
	for id, want := range [][]int{{2, 1}, {3, 4}, {}, {}, {5}, {}, {7}, {}, {}} {
		checkKids(t, a, id, want...)
	}
	for _, x := range missing(9) {
		if got := a.Parent(x); got != -1 {
			t.Errorf("Parent(%d): %d", x, got)
		}
		if got := a.Kids(x); len(got) != 0 {
			t.Errorf("Kids(%d): %v", x, got)
		}
	}
}

func TestGet(t *testing.T) {
	a := forest(t)
	checkNode(t, a, 0, document())
	for id, kind := range []int{0, api.NodeElement, api.NodeDoctype, api.NodeText, api.NodeElement, api.NodeComment, api.NodeElement, api.NodeElement, api.NodeText} {
		if id > 0 {
			checkNode(t, a, id, node(id, kind))
		}
	}
	for _, x := range missing(9) {
		if n, err := a.Get(x); err != api.ErrNode || !reflect.DeepEqual(plain(n), api.Node{}) {
			t.Errorf("Get(%d): %+v, %d", x, n, err)
		}
	}
}

func TestTree(t *testing.T) {
	a := forest(t)
	five := node(5, api.NodeComment)
	four := node(4, api.NodeElement, five)
	one := node(1, api.NodeElement, node(3, api.NodeText), four)
	checkTree(t, a, 0, document(node(2, api.NodeDoctype), one))
	checkTree(t, a, 1, one)
	checkTree(t, a, 2, node(2, api.NodeDoctype))
	checkTree(t, a, 3, node(3, api.NodeText))
	checkTree(t, a, 4, four)
	checkTree(t, a, 5, five)
	checkTree(t, a, 6, node(6, api.NodeElement, node(7, api.NodeElement)))
	checkTree(t, a, 8, node(8, api.NodeText))
	for _, x := range missing(9) {
		checkTree(t, a, x, api.Node{Id: -1})
	}
	take(t, a, 4)
	checkTree(t, a, 1, node(1, api.NodeElement, node(3, api.NodeText)))
	checkTree(t, a, 4, four)
}

func TestTreeOfManyLevels(t *testing.T) {
	const deep = 1 << 17
	a := New()
	for id := 1; id <= deep; id++ {
		a.Make(element("e"))
		put(t, a, id-1, id, -1)
	}
	n := a.Tree(0)
	for id := 0; ; id++ {
		if n.Id != id {
			t.Fatalf("level %d: number %d", id, n.Id)
		}
		if len(n.Kids) == 0 {
			if id != deep {
				t.Errorf("%d levels", id)
			}
			break
		}
		n = n.Kids[0]
	}
	take(t, a, 1)
	refuseQuietly(t, a, deep, 1)
	if c := a.Copy(); c.Len() != deep+1 || c.Parent(deep) != deep-1 {
		t.Error("Copy of many levels")
	}
}

// refuseQuietly asks for an Insert below the node itself, without telling all ahead and behind.
func refuseQuietly(t *testing.T, a *Arena, parent, id int) {
	t.Helper()
	if err := a.Insert(parent, id, -1); err != api.ErrArg || a.Parent(id) != -1 {
		t.Errorf("Insert(%d, %d, -1): %d, parent %d", parent, id, err, a.Parent(id))
	}
}

func TestTreeOfManyKids(t *testing.T) {
	const many = 1 << 17
	a := New()
	before := -1
	for id := 1; id <= many; id++ {
		a.Make(api.Node{Kind: api.NodeText, Text: "x"})
		put(t, a, 0, id, before)
		before = id
	}
	n, kids := a.Tree(0), a.Kids(0)
	if len(n.Kids) != many || len(kids) != many {
		t.Fatalf("%d and %d kids", len(n.Kids), len(kids))
	}
	for i := range kids {
		if kids[i] != many-i || n.Kids[i].Id != many-i {
			t.Fatalf("kid %d: %d, %d", i, kids[i], n.Kids[i].Id)
		}
	}
	for id := 1; id <= many; id += 2 {
		take(t, a, id)
	}
	if kids = a.Kids(0); len(kids) != many/2 || kids[0] != many || kids[many/2-1] != 2 {
		t.Errorf("%d kids are left", len(kids))
	}
}

// The numbers of a tree are all there, once each, whatever its form.
func TestTreeNumbers(t *testing.T) {
	a := made(t, 300)
	for id := 1; id <= 300; id++ {
		put(t, a, (id-1)/2, id, -1)
		put(t, a, (id-1)/3, a.Make(full(api.NodeText)), -1)
	}
	var ids []int
	for left := []api.Node{a.Tree(0)}; len(left) > 0; left = left[1:] {
		ids = append(ids, left[0].Id)
		left = append(left, left[0].Kids...)
	}
	slices.Sort(ids)
	for i, id := range ids {
		if i != id {
			t.Fatalf("place %d: %d", i, id)
		}
	}
	if len(ids) != a.Len() {
		t.Errorf("%d of %d", len(ids), a.Len())
	}
}

func TestSetAttrs(t *testing.T) {
	a := forest(t)
	list := []api.Attr{{Name: "z", Value: "9"}, {Name: "z", Value: "8"}, {}}
	for _, id := range []int{1, 4, 6} {
		want := node(id, api.NodeElement)
		for _, l := range [][]api.Attr{list, list[:1], nil, list, {}} {
			if err := a.SetAttrs(id, l); err != api.OK {
				t.Errorf("SetAttrs(%d): %d", id, err)
			}
			want.Attrs = l
			checkNode(t, a, id, want)
		}
	}
	checkUnchanged(t, a, "SetAttrs", func() {
		for _, id := range []int{0, 2, 3, 5, 8} {
			if err := a.SetAttrs(id, list); err != api.ErrArg {
				t.Errorf("SetAttrs(%d): %d", id, err)
			}
			if err := a.SetAttrs(id, nil); err != api.ErrArg {
				t.Errorf("SetAttrs(%d) of none: %d", id, err)
			}
		}
		for _, x := range missing(9) {
			if err := a.SetAttrs(x, list); err != api.ErrNode {
				t.Errorf("SetAttrs(%d): %d", x, err)
			}
		}
	})
}

func TestSetText(t *testing.T) {
	a := forest(t)
	for id, kind := range map[int]int{3: api.NodeText, 5: api.NodeComment, 8: api.NodeText} {
		want := node(id, kind)
		for _, s := range []string{"x", "", "\x00\xFFé", "longer than it was"} {
			if err := a.SetText(id, s); err != api.OK {
				t.Errorf("SetText(%d): %d", id, err)
			}
			want.Text = s
			checkNode(t, a, id, want)
		}
	}
	checkUnchanged(t, a, "SetText", func() {
		for _, id := range []int{0, 1, 2, 4, 6, 7} {
			if err := a.SetText(id, "x"); err != api.ErrArg {
				t.Errorf("SetText(%d): %d", id, err)
			}
		}
		for _, x := range missing(9) {
			if err := a.SetText(x, "x"); err != api.ErrNode {
				t.Errorf("SetText(%d): %d", x, err)
			}
		}
	})
}

func TestSetEnd(t *testing.T) {
	a := forest(t)
	for _, id := range []int{1, 4, 6} {
		want := node(id, api.NodeElement)
		for _, s := range []api.Span{{From: 1, To: 2}, api.None(), {}, {From: 9, To: 3}, {From: math.MinInt, To: math.MaxInt}} {
			if err := a.SetEnd(id, s); err != api.OK {
				t.Errorf("SetEnd(%d): %d", id, err)
			}
			want.End = s
			checkNode(t, a, id, want)
		}
	}
	checkUnchanged(t, a, "SetEnd", func() {
		for _, id := range []int{0, 2, 3, 5, 8} {
			if err := a.SetEnd(id, api.Span{From: 1, To: 2}); err != api.ErrArg {
				t.Errorf("SetEnd(%d): %d", id, err)
			}
		}
		for _, x := range missing(9) {
			if err := a.SetEnd(x, api.Span{From: 1, To: 2}); err != api.ErrNode {
				t.Errorf("SetEnd(%d): %d", x, err)
			}
		}
	})
}

// What is set is told in trees, too.
func TestSetInTrees(t *testing.T) {
	a := forest(t)
	a.SetAttrs(4, []api.Attr{{Name: "q"}})
	a.SetEnd(4, api.Span{From: 40, To: 44})
	a.SetText(5, "new")
	n := a.Tree(0).Kids[1].Kids[1]
	if n.Id != 4 || len(n.Attrs) != 1 || n.Attrs[0].Name != "q" || n.End.From != 40 || n.Kids[0].Text != "new" {
		t.Errorf("%+v", n)
	}
}

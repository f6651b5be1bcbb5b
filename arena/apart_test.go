package arena

import (
	"math"
	"reflect"
	"testing"

	"taffrail/api"
)

// changes are all calls that change something of a forest.
func changes() map[string]func(a *Arena) {
	return map[string]func(a *Arena){
		"Make": func(a *Arena) { a.Make(element("new")) },
		"Make and Insert": func(a *Arena) {
			a.Insert(0, a.Make(element("new")), 1)
			a.Insert(4, a.Make(full(api.NodeText)), 5)
		},
		"Insert":          func(a *Arena) { a.Insert(1, 6, 4) },
		"Insert at last":  func(a *Arena) { a.Insert(0, 8, -1) },
		"Insert at first": func(a *Arena) { a.Insert(0, 8, 2) },
		"Detach":          func(a *Arena) { a.Detach(1) },
		"Detach a leaf":   func(a *Arena) { a.Detach(5) },
		"move":            func(a *Arena) { a.Detach(3); a.Insert(4, 3, 5) },
		"SetAttrs":        func(a *Arena) { a.SetAttrs(1, []api.Attr{{Name: "other"}}) },
		"SetAttrs longer": func(a *Arena) { a.SetAttrs(4, make([]api.Attr, 9)) },
		"SetAttrs none":   func(a *Arena) { a.SetAttrs(4, nil) },
		"SetText":         func(a *Arena) { a.SetText(3, "other"); a.SetText(5, "") },
		"SetEnd":          func(a *Arena) { a.SetEnd(1, api.Span{From: 5, To: 6}) },
	}
}

func TestCopyGoesOnApart(t *testing.T) {
	for name, change := range changes() {
		a := forest(t)
		was := tell(a)
		c := a.Copy()
		if c == a || !reflect.DeepEqual(tell(c), was) {
			t.Fatalf("%s: the copy is another: %+v", name, tell(c))
		}
		change(c)
		if !reflect.DeepEqual(tell(a), was) {
			t.Errorf("%s of the copy changed what it was copied of", name)
		}
		if reflect.DeepEqual(tell(c), was) {
			t.Errorf("%s did nothing", name)
		}
		d := a.Copy()
		change(a)
		if !reflect.DeepEqual(tell(d), was) {
			t.Errorf("%s changed the copy", name)
		}
		if !reflect.DeepEqual(tell(a), tell(c)) {
			t.Errorf("%s: the two went on differently", name)
		}
	}
}

// T7: whatever was done ahead, the copy goes on as the arena it was copied of.
func TestCopyGoesOnAlike(t *testing.T) {
	for first, a1 := range changes() {
		for second, a2 := range changes() {
			a := forest(t)
			a1(a)
			c := a.Copy()
			a2(a)
			a2(c)
			if !reflect.DeepEqual(tell(a), tell(c)) {
				t.Errorf("%s, then %s: they differ", first, second)
			}
		}
	}
}

// Nodes that both make behind the copying have the same numbers, and are two.
func TestCopyMakesItsOwnNodes(t *testing.T) {
	a := made(t, 3)
	c := a.Copy()
	for i := 4; i < 40; i++ {
		if x, y := a.Make(element("a")), c.Make(element("c")); x != i || y != i {
			t.Fatalf("%d and %d", x, y)
		}
		put(t, a, 0, i, -1)
	}
	checkKids(t, c, 0)
	x, _ := a.Get(20)
	y, _ := c.Get(20)
	if x.Name != "a" || y.Name != "c" {
		t.Errorf("%q and %q", x.Name, y.Name)
	}
	d := c.Copy().Copy()
	put(t, d, 0, 1, -1)
	checkKids(t, c, 0)
	checkKids(t, d, 0, 1)
	checkKids(t, New().Copy(), 0)
}

func spoil(l []api.Attr) {
	l = l[:cap(l)]
	for i := range l {
		l[i] = api.Attr{Name: "spoilt", Value: "spoilt"}
	}
}

func spoilTree(n api.Node) {
	spoil(n.Attrs)
	for i, kid := range n.Kids {
		spoilTree(kid)
		n.Kids[i] = api.Node{Id: -9}
	}
	for i := range n.Kids[:cap(n.Kids)] {
		n.Kids[:cap(n.Kids)][i] = api.Node{Id: -9}
	}
}

func TestListsHandedOut(t *testing.T) {
	a := forest(t)
	c := a.Copy()
	for id := range a.Len() {
		checkUnchanged(t, a, "what was handed out", func() {
			kids := a.Kids(id)
			kids = kids[:cap(kids)]
			for i := range kids {
				kids[i] = 8
			}
			n, _ := a.Get(id)
			spoil(n.Attrs)
			spoilTree(a.Tree(id))
			m, _ := c.Get(id)
			spoil(m.Attrs)
			spoilTree(c.Tree(id))
		})
	}
	if !reflect.DeepEqual(tell(a), tell(c)) {
		t.Error("the copy was changed")
	}
}

// Two answers, and two lists of one answer, share nothing.
func TestAnswersShareNothing(t *testing.T) {
	a := forest(t)
	k1, k2 := a.Kids(0), a.Kids(0)
	k1[0], k1[1] = 9, 9
	if k2[0] != 2 || k2[1] != 1 {
		t.Errorf("Kids: %v", k2)
	}
	g1, _ := a.Get(1)
	g2, _ := a.Get(1)
	spoil(g1.Attrs)
	if g2.Attrs[0].Name != "a" {
		t.Errorf("Get: %+v", g2)
	}
	want := plain(a.Tree(0))
	t1, t2 := a.Tree(0), a.Tree(0)
	spoilTree(t1)
	if !reflect.DeepEqual(plain(t2), want) {
		t.Errorf("Tree: %+v", t2)
	}
	one := &t2.Kids[1]
	below := plain(one.Kids[1])
	_ = append(one.Kids[:1:1], api.Node{Id: -9})
	_ = append(one.Kids, api.Node{Id: -9})
	_ = append(t2.Kids, api.Node{Id: -9})
	spoil(one.Attrs)
	spoil(one.Kids[0].Attrs)
	if !reflect.DeepEqual(plain(one.Kids[1]), below) {
		t.Errorf("lists of one tree share memory: %+v", one.Kids[1])
	}
}

func TestListsHandedIn(t *testing.T) {
	row := []api.Attr{{Name: "a", Value: "1"}, {Name: "b", Value: "2"}, {Name: "behind", Value: "3"}}
	was := append([]api.Attr(nil), row...)
	kids := []api.Node{{Id: 3, Kind: api.NodeText, Text: "x"}, {Id: 4}}
	a := New()
	id := a.Make(api.Node{Kind: api.NodeElement, Attrs: row[:2], Kids: kids[:1]})
	put(t, a, 0, id, -1)
	other := a.Make(element("p"))
	a.SetAttrs(other, row[:2])
	if !reflect.DeepEqual(row, was) || kids[0].Text != "x" || kids[1].Id != 4 {
		t.Errorf("what was handed in is changed: %v, %v", row, kids)
	}
	checkUnchanged(t, a, "what was handed in", func() {
		spoil(row)
		spoilTree(api.Node{Kids: kids})
	})
	a.SetAttrs(id, was[:1])
	a.SetAttrs(other, was[:1])
	a.SetAttrs(other, nil)
	if was[0].Name != "a" || was[1].Name != "b" || row[0].Name != "spoilt" {
		t.Errorf("SetAttrs wrote to a list: %v, %v", was, row)
	}
}

// What Get told goes in by SetAttrs and Make again, and stays apart.
func TestListsGoRound(t *testing.T) {
	a := forest(t)
	n, _ := a.Get(1)
	a.SetAttrs(4, n.Attrs)
	id := a.Make(n)
	spoil(n.Attrs)
	for _, x := range []int{1, 4, id} {
		if m, _ := a.Get(x); m.Attrs[0].Name != "a" || m.Attrs[1].Name != "b" {
			t.Errorf("node %d: %+v", x, m)
		}
	}
	a.SetAttrs(1, []api.Attr{{Name: "q"}})
	if m, _ := a.Get(4); m.Attrs[0].Name != "a" {
		t.Errorf("node 4 has what node 1 was given: %+v", m)
	}
}

func TestNil(t *testing.T) {
	var a *Arena
	for _, id := range []int{0, 1, -1, math.MinInt, math.MaxInt} {
		for _, other := range []int{0, 1, -1, math.MinInt, math.MaxInt} {
			if err := a.Insert(id, other, -1); err != api.ErrArg {
				t.Errorf("Insert: %d", err)
			}
			if err := a.Insert(0, id, other); err != api.ErrArg {
				t.Errorf("Insert: %d", err)
			}
		}
		if err := a.Detach(id); err != api.ErrArg {
			t.Errorf("Detach: %d", err)
		}
		if p := a.Parent(id); p != -1 {
			t.Errorf("Parent: %d", p)
		}
		if k := a.Kids(id); len(k) != 0 {
			t.Errorf("Kids: %v", k)
		}
		if n, err := a.Get(id); err != api.ErrArg || !reflect.DeepEqual(plain(n), api.Node{}) {
			t.Errorf("Get: %+v, %d", n, err)
		}
		if e1, e2, e3 := a.SetAttrs(id, []api.Attr{{}}), a.SetText(id, "x"), a.SetEnd(id, api.Span{}); e1 != api.ErrArg || e2 != api.ErrArg || e3 != api.ErrArg {
			t.Errorf("SetAttrs, SetText, SetEnd: %d %d %d", e1, e2, e3)
		}
		if n := a.Tree(id); !reflect.DeepEqual(plain(n), api.Node{Id: -1}) {
			t.Errorf("Tree: %+v", n)
		}
	}
	for kind := -1; kind <= 5; kind++ {
		if id := a.Make(full(kind)); id != -1 {
			t.Errorf("Make: %d", id)
		}
	}
	if a.Copy() != nil || a.Len() != 0 {
		t.Errorf("Copy: %v, Len: %d", a.Copy(), a.Len())
	}
}

// An arena that no call gave has no nodes; none of its calls panics.
func TestZeroArena(t *testing.T) {
	var a Arena
	if a.Len() != 0 || a.Parent(0) != -1 || len(a.Kids(0)) != 0 || a.Tree(0).Id != -1 || a.Copy().Len() != 0 {
		t.Error("a zero arena has nodes")
	}
	if e1, e2 := a.Insert(0, 1, -1), a.Detach(1); e1 != api.ErrNode || e2 != api.ErrNode {
		t.Errorf("Insert, Detach: %d %d", e1, e2)
	}
}

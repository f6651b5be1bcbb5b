package arena

import (
	"reflect"
	"slices"
	"testing"

	"taffrail/api"
)

// model is an arena as the chapter's words say it, by lists that are searched.
type model struct {
	nodes   []api.Node
	parents []int
	kids    [][]int
}

func newModel() *model {
	return &model{nodes: []api.Node{document()}, parents: []int{-1}, kids: make([][]int, 1)}
}

func (m *model) Make(n api.Node) int {
	if n.Kind < 1 || n.Kind > 4 {
		return -1
	}
	n.Id, n.Kids = len(m.nodes), nil
	m.nodes, m.parents, m.kids = append(m.nodes, n), append(m.parents, -1), append(m.kids, nil)
	return n.Id
}

func (m *model) there(id int) bool { return 0 <= id && id < len(m.nodes) }

func (m *model) below(id, top int) bool {
	return id == top || slices.ContainsFunc(m.kids[top], func(kid int) bool { return m.below(id, kid) })
}

func (m *model) Insert(parent, id, before int) api.Errno {
	if !m.there(parent) || !m.there(id) || id == 0 || before != -1 && !m.there(before) {
		return api.ErrNode
	}
	at := slices.Index(m.kids[parent], before)
	if m.parents[id] != -1 || m.nodes[parent].Kind > 1 || before != -1 && at < 0 || m.below(parent, id) {
		return api.ErrArg
	}
	if before == -1 {
		at = len(m.kids[parent])
	}
	m.parents[id] = parent
	m.kids[parent] = slices.Insert(m.kids[parent], at, id)
	return api.OK
}

func (m *model) Detach(id int) api.Errno {
	if !m.there(id) || id == 0 {
		return api.ErrNode
	}
	p := m.parents[id]
	if p == -1 {
		return api.ErrArg
	}
	m.parents[id] = -1
	m.kids[p] = slices.DeleteFunc(m.kids[p], func(kid int) bool { return kid == id })
	return api.OK
}

func (m *model) tree(id int) api.Node {
	n := m.nodes[id]
	for _, kid := range m.kids[id] {
		n.Kids = append(n.Kids, m.tree(kid))
	}
	return n
}

func (m *model) copied() *model {
	c := &model{nodes: slices.Clone(m.nodes), parents: slices.Clone(m.parents)}
	for _, l := range m.kids {
		c.kids = append(c.kids, slices.Clone(l))
	}
	return c
}

func checkModel(t *testing.T, a *Arena, m *model) {
	t.Helper()
	if a.Len() != len(m.nodes) {
		t.Fatalf("Len %d, not %d", a.Len(), len(m.nodes))
	}
	for id := range m.nodes {
		if a.Parent(id) != m.parents[id] || !slices.Equal(a.Kids(id), m.kids[id]) {
			t.Fatalf("node %d: parent %d, not %d; kids %v, not %v", id, a.Parent(id), m.parents[id], a.Kids(id), m.kids[id])
		}
		n, err := a.Get(id)
		if err != api.OK || !reflect.DeepEqual(plain(n), plain(m.nodes[id])) || !reflect.DeepEqual(plain(a.Tree(id)), plain(m.tree(id))) {
			t.Fatalf("node %d: %+v, not %+v", id, a.Tree(id), m.tree(id))
		}
	}
}

// step does one call, chosen by next, to both.
func step(t *testing.T, a *Arena, m *model, next func(int) int) {
	t.Helper()
	id := next(len(m.nodes)+2) - 1
	switch next(9) {
	case 0:
		n := full(next(6))
		n.Kind = max(n.Kind-next(2), 0)
		if x, y := a.Make(n), m.Make(n); x != y {
			t.Fatalf("Make of kind %d: %d, not %d", n.Kind, x, y)
		}
	case 1:
		if x, y := a.Detach(id), m.Detach(id); x != y {
			t.Fatalf("Detach(%d): %d, not %d", id, x, y)
		}
	case 2:
		s := api.Span{From: next(9), To: next(9)}
		if m.there(id) && m.nodes[id].Kind == api.NodeElement {
			m.nodes[id].End = s
		}
		a.SetEnd(id, s)
	case 3:
		if m.there(id) && (m.nodes[id].Kind == api.NodeText || m.nodes[id].Kind == api.NodeComment) {
			m.nodes[id].Text = "set"
		}
		a.SetText(id, "set")
	case 4:
		l := make([]api.Attr, next(3))
		if m.there(id) && m.nodes[id].Kind == api.NodeElement {
			m.nodes[id].Attrs = l
		}
		a.SetAttrs(id, l)
	default:
		parent, before := next(len(m.nodes)+1), next(len(m.nodes)+3)-2
		if m.there(parent) && len(m.kids[parent]) > 0 && next(2) == 0 {
			before = m.kids[parent][next(len(m.kids[parent]))]
		}
		if x, y := a.Insert(parent, id, before), m.Insert(parent, id, before); x != y {
			t.Fatalf("Insert(%d, %d, %d): %d, not %d", parent, id, before, x, y)
		}
	}
}

// Long rows of calls by a rule that jumps about; now and then a copy goes on instead.
func TestAgainstModel(t *testing.T) {
	x := uint32(7)
	next := func(most int) int {
		x = x*1664525 + 1013904223
		return int(x>>8) % most
	}
	for range 60 {
		a, m := New(), newModel()
		for range next(12) {
			n := full(1 + next(2)*next(4))
			a.Make(n)
			m.Make(n)
		}
		for range 300 {
			step(t, a, m, next)
			if next(20) == 0 {
				old, was := a, m.copied()
				a = a.Copy()
				step(t, a, m, next)
				checkModel(t, old, was)
			}
			if next(4) == 0 {
				checkModel(t, a, m)
			}
		}
		checkModel(t, a, m)
	}
}

// All arguments of Insert and Detach on all small forests that rows of Insert can make.
func TestAllSmallForests(t *testing.T) {
	base := New()
	bm := newModel()
	for _, kind := range []int{api.NodeElement, api.NodeElement, api.NodeText} {
		base.Make(full(kind))
		bm.Make(full(kind))
	}
	var grow func(a *Arena, m *model, depth int)
	grow = func(a *Arena, m *model, depth int) {
		checkModel(t, a, m)
		if depth == 0 {
			return
		}
		for id := -1; id <= 4; id++ {
			c, cm := a.Copy(), m.copied()
			x, y := c.Detach(id), cm.Detach(id)
			if x != y {
				t.Fatalf("Detach(%d): %d, not %d", id, x, y)
			}
			if x == api.OK {
				grow(c, cm, depth-1)
			}
			for parent := -1; parent <= 4; parent++ {
				for before := -2; before <= 4; before++ {
					c, cm := a.Copy(), m.copied()
					x, y := c.Insert(parent, id, before), cm.Insert(parent, id, before)
					if x != y {
						t.Fatalf("Insert(%d, %d, %d): %d, not %d", parent, id, before, x, y)
					}
					if x == api.OK {
						grow(c, cm, depth-1)
					} else {
						checkModel(t, c, cm)
					}
				}
			}
		}
	}
	grow(base, bm, 4)
}

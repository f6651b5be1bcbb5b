package patch

import (
	"slices"

	"taffrail/api"
)

// work is a copy of a tree that is worked on. Its nodes are linked and found by their numbers, so that an operation takes no longer in a great tree than in a small one.
type work struct {
	top     item // holds the root alone, so that each node stands in another
	numbers map[int]*item
}

// load makes a copy of n to work on. Of nodes of one number the first one has it, as in chapter 14.
func load(n api.Node) *work {
	w := &work{numbers: map[int]*item{}}
	within := []*item{&w.top} // by level, what the next node stands in
	for x, level := range nodes(n) {
		i := &item{node: alone(*x, x.Id)}
		i.hang(within[level-1], nil)
		within = append(within[:level], i)
		if w.numbers[x.Id] == nil {
			w.numbers[x.Id] = i
		}
	}
	return w
}

// do does an operation, or gives up.
func (w *work) do(o api.Op) {
	switch o.Kind {
	case api.OpInsert:
		w.insert(o)
	case api.OpRemove:
		w.remove(o.Id)
	case api.OpAttrs:
		w.setAttrs(o.Id, o.Attrs)
	case api.OpText:
		w.setText(o.Id, o.Text)
	default:
		panic(api.ErrOp)
	}
}

// find is the node of that number.
func (w *work) find(id int) *item {
	x := w.numbers[id]
	need(x != nil, api.ErrNode)
	return x
}

// insert asks for both nodes that stand already ahead of all else: that they are there comes first.
func (w *work) insert(o api.Op) {
	parent := w.find(o.Parent)
	var before *item
	if o.Before != -1 {
		before = parent.kid(w.find(o.Before))
	}
	need(o.Id >= 1 && w.numbers[o.Id] == nil, api.ErrArg)
	need(fresh(o.Node), api.ErrArg)
	need(parent.node.Kind == api.NodeDocument || parent.node.Kind == api.NodeElement, api.ErrArg)
	x := &item{node: alone(o.Node, o.Id)}
	x.hang(parent, before)
	w.numbers[o.Id] = x
}

// fresh tells whether a node may be put in.
func fresh(n api.Node) bool {
	if n.Id != 0 || len(n.Kids) > 0 {
		return false
	}
	switch n.Kind {
	case api.NodeElement, api.NodeComment, api.NodeDoctype:
		return true
	}
	return n.Kind == api.NodeText && n.Text != ""
}

func (w *work) remove(id int) {
	x := w.find(id)
	need(x.up != &w.top, api.ErrArg)
	x.cut()
	left := []*item{x}
	for len(left) > 0 {
		x := left[len(left)-1]
		left = left[:len(left)-1]
		delete(w.numbers, x.node.Id) // it may be given anew
		for kid := range x.kids() {
			left = append(left, kid)
		}
	}
}

func (w *work) setAttrs(id int, l []api.Attr) {
	x := w.find(id)
	need(x.node.Kind == api.NodeElement, api.ErrArg)
	x.node.Attrs = slices.Concat(l)
}

func (w *work) setText(id int, s string) {
	x := w.find(id)
	need(x.node.Kind == api.NodeComment || x.node.Kind == api.NodeText && s != "", api.ErrArg)
	x.node.Text = s
}

// tree is what was worked on, as a value. It takes the attributes along: nothing is to be done with the work any more.
func (w *work) tree() api.Node {
	type part struct {
		from *item
		to   *api.Node
	}
	root := w.top.first
	out := root.node
	left := []part{{root, &out}}
	for len(left) > 0 {
		p := left[len(left)-1]
		left = left[:len(left)-1]
		for kid := range p.from.kids() {
			p.to.Kids = append(p.to.Kids, kid.node)
		}
		i := 0 // only now: the list moves while it grows
		for kid := range p.from.kids() {
			left = append(left, part{kid, &p.to.Kids[i]})
			i++
		}
	}
	return out
}

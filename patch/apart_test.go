package patch

import (
	"reflect"
	"slices"
	"testing"

	"taffrail/api"
	"taffrail/tree"
)

// memory is all that a node's lists reach, also what lies behind their ends.
type memory struct {
	node        api.Node
	attrs, kids int
	behind      []memory
}

func remember(n api.Node) memory {
	m := memory{node: n, attrs: len(n.Attrs), kids: len(n.Kids)}
	m.node.Attrs = slices.Clone(n.Attrs[:cap(n.Attrs)])
	m.node.Kids = nil
	for _, kid := range n.Kids[:cap(n.Kids)] {
		m.behind = append(m.behind, remember(kid))
	}
	return m
}

// opMemory is all that a list of operations reaches.
type opMemory struct {
	op    api.Op
	node  memory
	attrs int
}

func rememberOps(l []api.Op) []opMemory {
	var out []opMemory
	for _, o := range l[:cap(l)] {
		m := opMemory{op: o, node: remember(o.Node), attrs: len(o.Attrs)}
		m.op.Attrs = slices.Clone(o.Attrs[:cap(o.Attrs)])
		m.op.Node = api.Node{}
		out = append(out, m)
	}
	return out
}

func roomyAttrs(l []api.Attr) []api.Attr {
	return append(slices.Clone(l), api.Attr{Name: "behind", Value: "0"}, api.Attr{Name: "Behind", Value: "1"})[:len(l)]
}

// roomy is n as new memory, with something behind the end of each list.
func roomy(n api.Node) api.Node {
	kids := append(slices.Clone(n.Kids), api.Node{Id: 77, Kind: 1, Name: "behind", Attrs: []api.Attr{{Name: "z"}, {Name: "a"}}}, api.Node{Id: 78})
	for i := range n.Kids {
		kids[i] = roomy(kids[i])
	}
	n.Attrs, n.Kids = roomyAttrs(n.Attrs), kids[:len(n.Kids)]
	return n
}

func roomyOps(l []api.Op) []api.Op {
	out := append(slices.Clone(l), remove(77), insert(78, 0, -1, full(0, 1)))
	for i := range l {
		out[i].Node, out[i].Attrs = roomy(out[i].Node), roomyAttrs(out[i].Attrs)
	}
	return out[:len(l)]
}

func spoilAttrs(l []api.Attr) {
	l = l[:cap(l)]
	for i := range l {
		l[i] = api.Attr{Name: "spoilt", Value: "spoilt"}
	}
}

// spoil writes into all that a node's lists reach.
func spoil(n api.Node) {
	spoilAttrs(n.Attrs)
	kids := n.Kids[:cap(n.Kids)]
	for i := range kids {
		spoil(kids[i])
		kids[i] = api.Node{Id: -9, Name: "spoilt"}
	}
}

func spoilOps(l []api.Op) {
	l = l[:cap(l)]
	for i := range l {
		spoil(l[i].Node)
		spoilAttrs(l[i].Attrs)
		l[i] = api.Op{Kind: -9, Id: -9, Text: "spoilt"}
	}
}

// task is a tree and operations on it, some of which are refused.
type task struct {
	n api.Node
	l []api.Op
}

func tasks() []task {
	d := drawer(31)
	all := []api.Op{insert(20, 2, 7, full(0, 1)), setAttrs(20, api.Attr{Name: "q"}, api.Attr{Name: "p"}), insert(21, 20, -1, full(0, 2)), setText(21, "new"), setAttrs(4, api.Attr{Name: "k"}), insert(22, 4, -1, full(0, 3)), remove(11)}
	out := []task{{}, {n: sample()}, {sample(), all}, {sample(), append(slices.Clone(all), remove(0))}, {el(0, "p"), all}, {n: full(3, 0, full(1, 1, full(2, 1)))}}
	for range 40 {
		id := 0
		x := task{n: d.proper(api.NodeDocument, 4, &id, 1)}
		n := x.n
		for range 8 {
			o := d.fine(n)
			x.l, n = append(x.l, o), doneOf(n, o)
		}
		out = append(out, x)
	}
	return out
}

func TestNothingHandedInIsChanged(t *testing.T) {
	for _, x := range tasks() {
		n, l := roomy(x.n), roomyOps(x.l)
		nWas, lWas := remember(n), rememberOps(l)
		Apply(n, l)
		for _, o := range l[:cap(l)] {
			Check(n, o)
			Apply(n, []api.Op{o})
		}
		Touched(l)
		Build(n, 5, -1)
		if !reflect.DeepEqual(remember(n), nWas) || !reflect.DeepEqual(rememberOps(l), lWas) {
			t.Errorf("what was handed in is changed: %+v", x)
		}
	}
}

func TestWhatIsHandedOutIsNew(t *testing.T) {
	for _, x := range tasks() {
		n, l := roomy(x.n), roomyOps(x.l)
		nWas, lWas := remember(n), rememberOps(l)
		got, _ := Apply(n, l)
		spoil(got)
		got, _ = Apply(n, nil)
		spoil(got)
		spoilOps(Build(n, 5, -1))
		ids := Touched(l)
		clear(ids[:cap(ids)])
		if !reflect.DeepEqual(remember(n), nWas) || !reflect.DeepEqual(rememberOps(l), lWas) {
			t.Errorf("writing into an answer changed what was handed in: %+v", x)
		}
	}
}

func TestWhatIsHandedInIsNotKept(t *testing.T) {
	for _, x := range tasks() {
		n, l := roomy(x.n), roomyOps(x.l)
		got, err := Apply(n, l)
		built, ids := Build(n, 5, -1), Touched(l)
		spoil(n)
		spoilOps(l)
		if want, wantErr := applyOf(x.n, x.l); err != wantErr || !isSame(got, want) {
			t.Errorf("writing into what was handed in changed Apply's answer: %+v", x)
		}
		if !slices.Equal(ids, touchedOf(x.l)) {
			t.Errorf("%v", ids)
		}
		checkBuild(t, x.n, 5, -1, built...)
	}
}

func TestAnswersShareNothing(t *testing.T) {
	for _, x := range tasks() {
		a, _ := Apply(x.n, x.l)
		c, _ := Apply(x.n, x.l)
		spoil(a)
		if want, _ := applyOf(x.n, x.l); !isSame(c, want) {
			t.Errorf("two trees share memory: %+v", x)
		}
		l, m := Build(x.n, 5, -1), Build(x.n, 5, -1)
		spoilOps(l)
		checkBuild(t, x.n, 5, -1, m...)
		i, k := Touched(x.l), Touched(x.l)
		clear(i[:cap(i)])
		if !slices.Equal(k, touchedOf(x.l)) {
			t.Errorf("two lists share memory: %+v", x)
		}
	}
}

// nodesOf are all nodes of a tree, by their places.
func nodesOf(n *api.Node) []*api.Node {
	out := []*api.Node{n}
	for i := range n.Kids {
		out = append(out, nodesOf(&n.Kids[i])...)
	}
	return out
}

// One list may stand at several places of what is handed in; in an answer each place has its own.
func TestListsOfOneAnswer(t *testing.T) {
	l := []api.Attr{{Name: "b"}, {Name: "a"}, {Name: "c"}}
	kids := []api.Node{{Id: 5, Kind: 1, Attrs: l}, {Id: 6, Kind: 1, Attrs: l[:2]}}
	n := doc(0, api.Node{Id: 1, Kind: 1, Attrs: l[:1], Kids: kids}, api.Node{Id: 2, Kind: 1, Attrs: l[1:]}, api.Node{Id: 3, Kind: 1, Attrs: l})
	with := b
	with.Attrs = l[:2]
	ops := []api.Op{setAttrs(2, l...), insert(7, 1, 5, with), insert(8, 1, -1, with), insert(9, 0, 3, with), setAttrs(3, l[1:]...)}
	got, err := Apply(n, ops)
	if err != api.OK {
		t.Fatal(err)
	}
	parts := nodesOf(&got)
	var lists []*api.Node
	lists = append(lists, parts...)
	built := Build(n, 5, -1)
	for i := range built {
		lists = append(lists, &built[i].Node)
	}
	for i, x := range lists {
		was := make([]api.Node, len(lists))
		for k, y := range lists {
			was[k] = *y
			was[k].Attrs, was[k].Kids = slices.Clone(y.Attrs), nil
		}
		spoilAttrs(x.Attrs)
		if room := x.Kids[len(x.Kids):cap(x.Kids)]; len(room) > 0 {
			room[0] = api.Node{Id: -9}
		}
		for k, y := range lists {
			now := *y
			now.Kids = nil
			if k != i && !isSame(now, was[k]) {
				t.Errorf("nodes %d and %d share memory", i, k)
			}
		}
	}
	if l[0].Name != "b" || l[1].Name != "a" || l[2].Name != "c" || tree.Count(n) != 6 {
		t.Error("what was handed in is changed")
	}
}

// Lists of length 0 that have room share none of it, either.
func TestEmptyListsWithRoom(t *testing.T) {
	n := doc(0, el(1, "p"))
	n.Kids[0].Attrs, n.Kids[0].Kids = make([]api.Attr, 0, 2), make([]api.Node, 0, 2)
	o := insert(2, 0, -1, b)
	o.Node.Attrs, o.Node.Kids = make([]api.Attr, 0, 2), make([]api.Node, 0, 2)
	set := setAttrs(1)
	set.Attrs = make([]api.Attr, 0, 2)
	for _, l := range [][]api.Op{{o}, {o, set}} {
		got, err := Apply(n, l)
		if err != api.OK {
			t.Fatal(err)
		}
		for _, x := range nodesOf(&got) {
			_ = append(x.Attrs, api.Attr{Name: "x"})
			_ = append(x.Kids, api.Node{Id: 5})
		}
	}
	for _, x := range Build(n, 0, -1) {
		_ = append(x.Attrs, api.Attr{Name: "x"})
		_ = append(x.Node.Attrs, api.Attr{Name: "x"})
		_ = append(x.Node.Kids, api.Node{Id: 5})
	}
	for _, x := range []api.Node{n.Kids[0], o.Node, {Attrs: set.Attrs, Kids: make([]api.Node, 0, 1)}} {
		if x.Attrs[:1][0].Name != "" || x.Kids[:1][0].Id != 0 {
			t.Error("room is shared")
		}
	}
}

// An error far behind leaves no trace, and the next call begins anew.
func TestNothingIsKept(t *testing.T) {
	n := sample()
	for range 3 {
		if _, err := Apply(n, []api.Op{insert(20, 2, -1, b), remove(11), remove(0)}); err != api.ErrArg {
			t.Errorf("%d", err)
		}
		if err := Check(n, remove(11)); err != api.OK {
			t.Errorf("%d", err)
		}
		if got, err := Apply(n, []api.Op{insert(20, 2, -1, b)}); err != api.OK || tree.Count(got) != 11 {
			t.Errorf("%d: %+v", err, got)
		}
	}
}

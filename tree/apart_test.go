package tree

import (
	"reflect"
	"slices"
	"testing"

	"taffrail/api"
)

// memory is all that a node's lists reach, also what lies behind their ends.
type memory struct {
	node        api.Node
	attrs, kids int
	behind      []memory
}

func remember(n api.Node) memory {
	m := memory{node: n, attrs: len(n.Attrs), kids: len(n.Kids)}
	m.node.Attrs = slices.Clone(n.Attrs[:cap(n.Attrs)])
	m.node.Kids = nil
	for _, kid := range n.Kids[:cap(n.Kids)] {
		m.behind = append(m.behind, remember(kid))
	}
	return m
}

// roomy is n as new memory, with something behind the end of each list.
func roomy(n api.Node) api.Node {
	attrs := append(slices.Clone(n.Attrs), api.Attr{Name: "behind", Value: "0"}, api.Attr{Name: "Behind", Value: "1"})
	kids := append(slices.Clone(n.Kids), api.Node{Id: 77, Name: "behind", Attrs: []api.Attr{{Name: "z"}, {Name: "a"}}}, api.Node{Id: 78})
	for i := range n.Kids {
		kids[i] = roomy(kids[i])
	}
	n.Attrs, n.Kids = attrs[:len(n.Attrs)], kids[:len(n.Kids)]
	return n
}

// spoil writes into all that a node's lists reach.
func spoil(n api.Node) {
	l := n.Attrs[:cap(n.Attrs)]
	for i := range l {
		l[i] = api.Attr{Name: "spoilt", Value: "spoilt"}
	}
	kids := n.Kids[:cap(n.Kids)]
	for i := range kids {
		spoil(kids[i])
		kids[i] = api.Node{Id: -9, Name: "spoilt"}
	}
}

func trees() []api.Node {
	d := drawer(21)
	out := []api.Node{{}, sample(), family(), chain(9), row(9), comb(9), full(3, 9, full(3, 3), full(-1, 0))}
	for range 30 {
		out = append(out, d.wild(4))
	}
	return out
}

func TestNothingHandedInIsChanged(t *testing.T) {
	for _, x := range trees() {
		n, m := roomy(x), roomy(x)
		for _, at := range nodesOf(&m) { // so that Like has something to sort
			slices.Reverse(at.Attrs)
		}
		nWas, mWas := remember(n), remember(m)
		Equal(n, m)
		Equal(n, n)
		Like(n, m)
		Like(m, n)
		Count(n)
		Depth(n)
		ids := Ids(n)
		for _, id := range append(ids, -5, 1000) {
			Find(n, id)
		}
		Check(n)
		Check(m)
		Strip(n)
		Strip(m)
		if !reflect.DeepEqual(remember(n), nWas) || !reflect.DeepEqual(remember(m), mWas) {
			t.Errorf("what was handed in is changed: %+v", x)
		}
	}
}

func TestWhatIsHandedOutIsNew(t *testing.T) {
	for _, x := range trees() {
		n := roomy(x)
		was := remember(n)
		spoil(Strip(n))
		for _, id := range idsOf(n) {
			got, _ := Find(n, id)
			spoil(got)
		}
		ids := Ids(n)
		clear(ids[:cap(ids)])
		if !reflect.DeepEqual(remember(n), was) {
			t.Errorf("writing into an answer changed what was handed in: %+v", x)
		}
	}
}

func TestWhatIsHandedInIsNotKept(t *testing.T) {
	for _, x := range trees() {
		n := roomy(x)
		stripped, ids := Strip(n), Ids(n)
		found, _ := Find(n, n.Id)
		var last api.Node
		lastId := idsOf(n)[len(ids)-1]
		last, _ = Find(n, lastId)
		want, _ := findOf(x, lastId)
		spoil(n)
		if !isSame(stripped, stripOf(x)) || !slices.Equal(ids, idsOf(x)) || !isSame(found, x) || !isSame(last, want) {
			t.Errorf("writing into what was handed in changed an answer: %+v", x)
		}
	}
}

// Lists of length 0 that have room share none of it, either.
func TestEmptyListsWithRoom(t *testing.T) {
	n := api.Node{Attrs: make([]api.Attr, 0, 2), Kids: make([]api.Node, 0, 2)}
	found, _ := Find(n, 0)
	for _, got := range []api.Node{found, Strip(n)} {
		_ = append(got.Attrs, api.Attr{Name: "x"})
		_ = append(got.Kids, api.Node{Id: 5})
		if n.Attrs[:1][0].Name != "" || n.Kids[:1][0].Id != 0 {
			t.Error("room is shared")
		}
	}
}

func TestAnswersShareNothing(t *testing.T) {
	for _, x := range trees() {
		s1, s2 := Strip(x), Strip(x)
		f1, _ := Find(x, x.Id)
		f2, _ := Find(x, x.Id)
		i1, i2 := Ids(x), Ids(x)
		spoil(s1)
		spoil(f1)
		clear(i1)
		if !isSame(s2, stripOf(x)) || !isSame(f2, x) || !slices.Equal(i2, idsOf(x)) {
			t.Errorf("two answers share memory: %+v", x)
		}
	}
}

// A node handed in may have one list at several places; in an answer each place has its own.
func TestListsOfOneAnswer(t *testing.T) {
	l := []api.Attr{{Name: "b"}, {Name: "a"}, {Name: "c"}}
	kids := []api.Node{{Id: 5, Kind: 1, Attrs: l}, {Id: 6, Kind: 1, Attrs: l[:2]}}
	n := doc(0, api.Node{Id: 1, Kind: 1, Attrs: l[:1], Kids: kids}, api.Node{Id: 2, Kind: 1, Attrs: l[1:], Kids: kids[:1]}, api.Node{Id: 3, Kind: 1, Attrs: l, Kids: kids[1:]})
	n.Attrs = l
	was := remember(n)
	found, _ := Find(n, 0)
	for what, got := range map[string]api.Node{"Find": found, "Strip": Strip(n)} {
		parts := nodesOf(&got)
		for i := range parts {
			before := make([]api.Node, len(parts))
			for k, x := range parts {
				before[k] = cloned(*x)
				before[k].Kids = nil
			}
			lists := parts[i].Attrs[:cap(parts[i].Attrs)]
			for k := range lists {
				lists[k].Value = "spoilt"
			}
			if room := parts[i].Kids[len(parts[i].Kids):cap(parts[i].Kids)]; len(room) > 0 {
				room[0] = api.Node{Id: -9}
			}
			for k, x := range parts {
				now := *x
				now.Kids = nil
				if k != i && !isSame(now, before[k]) {
					t.Errorf("%s: nodes %d and %d share memory", what, i, k)
				}
			}
		}
	}
	if !reflect.DeepEqual(remember(n), was) {
		t.Error("what was handed in is changed")
	}
}

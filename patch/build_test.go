package patch

import (
	"math"
	"reflect"
	"slices"
	"testing"

	"taffrail/api"
)

func TestTouched(t *testing.T) {
	for i, x := range []struct {
		l    []api.Op
		want []int
	}{
		{nil, nil},
		{[]api.Op{}, nil},
		{[]api.Op{remove(5)}, []int{5}},
		{[]api.Op{{}}, []int{0}},
		{[]api.Op{remove(5), setText(5, "x"), setAttrs(5), remove(5)}, []int{5}},
		{[]api.Op{insert(5, 5, 5, b), insert(5, 5, -1, b)}, []int{5}},
		{[]api.Op{insert(7, 1, 3, b)}, []int{1, 3, 7}},
		{[]api.Op{insert(7, 1, -1, b)}, []int{1, 7}},
		{[]api.Op{insert(7, 0, 0, b)}, []int{0, 7}},
		{[]api.Op{insert(3, 2, 1, b), insert(2, 3, 9, b), remove(4)}, []int{1, 2, 3, 4, 9}},
		{[]api.Op{remove(9), remove(3), remove(6), remove(3), remove(9)}, []int{3, 6, 9}},
		// A Before of -1 names no node; any other number counts.
		{[]api.Op{insert(-3, -2, -4, b), insert(math.MinInt, math.MaxInt, 1<<40, b), remove(-7)}, []int{math.MinInt, -7, -4, -3, -2, 1 << 40, math.MaxInt}},
		{[]api.Op{remove(math.MaxInt), remove(math.MinInt), remove(0)}, []int{math.MinInt, 0, math.MaxInt}},
	} {
		if got := Touched(x.l); len(got) != len(x.want) || !slices.Equal(got, x.want) {
			t.Errorf("%d: %v, not %v", i, got, x.want)
		}
	}
	// Parent and Before of others than OpInsert have no meaning, whatever the kind.
	for _, kind := range []int{-1, 0, 2, 3, 4, 5, math.MaxInt} {
		got := Touched([]api.Op{{Kind: kind, Id: 3, Parent: 1, Before: 2, Node: full(8, 1, full(9, 1))}, {Kind: kind, Id: 4, Parent: 11, Before: 12}})
		if !slices.Equal(got, []int{3, 4}) {
			t.Errorf("kind %d: %v", kind, got)
		}
	}
	// What stands in Node names nothing.
	if got := Touched([]api.Op{insert(3, 1, 2, full(8, 1, full(9, 1)))}); !slices.Equal(got, []int{1, 2, 3}) {
		t.Errorf("%v", got)
	}
}

func checkBuild(t *testing.T, n api.Node, parent, before int, want ...api.Op) {
	t.Helper()
	got := Build(n, parent, before)
	if len(got) != len(want) {
		t.Fatalf("%d operations, not %d: %+v", len(got), len(want), got)
	}
	for i := range want {
		x, y := got[i], want[i]
		x.Node, y.Node = plain(x.Node), plain(y.Node)
		if !reflect.DeepEqual(x, y) || len(x.Node.Kids) > 0 {
			t.Errorf("%d:\n got %+v\nwant %+v", i, x, y)
		}
	}
}

func TestBuild(t *testing.T) {
	for _, before := range []int{-1, 0, 3, -2, math.MaxInt, math.MinInt} {
		for _, parent := range []int{0, 4, -1, math.MaxInt} {
			for kind := -1; kind <= 5; kind++ {
				checkBuild(t, full(7, kind), parent, before, insert(7, parent, before, full(0, kind)))
			}
			checkBuild(t, el(1, "a", el(2, "b", el(3, "c", text(4, "x")))), parent, before,
				insert(1, parent, before, el(0, "a")), insert(2, 1, -1, el(0, "b")), insert(3, 2, -1, el(0, "c")), insert(4, 3, -1, text(0, "x")))
			checkBuild(t, el(1, "a", el(4, "b"), text(3, "x"), comment(2, "c")), parent, before,
				insert(1, parent, before, el(0, "a")), insert(4, 1, -1, el(0, "b")), insert(3, 1, -1, text(0, "x")), insert(2, 1, -1, comment(0, "c")))
		}
	}
	p := sample().Kids[1]
	alone := func(n api.Node) api.Node {
		n.Id, n.Kids = 0, nil
		return n
	}
	i := p.Kids[1]
	checkBuild(t, p, 9, 8, insert(2, 9, 8, alone(p)), insert(7, 2, -1, text(0, "y")), insert(11, 2, -1, alone(i)), insert(5, 11, -1, text(0, "x")), insert(9, 11, -1, comment(0, "")), insert(3, 2, -1, text(0, "z")))
	// Up by several levels at once.
	checkBuild(t, el(1, "a", el(2, "b", el(3, "c", text(4, "x"))), text(5, "y")), 0, -1,
		insert(1, 0, -1, el(0, "a")), insert(2, 1, -1, el(0, "b")), insert(3, 2, -1, el(0, "c")), insert(4, 3, -1, text(0, "x")), insert(5, 1, -1, text(0, "y")))
}

// Any node is built as it is; what no tree bears is Check's to say.
func TestBuildOfAnyNode(t *testing.T) {
	checkBuild(t, api.Node{}, 0, -1, insert(0, 0, -1, api.Node{}))
	n := full(-5, 9, full(-5, 2, full(0, 0)), full(math.MaxInt, 3, full(math.MinInt, 1)))
	checkBuild(t, n, -5, -5, insert(-5, -5, -5, full(0, 9)), insert(-5, -5, -1, full(0, 2)), insert(0, -5, -1, full(0, 0)), insert(math.MaxInt, -5, -1, full(0, 3)), insert(math.MinInt, math.MaxInt, -1, full(0, 1)))
	checkBuild(t, sample(), 7, 7, Build(sample(), 7, 7)...)
	if l := Build(sample(), 7, 7); len(l) != 10 || l[0].Node.Kind != api.NodeDocument {
		t.Errorf("%+v", l)
	}
}

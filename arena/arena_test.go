package arena

import (
	"math"
	"reflect"
	"slices"
	"testing"

	"taffrail/api"
)

// kinds are those that can be made.
var kinds = []int{api.NodeElement, api.NodeText, api.NodeComment, api.NodeDoctype}

// document is node 0 with those kids; its spans are written out, so that they hang on nothing else.
func document(kids ...api.Node) api.Node {
	none := api.Span{From: -1, To: -1}
	return api.Node{Kind: api.NodeDocument, Start: none, End: none, Kids: kids}
}

func element(name string) api.Node {
	return api.Node{Kind: api.NodeElement, Name: name, Start: api.None(), End: api.None()}
}

// full has all that a node may have, and what Make must not take over.
func full(kind int) api.Node {
	return api.Node{
		Id: 77, Kind: kind, Space: api.Svg, Name: "n", Text: "t", Attrs: []api.Attr{{Name: "a", Value: "1"}, {Name: "b", Value: "2"}},
		Start: api.Span{From: 3, To: 9}, End: api.Span{From: 20, To: 25}, Kids: []api.Node{{Id: 5, Kind: api.NodeText, Text: "kid"}},
	}
}

// missing are numbers that no arena of that length has.
func missing(length int) []int {
	return []int{-1, -2, -length, length, length + 1, 1 << 31, 1 << 32, 1<<32 + 1, math.MinInt, math.MinInt + 1, math.MaxInt, math.MaxInt - 1}
}

// made gives an arena whose nodes 1 to n are elements that stand nowhere.
func made(t *testing.T, n int) *Arena {
	t.Helper()
	a := New()
	for i := range n {
		if id := a.Make(element("e")); id != i+1 {
			t.Fatalf("Make: %d, not %d", id, i+1)
		}
	}
	return a
}

func put(t *testing.T, a *Arena, parent, id, before int) {
	t.Helper()
	if err := a.Insert(parent, id, before); err != api.OK {
		t.Fatalf("Insert(%d, %d, %d): %d", parent, id, before, err)
	}
}

func take(t *testing.T, a *Arena, id int) {
	t.Helper()
	if err := a.Detach(id); err != api.OK {
		t.Fatalf("Detach(%d): %d", id, err)
	}
}

func checkKids(t *testing.T, a *Arena, id int, want ...int) {
	t.Helper()
	if got := a.Kids(id); !slices.Equal(got, want) {
		t.Errorf("Kids(%d): %v, not %v", id, got, want)
	}
	for _, kid := range want {
		if p := a.Parent(kid); p != id {
			t.Errorf("Parent(%d): %d, not %d", kid, p, id)
		}
	}
}

// plain is a node with all empty lists nil.
func plain(n api.Node) api.Node {
	if len(n.Attrs) == 0 {
		n.Attrs = nil
	}
	kids := n.Kids
	n.Kids = nil
	for _, kid := range kids {
		n.Kids = append(n.Kids, plain(kid))
	}
	return n
}

func checkNode(t *testing.T, a *Arena, id int, want api.Node) {
	t.Helper()
	got, err := a.Get(id)
	if err != api.OK || !reflect.DeepEqual(plain(got), plain(want)) {
		t.Errorf("Get(%d): error %d\n got %+v\nwant %+v", id, err, got, want)
	}
}

func checkTree(t *testing.T, a *Arena, id int, want api.Node) {
	t.Helper()
	if got := a.Tree(id); !reflect.DeepEqual(plain(got), plain(want)) {
		t.Errorf("Tree(%d):\n got %+v\nwant %+v", id, got, want)
	}
}

// all is what an arena tells of itself.
type all struct {
	nodes, trees []api.Node
	parents      []int
	kids         [][]int
}

func tell(a *Arena) all {
	var out all
	for id := range a.Len() {
		n, _ := a.Get(id)
		out.nodes = append(out.nodes, plain(n))
		out.trees = append(out.trees, plain(a.Tree(id)))
		out.parents = append(out.parents, a.Parent(id))
		out.kids = append(out.kids, append([]int(nil), a.Kids(id)...))
	}
	return out
}

// checkUnchanged calls do, and sees that the arena is as ahead of it.
func checkUnchanged(t *testing.T, a *Arena, what string, do func()) {
	t.Helper()
	before := tell(a)
	do()
	if after := tell(a); !reflect.DeepEqual(before, after) {
		t.Errorf("%s changed something:\n had %+v\n has %+v", what, before, after)
	}
}

func TestExamples(t *testing.T) {
	a := New()
	if id := a.Make(api.Node{Kind: api.NodeElement}); id != 1 {
		t.Errorf("Make: %d", id)
	}
	if err := a.Insert(0, 1, -1); err != api.OK {
		t.Errorf("Insert: %d", err)
	}
	if err := a.Insert(0, 1, -1); err != api.ErrArg {
		t.Errorf("Insert again: %d", err)
	}
	if err := a.Insert(1, 0, -1); err != api.ErrNode {
		t.Errorf("Insert of the document: %d", err)
	}
	checkKids(t, a, 0, 1)
}

func TestNew(t *testing.T) {
	a := New()
	if a == nil || a.Len() != 1 || a.Parent(0) != -1 || len(a.Kids(0)) != 0 {
		t.Fatalf("%+v", a)
	}
	checkNode(t, a, 0, document())
	checkTree(t, a, 0, document())
	b := New()
	a.Make(element("p"))
	put(t, a, 0, 1, -1)
	if b.Len() != 1 || len(b.Kids(0)) != 0 {
		t.Error("two new ones are one")
	}
}

func TestMakeKinds(t *testing.T) {
	a := New()
	for i, kind := range kinds {
		n := full(kind)
		if id := a.Make(n); id != i+1 || a.Len() != i+2 {
			t.Fatalf("kind %d: %d, Len %d", kind, id, a.Len())
		}
		want := full(kind)
		want.Id, want.Kids = i+1, nil
		checkNode(t, a, i+1, want)
		checkTree(t, a, i+1, want)
		if a.Parent(i+1) != -1 || len(a.Kids(i+1)) != 0 {
			t.Errorf("kind %d: it stands somewhere, or has kids", kind)
		}
		if !reflect.DeepEqual(n, full(kind)) {
			t.Errorf("kind %d: the node was changed: %+v", kind, n)
		}
	}
	if len(a.Kids(0)) != 0 {
		t.Errorf("the document has kids: %v", a.Kids(0))
	}
}

func TestMakeOddFields(t *testing.T) {
	a := New()
	for i, n := range []api.Node{
		{Kind: api.NodeElement}, {Kind: api.NodeText}, {Kind: api.NodeComment}, {Kind: api.NodeDoctype},
		{Kind: api.NodeElement, Space: math.MinInt, Name: "\x00\xFF", Start: api.Span{From: 9, To: 3}, End: api.Span{From: math.MaxInt, To: math.MinInt}},
		{Kind: api.NodeText, Space: 99, Text: "", Attrs: []api.Attr{{}, {}}},
		{Kind: api.NodeElement, Attrs: []api.Attr{}, Kids: []api.Node{}},
		{Kind: api.NodeElement, Attrs: []api.Attr{{Name: "a"}, {Name: "a", Value: "2"}}},
	} {
		if id := a.Make(n); id != i+1 {
			t.Fatalf("%d: %d", i, id)
		}
		n.Id = i + 1
		checkNode(t, a, i+1, n)
	}
}

func TestMakeOtherKinds(t *testing.T) {
	a := made(t, 2)
	for _, kind := range []int{api.NodeDocument, -1, -2, 5, 6, 1 << 32, 1<<32 + 1, math.MinInt, math.MaxInt} {
		checkUnchanged(t, a, "Make of no kind", func() {
			if id := a.Make(full(kind)); id != -1 {
				t.Errorf("kind %d: %d", kind, id)
			}
		})
	}
	if id := a.Make(element("p")); id != 3 || a.Len() != 4 {
		t.Errorf("numbers were used up: %d", id)
	}
}

// The number is one more than the last one made, whatever was done to the others.
func TestMakeNumbersRise(t *testing.T) {
	a := New()
	for i := 1; i <= 500; i++ {
		if id := a.Make(api.Node{Id: 1, Kind: kinds[i%4]}); id != i || a.Len() != i+1 {
			t.Fatalf("%d: %d", i, id)
		}
		if i%3 != 0 {
			put(t, a, 0, i, -1)
		}
		if i%3 == 1 {
			take(t, a, i)
		}
		a.Make(api.Node{Kind: 9})
	}
}

func TestInsertPlaces(t *testing.T) {
	a := made(t, 6)
	put(t, a, 0, 1, -1)
	put(t, a, 1, 2, -1)
	checkKids(t, a, 1, 2)
	put(t, a, 1, 3, -1)
	checkKids(t, a, 1, 2, 3)
	put(t, a, 1, 4, 2)
	checkKids(t, a, 1, 4, 2, 3)
	put(t, a, 1, 5, 2)
	checkKids(t, a, 1, 4, 5, 2, 3)
	put(t, a, 1, 6, 3)
	checkKids(t, a, 1, 4, 5, 2, 6, 3)
	checkKids(t, a, 0, 1)
}

// The document takes kids as an element does.
func TestInsertPlacesOfDocument(t *testing.T) {
	a := made(t, 4)
	put(t, a, 0, 2, -1)
	put(t, a, 0, 1, 2)
	put(t, a, 0, 3, -1)
	put(t, a, 0, 4, 3)
	checkKids(t, a, 0, 1, 2, 4, 3)
}

func TestInsertKinds(t *testing.T) {
	for _, kind := range kinds {
		a := made(t, 1)
		id := a.Make(full(kind))
		put(t, a, 0, id, -1)
		checkKids(t, a, 0, id)
		put(t, a, 0, 1, id)
		checkKids(t, a, 0, 1, id)
	}
}

// A node that stands nowhere may take kids; they come along.
func TestInsertBelowLooseNode(t *testing.T) {
	a := made(t, 3)
	put(t, a, 2, 3, -1)
	put(t, a, 1, 2, -1)
	if a.Parent(1) != -1 {
		t.Errorf("Parent(1): %d", a.Parent(1))
	}
	put(t, a, 0, 1, -1)
	checkKids(t, a, 0, 1)
	checkKids(t, a, 1, 2)
	checkKids(t, a, 2, 3)
}

func refuse(t *testing.T, a *Arena, parent, id, before int, want api.Errno) {
	t.Helper()
	checkUnchanged(t, a, "Insert", func() {
		if err := a.Insert(parent, id, before); err != want {
			t.Errorf("Insert(%d, %d, %d): %d, not %d", parent, id, before, err, want)
		}
	})
}

func TestInsertMissing(t *testing.T) {
	a := made(t, 3)
	put(t, a, 0, 1, -1)
	put(t, a, 1, 2, -1) // 3 stands nowhere
	for _, x := range missing(4) {
		refuse(t, a, x, 3, -1, api.ErrNode)
		refuse(t, a, 1, x, -1, api.ErrNode)
		refuse(t, a, x, x, x, api.ErrNode)
		if x != -1 {
			refuse(t, a, 1, 3, x, api.ErrNode)
			refuse(t, a, 0, 3, x, api.ErrNode)
		}
	}
	for _, before := range []int{-1, 0, 1, 2, 3, 9} {
		for _, parent := range []int{0, 1, 2, 3, 9, -1} {
			refuse(t, a, parent, 0, before, api.ErrNode)
		}
	}
	put(t, a, 1, 3, 2)
	checkKids(t, a, 1, 3, 2)
}

func TestInsertWithParent(t *testing.T) {
	a := made(t, 4)
	put(t, a, 0, 1, -1)
	put(t, a, 0, 2, -1)
	put(t, a, 1, 3, -1)
	for _, x := range [][3]int{{0, 1, -1}, {0, 2, 1}, {0, 1, 2}, {1, 3, -1}, {2, 3, -1}, {0, 3, 1}, {0, 3, -1}, {1, 2, 3}, {4, 3, -1}, {1, 3, 3}, {0, 1, 1}} {
		refuse(t, a, x[0], x[1], x[2], api.ErrArg)
	}
}

func TestInsertParentOfOtherKind(t *testing.T) {
	for _, kind := range []int{api.NodeText, api.NodeComment, api.NodeDoctype} {
		a := made(t, 2)
		id := a.Make(full(kind))
		loose := a.Make(full(kind))
		put(t, a, 0, id, -1)
		refuse(t, a, id, 1, -1, api.ErrArg)
		refuse(t, a, loose, 1, -1, api.ErrArg)
		refuse(t, a, loose, loose, -1, api.ErrArg)
		refuse(t, a, id, loose, -1, api.ErrArg)
		refuse(t, a, id, 1, id, api.ErrArg)
	}
}

func TestInsertBeforeNoKid(t *testing.T) {
	a := made(t, 7)
	put(t, a, 0, 1, -1)
	put(t, a, 1, 2, -1)
	put(t, a, 2, 3, -1)
	put(t, a, 0, 4, -1)
	put(t, a, 6, 7, -1) // 5 and 6 stand nowhere
	for _, x := range []struct{ parent, before int }{
		{0, 0}, {1, 0}, {2, 0}, {6, 0}, // the document
		{0, 5}, {1, 5}, // the node itself
		{0, 2}, {0, 3}, {1, 3}, // a grandchild, and one below that
		{1, 1}, {2, 2}, {6, 6}, // the parent itself
		{2, 1}, {3, 1}, // ahead of the parent
		{1, 4}, {4, 1}, {0, 6}, {0, 7}, {1, 7}, {7, 7}, // elsewhere
	} {
		refuse(t, a, x.parent, 5, x.before, api.ErrArg)
	}
	put(t, a, 6, 5, 7)
	checkKids(t, a, 6, 5, 7)
}

func TestInsertBelowItself(t *testing.T) {
	a := made(t, 9)
	refuse(t, a, 1, 1, -1, api.ErrArg)
	refuse(t, a, 1, 1, 1, api.ErrArg)
	for id := 2; id <= 8; id++ {
		put(t, a, id-1, id, -1)
		for low := 1; low <= id; low++ {
			refuse(t, a, low, 1, -1, api.ErrArg)
		}
	}
	put(t, a, 3, 9, -1)
	refuse(t, a, 9, 1, -1, api.ErrArg)
	refuse(t, a, 3, 1, 4, api.ErrArg)
	refuse(t, a, 3, 1, 9, api.ErrArg)
	take(t, a, 5)
	refuse(t, a, 8, 5, -1, api.ErrArg)
	refuse(t, a, 4, 1, -1, api.ErrArg)
	put(t, a, 8, 1, -1) // it is not below 1 any more
	checkKids(t, a, 8, 1)
	refuse(t, a, 4, 5, -1, api.ErrArg)
	refuse(t, a, 9, 5, -1, api.ErrArg)
	put(t, a, 0, 5, -1)
	refuse(t, a, 9, 5, -1, api.ErrArg)
}

// What is not there is told ahead of all else.
func TestInsertSeveralFaults(t *testing.T) {
	a := made(t, 3)
	txt := a.Make(full(api.NodeText))
	put(t, a, 0, 1, -1)
	put(t, a, 1, 2, -1)
	for _, x := range []struct {
		parent, id, before int
		want               api.Errno
	}{
		{0, 1, 9, api.ErrNode},      // it has a parent, and before is not there
		{9, 1, -1, api.ErrNode},     // it has a parent, and there is no such parent
		{txt, 3, -2, api.ErrNode},   // a parent of another kind, and before is not there
		{txt, 9, 0, api.ErrNode},    // a parent of another kind, and id is not there
		{3, 3, 9, api.ErrNode},      // its own parent, and before is not there
		{2, 1, -9, api.ErrNode},     // below itself, with a parent, and before is not there
		{0, 0, -1, api.ErrNode},     // the document within itself
		{txt, 0, txt, api.ErrNode},  // the document within a text
		{9, 0, 9, api.ErrNode},      // nothing is there
		{txt, 1, -1, api.ErrArg},    // it has a parent, and the other one is a text
		{txt, 1, 0, api.ErrArg},     // and before is no kid
		{2, 1, 0, api.ErrArg},       // below itself, with a parent, and before is no kid
		{txt, txt, txt, api.ErrArg}, // within itself, a text, ahead of itself
		{3, 3, 2, api.ErrArg},       // within itself, before is no kid
		{1, 1, 2, api.ErrArg},       // within itself, with a parent
		{txt, 2, 1, api.ErrArg},     // all but the missing
		{0, 2, math.MinInt, 4},      // it has a parent, and before is not there
		{math.MaxInt, 3, 3, 4},      // no such parent, and before is no kid
		{1, math.MinInt, 0, 4},      // no such node, and before is no kid
		{math.MinInt, math.MinInt, math.MinInt, 4},
	} {
		refuse(t, a, x.parent, x.id, x.before, x.want)
	}
}

func TestDetach(t *testing.T) {
	for _, x := range []struct {
		id   int
		kids []int
	}{{2, []int{3, 4, 5}}, {3, []int{2, 4, 5}}, {4, []int{2, 3, 5}}, {5, []int{2, 3, 4}}} {
		a := made(t, 7)
		put(t, a, 0, 1, -1)
		for _, id := range []int{2, 3, 4, 5} {
			put(t, a, 1, id, -1)
		}
		put(t, a, x.id, 6, -1)
		put(t, a, x.id, 7, -1)
		take(t, a, x.id)
		checkKids(t, a, 1, x.kids...)
		checkKids(t, a, x.id, 6, 7)
		if a.Parent(x.id) != -1 || a.Len() != 8 {
			t.Errorf("%d: parent %d, Len %d", x.id, a.Parent(x.id), a.Len())
		}
		checkUnchanged(t, a, "Detach again", func() {
			if err := a.Detach(x.id); err != api.ErrArg {
				t.Errorf("Detach(%d) again: %d", x.id, err)
			}
		})
	}
}

func TestDetachOnlyKid(t *testing.T) {
	for _, kind := range kinds {
		a := New()
		id := a.Make(full(kind))
		put(t, a, 0, id, -1)
		take(t, a, id)
		checkKids(t, a, 0)
		put(t, a, 0, id, -1)
		checkKids(t, a, 0, id)
	}
}

func TestDetachAll(t *testing.T) {
	for _, order := range [][]int{{1, 2, 3, 4}, {4, 3, 2, 1}, {2, 4, 1, 3}, {3, 2, 4, 1}} {
		a := made(t, 4)
		left := []int{1, 2, 3, 4}
		for _, id := range left {
			put(t, a, 0, id, -1)
		}
		for _, id := range order {
			take(t, a, id)
			left = slices.DeleteFunc(left, func(x int) bool { return x == id })
			checkKids(t, a, 0, left...)
		}
		for _, id := range order {
			put(t, a, 0, id, -1)
		}
		checkKids(t, a, 0, order...)
	}
}

func TestDetachRefused(t *testing.T) {
	a := made(t, 3)
	put(t, a, 0, 1, -1)
	put(t, a, 2, 3, -1)
	checkUnchanged(t, a, "Detach", func() {
		for _, x := range append(missing(4), 0) {
			if err := a.Detach(x); err != api.ErrNode {
				t.Errorf("Detach(%d): %d", x, err)
			}
		}
		if err := a.Detach(2); err != api.ErrArg {
			t.Errorf("Detach of one without a parent: %d", err)
		}
	})
}

func TestDetachAndInsertElsewhere(t *testing.T) {
	a := made(t, 6)
	put(t, a, 0, 1, -1)
	put(t, a, 0, 2, -1)
	put(t, a, 1, 3, -1)
	put(t, a, 1, 4, -1)
	put(t, a, 3, 5, -1)
	put(t, a, 2, 6, -1)
	take(t, a, 3)
	put(t, a, 2, 3, 6)
	checkKids(t, a, 1, 4)
	checkKids(t, a, 2, 3, 6)
	checkKids(t, a, 3, 5)
	take(t, a, 1)
	put(t, a, 5, 1, -1) // what held it stands below it now
	checkKids(t, a, 0, 2)
	checkKids(t, a, 5, 1)
	checkKids(t, a, 1, 4)
	take(t, a, 6)
	put(t, a, 2, 6, 3) // back within the same one, elsewhere
	checkKids(t, a, 2, 6, 3)
	refuse(t, a, 1, 2, -1, api.ErrArg)
}

package arena

import (
	"testing"

	"taffrail/api"
)

// checkDocument sees that the document of an arena and of its copies has no spans, alone and as a tree's root.
func checkDocument(t *testing.T, what string, a *Arena) {
	t.Helper()
	none := api.Span{From: -1, To: -1}
	for i, x := range []*Arena{a, a.Copy(), a.Copy().Copy()} {
		n, err := x.Get(0)
		if err != api.OK || n.Kind != api.NodeDocument || n.Start != none || n.End != none {
			t.Errorf("%s, copied %d times: Get(0): %+v, %d", what, i, n, err)
		}
		if n = x.Tree(0); n.Id != 0 || n.Kind != api.NodeDocument || n.Start != none || n.End != none {
			t.Errorf("%s, copied %d times: Tree(0): %+v", what, i, n)
		}
	}
}

func TestDocumentHasNoSpans(t *testing.T) {
	a := New()
	checkDocument(t, "new", a)
	p := a.Make(element("p"))
	checkDocument(t, "with a node that stands nowhere", a)
	put(t, a, 0, p, -1)
	checkDocument(t, "with a kid", a)
	put(t, a, p, a.Make(full(api.NodeText)), -1)
	checkDocument(t, "with a kid's kid", a)
	take(t, a, p)
	checkDocument(t, "with its kid taken out", a)
}

func TestDocumentHasNoSpansBehindChanges(t *testing.T) {
	for name, change := range changes() {
		a := forest(t)
		change(a)
		checkDocument(t, name, a)
		c := New().Copy()
		change(c)
		checkDocument(t, name+" of a copy", c)
	}
}

// SetEnd is of elements alone: the document is refused, in a copy, too.
func TestDocumentTakesNoEnd(t *testing.T) {
	for _, s := range []api.Span{{}, {From: 1, To: 2}, api.None()} {
		for _, a := range []*Arena{New(), New().Copy(), forest(t)} {
			if err := a.SetEnd(0, s); err != api.ErrArg {
				t.Errorf("SetEnd(0, %v): %d", s, err)
			}
			checkDocument(t, "refused", a)
		}
	}
}

// Zero spans that Make is handed stay zero, and so do those of a node that is not there: the document alone begins with none.
func TestZeroSpansStay(t *testing.T) {
	a := New()
	for _, kind := range kinds {
		id := a.Make(api.Node{Kind: kind, Text: "x"})
		put(t, a, 0, id, -1)
		want := api.Node{Id: id, Kind: kind, Text: "x"}
		checkNode(t, a, id, want)
		checkTree(t, a, id, want)
		checkNode(t, a.Copy(), id, want)
		if kid := a.Tree(0).Kids[id-1]; kid.Start != (api.Span{}) || kid.End != (api.Span{}) {
			t.Errorf("kind %d: %+v", kind, kid)
		}
	}
	for _, x := range missing(a.Len()) {
		checkTree(t, a, x, api.Node{Id: -1})
		checkTree(t, a.Copy(), x, api.Node{Id: -1})
	}
}

package tree

import (
	"cmp"
	"slices"

	"taffrail/api"
)

// equal tells whether all of two nodes is the same, but for what their kids are.
func equal(x, y *api.Node) bool {
	return x.Id == y.Id && x.Start == y.Start && x.End == y.End && agree(x, y) && slices.Equal(x.Attrs, y.Attrs)
}

// like tells the same, but for what Like leaves out.
func like(x, y *api.Node) bool { return agree(x, y) && same(x.Attrs, y.Attrs) }

// agree tells whether two nodes have the same in all that both equal and like ask in the same way.
func agree(x, y *api.Node) bool {
	return x.Kind == y.Kind && x.Space == y.Space && x.Name == y.Name && x.Text == y.Text && len(x.Kids) == len(y.Kids)
}

// same tells whether a and b have as many attributes, and each of either stands in the other: how often it does plays no part.
func same(a, b []api.Attr) bool {
	if len(a) != len(b) {
		return false
	}
	return slices.Equal(a, b) || slices.Equal(distinct(a), distinct(b)) // mostly the order is one, too: then nothing has to be sorted
}

// distinct gives the attributes of l, sorted, each once.
func distinct(l []api.Attr) []api.Attr {
	out := slices.Concat(l)
	slices.SortFunc(out, order)
	return slices.Compact(out)
}

// order is by names' bytes, then values'.
func order(a, b api.Attr) int {
	return cmp.Or(cmp.Compare(a.Name, b.Name), cmp.Compare(a.Value, b.Value))
}

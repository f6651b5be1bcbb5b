package tree

import (
	"iter"
	"slices"

	"taffrail/api"
)

// nodes goes over a row of trees, each node ahead of its kids, with its level (a tree's own is 1). It keeps a row of what is left: a tree may be deeper than calls should nest. Who is handed a node may lay other kids into it: then these are gone over.
func nodes(row []api.Node) iter.Seq2[*api.Node, int] {
	return func(yield func(*api.Node, int) bool) {
		left := [][]api.Node{row} // of each level, what is left
		for len(left) > 0 {
			level := len(left)
			rest := left[level-1]
			if len(rest) == 0 {
				left = left[:level-1]
				continue
			}
			left[level-1] = rest[1:]
			if !yield(&rest[0], level) {
				return
			}
			left = append(left, rest[0].Kids)
		}
	}
}

// pairs goes over two trees side by side, in the order of nodes, as far as both have a node at the same place.
func pairs(a, b api.Node) iter.Seq2[*api.Node, *api.Node] {
	return func(yield func(*api.Node, *api.Node) bool) {
		left := [][2][]api.Node{{{a}, {b}}}
		for len(left) > 0 {
			level := len(left)
			x, y := left[level-1][0], left[level-1][1]
			if len(x) == 0 || len(y) == 0 {
				left = left[:level-1]
				continue
			}
			left[level-1] = [2][]api.Node{x[1:], y[1:]}
			if !yield(&x[0], &y[0]) {
				return
			}
			left = append(left, [2][]api.Node{x[0].Kids, y[0].Kids})
		}
	}
}

// everywhere tells whether what is asked holds of all pairs of two trees. It must not hold of a pair of which one has more kids, since these have no pair.
func everywhere(a, b api.Node, holds func(x, y *api.Node) bool) bool {
	for x, y := range pairs(a, b) {
		if !holds(x, y) {
			return false
		}
	}
	return true
}

// copied gives n as new memory, each list by itself.
func copied(n api.Node) api.Node {
	out := []api.Node{n}
	for x := range nodes(out) {
		x.Attrs = slices.Concat(x.Attrs)
		x.Kids = slices.Concat(x.Kids)
	}
	return out[0]
}

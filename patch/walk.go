package patch

import (
	"iter"
	"slices"

	"taffrail/api"
)

// nodes goes over a tree, each node ahead of its kids, with its level (n's own is 1). It keeps a row of what is left: a tree may be deeper than calls should nest.
func nodes(n api.Node) iter.Seq2[*api.Node, int] {
	return func(yield func(*api.Node, int) bool) {
		left := [][]api.Node{{n}} // of each level, what is left
		for len(left) > 0 {
			level := len(left)
			rest := left[level-1]
			if len(rest) == 0 {
				left = left[:level-1]
				continue
			}
			left[level-1] = rest[1:]
			if !yield(&rest[0], level) {
				return
			}
			left = append(left, rest[0].Kids)
		}
	}
}

// alone is n without its kids, with another number, and as new memory.
func alone(n api.Node, id int) api.Node {
	n.Id = id
	n.Attrs = slices.Concat(n.Attrs)
	n.Kids = nil
	return n
}

package patch

import (
	"iter"

	"taffrail/api"
)

// item is a node that is worked on, and its place.
type item struct {
	node          api.Node // without kids: these are linked
	up            *item
	ahead, behind *item
	first, last   *item
}

// kids goes over the nodes that stand in x.
func (x *item) kids() iter.Seq[*item] {
	return func(yield func(*item) bool) {
		for kid := x.first; kid != nil; kid = kid.behind {
			if !yield(kid) {
				return
			}
		}
	}
}

// kid is x's kid of known's number. Mostly that is known itself; a tree that has a number twice may have it elsewhere first.
func (x *item) kid(known *item) *item {
	if known.up == x {
		return known
	}
	for kid := range x.kids() {
		if kid.node.Id == known.node.Id {
			return kid
		}
	}
	panic(api.ErrArg)
}

// hang puts x, which stands nowhere yet, within up, ahead of before; without that as the last one.
func (x *item) hang(up, before *item) {
	x.up, x.behind = up, before
	if before == nil {
		x.ahead, up.last = up.last, x
	} else {
		x.ahead, before.ahead = before.ahead, x
	}
	if x.ahead == nil {
		up.first = x
	} else {
		x.ahead.behind = x
	}
}

// cut takes x, with all below it, out.
func (x *item) cut() {
	if x.ahead == nil {
		x.up.first = x.behind
	} else {
		x.ahead.behind = x.behind
	}
	if x.behind == nil {
		x.up.last = x.ahead
	} else {
		x.behind.ahead = x.ahead
	}
}

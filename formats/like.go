package formats

import (
	"slices"

	"taffrail/api"
	"taffrail/attrs"
)

// marker is the number of all markers.
const marker = -1

// isMarker needs no look at the name: nothing else is taken in with a number below 0.
func isMarker(e api.El) bool { return e.Id < 0 }

// numbered gives what tells whether an element has that number.
func numbered(id int) func(api.El) bool {
	return func(e api.El) bool { return e.Id == id }
}

// like tells whether two elements differ in nothing but their numbers and the order of their attributes.
func like(a, b api.El) bool {
	return a.Space == b.Space && a.Name == b.Name && attrs.Same(a.Attrs, b.Attrs)
}

// alike gives the places of those behind the last marker that are like e, rising.
func (l *List) alike(e api.El) []int {
	var out []int
	for at := l.row.last(isMarker) + 1; at < len(l.row); at++ {
		if like(l.row[at], e) {
			out = append(out, at)
		}
	}
	return out
}

// stands gives what tells whether an element needn't be made anew: a marker, or one of open. Mostly the first one asked about is near open's end; open's numbers are gathered only if it isn't in it.
func stands(open []api.El) func(api.El) bool {
	var ids map[int]struct{}
	return func(e api.El) bool {
		if isMarker(e) {
			return true
		}
		if ids == nil {
			if row[api.El](open).last(numbered(e.Id)) != none {
				return true
			}
			ids = numbers(open)
		}
		_, in := ids[e.Id]
		return in
	}
}

// numbers gives the numbers of all of l.
func numbers(l []api.El) map[int]struct{} {
	set := make(map[int]struct{}, len(l))
	for _, e := range l {
		set[e.Id] = struct{}{}
	}
	return set
}

// copied is e as new memory.
func copied(e api.El) api.El {
	e.Attrs = slices.Concat(e.Attrs)
	return e
}

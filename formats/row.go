package formats

import "slices"

// none is the place of no element.
const none = -1

// row is things in order, which are looked for from the last on.
type row[T any] []T

// last gives the place of the last one that fits; none without one.
func (r row[T]) last(fits func(T) bool) int {
	for at := len(r) - 1; at >= 0; at-- {
		if fits(r[at]) {
			return at
		}
	}
	return none
}

// behind gives all places behind one, rising; behind none, all.
func (r row[T]) behind(at int) []int {
	var out []int
	for next := at + 1; next < len(r); next++ {
		out = append(out, next)
	}
	return out
}

// each gives what is made of each one, in order.
func (r row[T]) each(made func(T) T) []T {
	out := make([]T, len(r))
	for i, x := range r {
		out[i] = made(x)
	}
	return out
}

// put puts x at a place, ahead of what stands there.
func (r *row[T]) put(at int, x T) { *r = slices.Insert(*r, at, x) }

// take takes out what stands at a place.
func (r *row[T]) take(at int) { *r = slices.Delete(*r, at, at+1) }

// cut takes out all but the first left ones.
func (r *row[T]) cut(left int) { *r = slices.Delete(*r, left, len(*r)) }

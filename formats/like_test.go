package formats

import (
	"testing"

	"taffrail/api"
)

// pushed is a list of these, numbered by their places.
func pushed(l ...api.El) *List {
	out := New()
	for i, e := range l {
		e.Id = i
		out.Push(e)
	}
	return out
}

func TestArk(t *testing.T) {
	for _, c := range []struct {
		names string
		want  []int
	}{
		{"b", []int{0}},
		{"b b", []int{0, 1}},
		{"b b b", []int{0, 1, 2}},
		{"b b b b", []int{1, 2, 3}},
		{"b b b b b", []int{2, 3, 4}},
		{"b i b u b s b", []int{1, 2, 3, 4, 5, 6}},
		{"i b b b b", []int{0, 2, 3, 4}},
		{"b b i i b i b", []int{1, 2, 3, 4, 5, 6}},
		{"b i b i b i b i", []int{2, 3, 4, 5, 6, 7}},
		{"b b b | b", []int{0, 1, 2, -1, 3}},
		{"b b | b b", []int{0, 1, -1, 2, 3}},
		{"b b | b b b", []int{0, 1, -1, 2, 3, 4}},
		{"b b | b b b b", []int{0, 1, -1, 3, 4, 5}},
		{"b | b | b b b b", []int{0, -1, 1, -1, 3, 4, 5}},
		{"b b b |", []int{0, 1, 2, -1}},
		{"| b b b b", []int{-1, 1, 2, 3}},
	} {
		l := list(c.names)
		checkIds(t, l, c.want...)
	}
	if api.Ark != 3 {
		t.Error("the rows above are those of an Ark of 3")
	}
}

// What Clear takes out counts no more, and what stood ahead of the marker does again.
func TestArkBehindClear(t *testing.T) {
	l := list("b b b | b b b")
	l.Clear()
	l.Push(api.El{Id: 9, Name: "b"})
	checkIds(t, l, 1, 2, 9)
}

func TestUnlike(t *testing.T) {
	b := api.El{Name: "b", Attrs: []api.Attr{{Name: "x", Value: "1"}, {Name: "y", Value: "2"}}}
	with := func(l ...api.Attr) api.El { return api.El{Name: "b", Attrs: l} }
	x, y := b.Attrs[0], b.Attrs[1]
	for what, e := range map[string]api.El{
		"space":         {Space: api.Svg, Name: b.Name, Attrs: b.Attrs},
		"name":          {Name: "i", Attrs: b.Attrs},
		"name's case":   {Name: "B", Attrs: b.Attrs},
		"one's name":    with(x, api.Attr{Name: "z", Value: "2"}),
		"one's value":   with(x, api.Attr{Name: "y", Value: "3"}),
		"no value":      with(x, api.Attr{Name: "y"}),
		"turned about":  with(api.Attr{Name: "x", Value: "2"}, api.Attr{Name: "y", Value: "1"}),
		"one less":      with(x),
		"the other":     with(y),
		"one more":      with(x, y, api.Attr{Name: "z"}),
		"one twice":     with(x, x),
		"no attributes": with(),
	} {
		for place := range 3 {
			row := []api.El{b, b, b, b}
			row[place] = e
			checkIds(t, pushed(row...), 0, 1, 2, 3)
			checkIds(t, pushed(append(row, b)...), firstLeft(place)...)
		}
		l := pushed(b, b, b, e)
		checkIds(t, l, 0, 1, 2, 3)
		checkIds(t, pushed(e, e, e, b, e), 1, 2, 3, 4)
		if t.Failed() {
			t.Fatal("differs in: " + what)
		}
	}
}

// firstLeft is what is left of five, one of which, at a place, is not like the others.
func firstLeft(place int) []int {
	if place == 0 {
		return []int{0, 2, 3, 4}
	}
	return []int{1, 2, 3, 4}
}

// The order of attributes plays no part, nor does whether an empty list is nil.
func TestLike(t *testing.T) {
	x, y, z := api.Attr{Name: "x", Value: "1"}, api.Attr{Name: "y", Value: "2"}, api.Attr{Name: "z"}
	el := func(l ...api.Attr) api.El { return api.El{Name: "b", Attrs: l} }
	checkIds(t, pushed(el(x, y, z), el(z, y, x), el(y, z, x), el(x, z, y)), 1, 2, 3)
	checkIds(t, pushed(el(), el([]api.Attr{}...), api.El{Name: "b", Attrs: []api.Attr{}}, el()), 1, 2, 3)
	checkIds(t, pushed(el(x, x, y), el(x, y, y), el(y, x, x), el(y, y, x)), 1, 2, 3) // each stands in the others, as often as it may
	checkIds(t, pushed(api.El{Space: 7}, api.El{Space: 7}, api.El{Space: 7}, api.El{Space: 7}), 1, 2, 3)
}

// Numbers play no part in what is like what.
func TestLikeOfOneNumber(t *testing.T) {
	l := New()
	for range 5 {
		l.Push(api.El{Id: 4, Name: "b"})
	}
	checkIds(t, l, 4, 4, 4)
	l.Push(api.El{Id: 4, Name: "i"})
	checkIds(t, l, 4, 4, 4, 4)
	checkNames(t, l, "b b b i")
}

// The element that is driven out is told by its place, not by its number.
func TestDrivenOutByPlace(t *testing.T) {
	l := New()
	for i, n := range []string{"b", "i", "b", "u", "b"} {
		l.Push(api.El{Id: 4 + i%2, Name: n})
	}
	l.Push(api.El{Id: 4, Name: "b"})
	checkNames(t, l, "i b u b b")
	checkIds(t, l, 5, 4, 5, 4, 4)
}

package formats

import (
	"math"
	"slices"
	"testing"

	"taffrail/api"
)

func TestClosed(t *testing.T) {
	for _, c := range []struct {
		what       string
		list, open []int
		want       []int
	}{
		{"empty list", nil, []int{1, 2}, nil},
		{"all closed", []int{4, 5, 6}, []int{1, 2}, []int{0, 1, 2}},
		{"the last is a marker", []int{4, 5, -1}, nil, nil},
		{"only a marker", []int{-1}, nil, nil},
		{"markers at the end", []int{4, -1, -1}, []int{1}, nil},
		{"the last is open", []int{4, 5, 6}, []int{1, 6}, nil},
		{"the last is open, at open's beginning", []int{4, 5, 6}, []int{6, 1, 2}, nil},
		{"all are open", []int{4, 5, 6}, []int{4, 5, 6}, nil},
		{"a marker at the beginning", []int{-1, 4, 5}, nil, []int{1, 2}},
		{"a marker in the middle", []int{4, 5, -1, 6, 7}, []int{1}, []int{3, 4}},
		{"markers in the middle", []int{4, -1, 5, -1, 6}, []int{1}, []int{4}},
		{"an open one in the middle", []int{4, 5, 6, 7}, []int{1, 5}, []int{2, 3}},
		{"an open one at the beginning", []int{4, 5, 6}, []int{4}, []int{1, 2}},
		{"open ones apart", []int{4, 5, 6, 7, 8}, []int{6, 4}, []int{3, 4}},
		{"a marker ahead of an open one", []int{4, -1, 5, 6, 7}, []int{5}, []int{3, 4}},
		{"an open one ahead of a marker", []int{4, 5, -1, 6, 7}, []int{5}, []int{3, 4}},
		{"open is empty", []int{4, 5}, nil, []int{0, 1}},
		{"one number often", []int{4, 5, 4, 6}, []int{4}, []int{3}},
		{"one number often, the last open", []int{4, 5, 4}, []int{4}, nil},
		{"numbers below 0 in open", []int{4, -1, 5, 6}, []int{-1, -2, math.MinInt}, []int{2, 3}},
		{"numbers below 0 in open, no marker", []int{4, 5}, []int{-1}, []int{0, 1}},
		{"all numbers", []int{0, math.MaxInt, 1}, []int{math.MaxInt}, []int{2}},
	} {
		l := numberedList(c.list...)
		was := ids(l)
		for range 2 {
			if got := l.Closed(open(c.open...)); !slices.Equal(got, c.want) {
				t.Errorf("%s: %v", c.what, got)
			}
		}
		checkIds(t, l, was...)
	}
	if c := numberedList(4, 5).Closed([]api.El{}); !slices.Equal(c, []int{0, 1}) {
		t.Errorf("open of length 0: %v", c)
	}
}

// Numbers alone are held against each other.
func TestClosedByNumber(t *testing.T) {
	b := api.El{Id: 4, Name: "b", Attrs: []api.Attr{{Name: "x"}}}
	l := New()
	l.Push(b)
	alike := b
	alike.Id = 5
	if c := l.Closed([]api.El{alike}); !slices.Equal(c, []int{0}) {
		t.Errorf("one that is like it: %v", c)
	}
	if c := l.Closed([]api.El{{Id: 4, Space: api.Svg, Name: "q"}}); len(c) != 0 {
		t.Errorf("one of its number: %v", c)
	}
}

// Places are those of All, also when much has gone and come.
func TestClosedBehindChanges(t *testing.T) {
	l := list("b i u s")
	l.Remove(1)
	l.InsertBehind(0, api.El{Id: 9, Name: "q"})
	l.Replace(2, api.El{Id: 8, Name: "r"})
	checkIds(t, l, 0, 9, 8, 3)
	for _, c := range []struct{ open, want []int }{
		{nil, []int{0, 1, 2, 3}}, {[]int{0}, []int{1, 2, 3}}, {[]int{9}, []int{2, 3}}, {[]int{8}, []int{3}}, {[]int{3}, nil}, {[]int{1, 2}, []int{0, 1, 2, 3}},
	} {
		if got := l.Closed(open(c.open...)); !slices.Equal(got, c.want) {
			t.Errorf("open %v: %v, want %v", c.open, got, c.want)
		}
	}
	l.Mark()
	l.Push(api.El{Id: 7, Name: "b"})
	if got := l.Closed(open(3)); !slices.Equal(got, []int{5}) {
		t.Errorf("%v", got)
	}
	l.Clear()
	if got := l.Closed(open(9)); !slices.Equal(got, []int{2, 3}) {
		t.Errorf("%v", got)
	}
}

package formats

import (
	"math"
	"slices"
	"strings"
	"testing"

	"taffrail/api"
)

// list is a list of Html elements of these names, numbered from 0 on; | is a marker, which has no number.
func list(names string) *List {
	l := New()
	next := 0
	for _, n := range strings.Fields(names) {
		if n == "|" {
			l.Mark()
			continue
		}
		l.Push(api.El{Id: next, Name: n})
		next++
	}
	return l
}

// numberedList is a list of elements of these numbers, none like another; -1 is a marker.
func numberedList(ids ...int) *List {
	l := New()
	for i, id := range ids {
		if id == -1 {
			l.Mark()
			continue
		}
		l.Push(api.El{Id: id, Name: string(rune('a' + i))})
	}
	return l
}

// open is a row of open elements of these numbers.
func open(ids ...int) []api.El {
	var out []api.El
	for _, id := range ids {
		out = append(out, api.El{Id: id, Name: "open"})
	}
	return out
}

// names are those of all in l, with a blank between; | is a marker.
func names(l *List) string {
	var out []string
	for _, e := range l.All() {
		if e.Id == -1 {
			e.Name += "|"
		}
		out = append(out, e.Name)
	}
	return strings.Join(out, " ")
}

func ids(l *List) []int {
	var out []int
	for _, e := range l.All() {
		out = append(out, e.Id)
	}
	return out
}

func same(a, b api.El) bool {
	return a.Id == b.Id && a.Space == b.Space && a.Name == b.Name && slices.Equal(a.Attrs, b.Attrs)
}

func checkNames(t *testing.T, l *List, want string) {
	t.Helper()
	if got := names(l); got != want {
		t.Errorf("the list is %q, want %q", got, want)
	}
}

func checkIds(t *testing.T, l *List, want ...int) {
	t.Helper()
	if got := ids(l); !slices.Equal(got, want) {
		t.Errorf("the list is %v, want %v", got, want)
	}
}

// checkEmpty asks all that an empty list answers, and what does nothing to it.
func checkEmpty(t *testing.T, l *List) {
	t.Helper()
	l.Clear()
	l.Push(api.El{Id: -1, Name: "b"})
	l.Push(api.El{Id: math.MinInt})
	for _, name := range []string{"", "b"} {
		if e, ok := l.Last(name); ok || !same(e, api.El{}) {
			t.Errorf("Last(%q): %+v, %v", name, e, ok)
		}
	}
	for _, id := range []int{0, 1, -1, -2, math.MinInt, math.MaxInt} {
		if l.Remove(id) || l.Replace(id, api.El{Id: 1}) || l.InsertBehind(id, api.El{Id: 1}) || l.Find(id) != -1 {
			t.Errorf("Remove, Replace, InsertBehind or Find of %d", id)
		}
	}
	if len(l.Closed(nil)) != 0 || len(l.Closed([]api.El{})) != 0 || len(l.Closed(open(0, -1))) != 0 {
		t.Error("Closed")
	}
	if a := l.All(); len(a) != 0 {
		t.Errorf("All: %v", a)
	}
}

func TestExamples(t *testing.T) {
	l := list("b b b b")
	checkIds(t, l, 1, 2, 3)
	l = list("b i")
	if c := l.Closed(open(7, 8)); !slices.Equal(c, []int{0, 1}) {
		t.Errorf("open has neither: %v", c)
	}
	if c := l.Closed(open(0)); !slices.Equal(c, []int{1}) {
		t.Errorf("open has b: %v", c)
	}
}

func TestEmpty(t *testing.T) {
	checkEmpty(t, New())
	checkEmpty(t, New().Copy())
	checkEmpty(t, &List{})
	l := list("b")
	l.Remove(0)
	checkEmpty(t, l)
	l = list("b | i")
	l.Clear()
	l.Clear()
	checkEmpty(t, l)
	l.Push(api.El{Id: 4, Name: "u"})
	checkIds(t, l, 4)
	if a, b := New(), New(); a == nil || a == b {
		t.Error("New")
	}
}

func TestNil(t *testing.T) {
	var l *List
	l.Push(api.El{Id: 1, Name: "b"})
	l.Mark()
	checkEmpty(t, l)
	if l.Copy() != nil {
		t.Error("Copy of nil")
	}
}

// What stands in the list of new New() is nothing, whatever other lists hold.
func TestListsAreApart(t *testing.T) {
	a, b := New(), New()
	a.Push(api.El{Id: 1, Name: "b"})
	b.Mark()
	checkNames(t, a, "b")
	checkNames(t, b, "|")
	checkEmpty(t, New())
}

func TestPushBelowZero(t *testing.T) {
	l := list("b b b | b b b")
	for _, id := range []int{-1, -2, math.MinInt} {
		l.Push(api.El{Id: id, Name: "b"})
		l.Push(api.El{Id: id})
		l.Push(api.El{Id: id, Space: api.Svg, Name: "x", Attrs: []api.Attr{{Name: "y"}}})
	}
	checkIds(t, l, 0, 1, 2, -1, 3, 4, 5)
	l.Push(api.El{Id: math.MaxInt, Name: "i"})
	checkIds(t, l, 0, 1, 2, -1, 3, 4, 5, math.MaxInt)
}

func TestMark(t *testing.T) {
	l := list("| b | |")
	checkNames(t, l, "| b | |")
	for _, at := range []int{0, 2, 3} {
		if e := l.All()[at]; !same(e, api.El{Id: -1}) {
			t.Errorf("the marker at %d: %+v", at, e)
		}
	}
}

func TestClear(t *testing.T) {
	for _, c := range [][2]string{
		{"b", ""}, {"b i u", ""}, {"|", ""}, {"| b", ""}, {"| b i", ""},
		{"b |", "b"}, {"b i | u", "b i"}, {"b | i | u s", "b | i"}, {"b | i |", "b | i"}, {"| |", "|"}, {"b | | i", "b |"},
	} {
		l := list(c[0])
		l.Clear()
		if got := names(l); got != c[1] {
			t.Errorf("%q, Clear: %q, want %q", c[0], got, c[1])
		}
		l.Push(api.El{Id: 50, Name: "q"})
		if got := names(l); got != strings.TrimSpace(c[1]+" q") {
			t.Errorf("%q, Clear, Push: %q", c[0], got)
		}
	}
	l := list("b | i | u")
	l.Clear()
	l.Clear()
	checkNames(t, l, "b")
	l.Clear()
	checkNames(t, l, "")
}

func TestLast(t *testing.T) {
	for _, c := range []struct {
		names, name string
		id          int
	}{
		{"b", "b", 0}, {"b i", "b", 0}, {"b i b u", "b", 2}, {"b i", "u", -1}, {"b |", "b", -1}, {"b | i", "b", -1},
		{"b | i", "i", 1}, {"b | b", "b", 1}, {"b | b | i", "b", -1}, {"i | b i b", "b", 3}, {"i | b i b", "i", 2},
		{"b", "", -1}, {"|", "", -1}, {"b | i |", "", -1}, {"b", "B", -1}, {"B", "b", -1}, {"big", "b", -1}, {"b", "big", -1},
	} {
		l := list(c.names)
		e, ok := l.Last(c.name)
		if ok != (c.id >= 0) || !ok && !same(e, api.El{}) || ok && (e.Id != c.id || e.Name != c.name) {
			t.Errorf("%q: Last(%q): %+v, %v", c.names, c.name, e, ok)
		}
		checkNames(t, l, c.names)
	}
}

// The name alone is asked for, and all of the element told; also the name that no letter makes.
func TestLastTellsAll(t *testing.T) {
	l := New()
	l.Push(api.El{Id: 3, Space: api.Svg, Name: "a", Attrs: []api.Attr{{Name: "x", Value: "y"}}})
	l.Push(api.El{Id: 5, Space: api.Math})
	if e, ok := l.Last("a"); !ok || !same(e, api.El{Id: 3, Space: api.Svg, Name: "a", Attrs: []api.Attr{{Name: "x", Value: "y"}}}) {
		t.Errorf("%+v, %v", e, ok)
	}
	if e, ok := l.Last(""); !ok || !same(e, api.El{Id: 5, Space: api.Math}) {
		t.Errorf("%+v, %v", e, ok)
	}
	l.Mark()
	if e, ok := l.Last(""); ok || !same(e, api.El{}) {
		t.Errorf("a marker: %+v, %v", e, ok)
	}
}

func TestRemove(t *testing.T) {
	for _, c := range []struct {
		ids  []int
		id   int
		want []int
		ok   bool
	}{
		{[]int{4}, 4, nil, true},
		{[]int{4, 5, 6}, 4, []int{5, 6}, true},
		{[]int{4, 5, 6}, 5, []int{4, 6}, true},
		{[]int{4, 5, 6}, 6, []int{4, 5}, true},
		{[]int{4, 5, 4, 6, 4, 7}, 4, []int{4, 5, 4, 6, 7}, true},
		{[]int{4, 5}, 6, []int{4, 5}, false},
		{[]int{4, -1, 5}, 4, []int{-1, 5}, true},
		{[]int{4, -1, 5, -1}, 5, []int{4, -1, -1}, true},
		{[]int{4, -1, 5}, -1, []int{4, -1, 5}, false},
		{[]int{4, -1, 5}, -2, []int{4, -1, 5}, false},
		{[]int{-1}, math.MinInt, []int{-1}, false},
		{[]int{0, 1}, 0, []int{1}, true},
		{[]int{math.MaxInt}, math.MaxInt, nil, true},
	} {
		l := numberedList(c.ids...)
		if ok := l.Remove(c.id); ok != c.ok {
			t.Errorf("%v: Remove(%d): %v", c.ids, c.id, ok)
		}
		checkIds(t, l, c.want...)
	}
	l := numberedList(4, 5, 4)
	if !l.Remove(4) || !l.Remove(4) || l.Remove(4) {
		t.Error("one that stands twice goes twice")
	}
	checkIds(t, l, 5)
}

// The last one of a number is the one that goes, told apart by its name.
func TestLastOfNumber(t *testing.T) {
	fresh := func() *List { return numberedList(4, 5, 4, -1, 4, 6) }
	l := fresh()
	l.Remove(4)
	checkNames(t, l, "a b c | f")
	l = fresh()
	l.Replace(4, api.El{Id: 9, Name: "new"})
	checkNames(t, l, "a b c | new f")
	l = fresh()
	l.InsertBehind(4, api.El{Id: 9, Name: "new"})
	checkNames(t, l, "a b c | e new f")
	if at := fresh().Find(4); at != 4 {
		t.Errorf("Find: %d", at)
	}
}

func TestReplace(t *testing.T) {
	e := api.El{Id: 9, Space: api.Math, Name: "new", Attrs: []api.Attr{{Name: "x", Value: "y"}}}
	for _, c := range []struct {
		ids  []int
		id   int
		want []int
		ok   bool
	}{
		{[]int{4}, 4, []int{9}, true},
		{[]int{4, 5, 6}, 4, []int{9, 5, 6}, true},
		{[]int{4, 5, 6}, 6, []int{4, 5, 9}, true},
		{[]int{4, 5, 4, 6}, 4, []int{4, 5, 9, 6}, true},
		{[]int{9, 4}, 4, []int{9, 9}, true},
		{[]int{9}, 9, []int{9}, true},
		{[]int{4, 5}, 6, []int{4, 5}, false},
		{[]int{-1, 4, -1}, 4, []int{-1, 9, -1}, true},
		{[]int{4, -1}, -1, []int{4, -1}, false},
		{[]int{4, -1}, math.MinInt, []int{4, -1}, false},
	} {
		l := numberedList(c.ids...)
		if ok := l.Replace(c.id, e); ok != c.ok {
			t.Errorf("%v: Replace(%d): %v", c.ids, c.id, ok)
		}
		checkIds(t, l, c.want...)
		if at := l.Find(9); c.ok && !same(l.All()[at], e) {
			t.Errorf("%+v", l.All()[at])
		}
	}
}

func TestInsertBehind(t *testing.T) {
	e := api.El{Id: 9, Space: api.Svg, Name: "new", Attrs: []api.Attr{{Name: "x", Value: "y"}}}
	for _, c := range []struct {
		ids  []int
		id   int
		want []int
		ok   bool
	}{
		{[]int{4}, 4, []int{4, 9}, true},
		{[]int{4, 5, 6}, 4, []int{4, 9, 5, 6}, true},
		{[]int{4, 5, 6}, 6, []int{4, 5, 6, 9}, true},
		{[]int{4, 5, 4, 6}, 4, []int{4, 5, 4, 9, 6}, true},
		{[]int{4, -1, 5}, 4, []int{4, 9, -1, 5}, true},
		{[]int{4, 5}, 6, []int{4, 5}, false},
		{[]int{4, -1}, -1, []int{4, -1}, false},
		{[]int{4, -1}, math.MinInt, []int{4, -1}, false},
	} {
		l := numberedList(c.ids...)
		if ok := l.InsertBehind(c.id, e); ok != c.ok {
			t.Errorf("%v: InsertBehind(%d): %v", c.ids, c.id, ok)
		}
		checkIds(t, l, c.want...)
		if at := l.Find(9); c.ok && !same(l.All()[at], e) {
			t.Errorf("%+v", l.All()[at])
		}
	}
	l := numberedList(4, 9)
	l.InsertBehind(4, e)
	checkIds(t, l, 4, 9, 9)
	checkNames(t, l, "a new b")
}

// What is put in a place, or behind one, drives none out: only Push counts.
func TestOnlyPushCounts(t *testing.T) {
	l := list("b b b")
	for id := 10; id < 13; id++ {
		l.InsertBehind(1, api.El{Id: id, Name: "b"})
	}
	l.Replace(0, api.El{Id: 20, Name: "b"})
	checkIds(t, l, 20, 1, 12, 11, 10, 2)
	l.Push(api.El{Id: 30, Name: "b"})
	checkIds(t, l, 1, 12, 11, 10, 2, 30)
	l.Push(api.El{Id: 31, Name: "b"})
	checkIds(t, l, 12, 11, 10, 2, 30, 31)
}

// A number below 0 is that of no element: nothing is changed by one.
func TestPutBelowZero(t *testing.T) {
	l := numberedList(4, -1, 5)
	for _, e := range []api.El{{Id: -1}, {Id: -1, Name: "b"}, {Id: math.MinInt, Name: "b"}} {
		l.Replace(4, e)
		l.InsertBehind(4, e)
		l.Replace(-1, e)
		l.InsertBehind(-1, e)
	}
	checkIds(t, l, 4, -1, 5)
}

func TestFind(t *testing.T) {
	l := numberedList(4, 5, -1, 4, -1, 0, math.MaxInt)
	for id, want := range map[int]int{4: 3, 5: 1, 0: 5, math.MaxInt: 6, 1: -1, 6: -1, -1: -1, -2: -1, math.MinInt: -1} {
		if got := l.Find(id); got != want {
			t.Errorf("Find(%d): %d, want %d", id, got, want)
		}
	}
	if l := list("| |"); l.Find(-1) != -1 {
		t.Error("Find(-1) where markers stand")
	}
}

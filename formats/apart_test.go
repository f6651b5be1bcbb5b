package formats

import (
	"slices"
	"testing"

	"taffrail/api"
)

// full is a list whose elements all have attributes.
func full() *List {
	l := New()
	for i, n := range []string{"b", "i", "u", "s", "a"} {
		if i == 2 {
			l.Mark()
		}
		l.Push(api.El{Id: i, Name: n, Attrs: []api.Attr{{Name: "id", Value: n}, {Name: "class", Value: "x"}}})
	}
	return l
}

func spoil(l []api.Attr) {
	l = l[:cap(l)]
	for i := range l {
		l[i] = api.Attr{Name: "spoilt", Value: "spoilt"}
	}
}

func spoilAll(l []api.El) {
	l = l[:cap(l)]
	for i := range l {
		spoil(l[i].Attrs)
		l[i] = api.El{Id: 99, Space: 9, Name: "spoilt"}
	}
}

// deep is l as it is now, as new memory.
func deep(l []api.El) []api.El {
	out := slices.Clone(l)
	for i := range out {
		out[i].Attrs = slices.Clone(out[i].Attrs)
	}
	return out
}

func checkSame(t *testing.T, what string, got, want []api.El) {
	t.Helper()
	if !slices.EqualFunc(got, want, same) {
		t.Errorf("%s: %+v, want %+v", what, got, want)
	}
}

// changes are all calls that change something of a full list.
func changes() map[string]func(l *List) {
	like := api.El{Id: 9, Name: "new", Attrs: []api.Attr{{Name: "q"}}}
	return map[string]func(l *List){
		"Push": func(l *List) { l.Push(like) },
		"Push until one goes": func(l *List) {
			for range 4 {
				l.Push(like)
			}
		},
		"Mark":              func(l *List) { l.Mark() },
		"Clear":             func(l *List) { l.Clear() },
		"Clear, Push":       func(l *List) { l.Clear(); l.Push(like) },
		"Remove":            func(l *List) { l.Remove(1) },
		"Remove last":       func(l *List) { l.Remove(4) },
		"Replace":           func(l *List) { l.Replace(3, like) },
		"InsertBehind":      func(l *List) { l.InsertBehind(0, like) },
		"InsertBehind last": func(l *List) { l.InsertBehind(4, like) },
		"move":              func(l *List) { l.Remove(3); l.InsertBehind(4, api.El{Id: 3, Name: "s"}) },
	}
}

func TestCopyGoesOnApart(t *testing.T) {
	for name, change := range changes() {
		l := full()
		was := l.All()
		c := l.Copy()
		if c == l {
			t.Fatal("the copy is the list itself")
		}
		checkSame(t, "the copy", c.All(), was)
		change(c)
		checkSame(t, name+" of the copy changed what it was copied of", l.All(), was)
		if slices.EqualFunc(c.All(), was, same) {
			t.Errorf("%s did nothing", name)
		}
		d := l.Copy()
		change(l)
		checkSame(t, name+" changed the copy", d.All(), was)
		checkSame(t, name+": the two went on differently", l.All(), c.All())
	}
}

// T7: whatever was done ahead, the copy goes on as the list it was copied of, also when both go on by turns.
func TestCopyGoesOnAlike(t *testing.T) {
	for first, a1 := range changes() {
		for second, a2 := range changes() {
			for third, a3 := range changes() {
				l, alone := full(), full()
				a1(l)
				c := l.Copy()
				a2(l)
				a3(c)
				a2(c)
				a3(l)
				a1(alone)
				a2(alone)
				a3(alone)
				checkSame(t, first+", "+second+", "+third, l.All(), alone.All())
				alone = full()
				a1(alone)
				a3(alone)
				a2(alone)
				checkSame(t, first+", "+third+", "+second+" of the copy", c.All(), alone.All())
			}
		}
	}
}

func TestCopyOfCopy(t *testing.T) {
	l := full()
	c := l.Copy()
	d := c.Copy().Copy()
	for i := range 40 {
		l.Push(api.El{Id: 100 + i, Space: i})
		c.Push(api.El{Id: 200 + i, Space: i})
		d.Push(api.El{Id: 300 + i, Space: i})
	}
	for i := range 40 {
		if a, b, e := l.All()[6+i].Id, c.All()[6+i].Id, d.All()[6+i].Id; a != 100+i || b != 200+i || e != 300+i {
			t.Fatalf("%d %d %d", a, b, e)
		}
	}
	if e := New().Copy(); e == nil || len(e.All()) != 0 {
		t.Error("Copy of an empty list")
	}
}

// Writing into what was handed out changes no list, and no other answer.
func TestHandedOut(t *testing.T) {
	want := full().All()
	for name, ask := range map[string]func(l *List) []api.El{
		"All":  func(l *List) []api.El { return l.All() },
		"Last": func(l *List) []api.El { e, _ := l.Last("a"); return []api.El{e} },
		"another of Last": func(l *List) []api.El {
			e, _ := l.Last("s")
			return []api.El{e}
		},
	} {
		l := full()
		c := l.Copy()
		all := l.All()
		spoilAll(ask(l))
		checkSame(t, name+": the list", l.All(), want)
		checkSame(t, name+": the copy", c.All(), want)
		checkSame(t, name+": an answer ahead of it", all, want)
		if e, ok := l.Last("a"); !ok || !same(e, want[5]) {
			t.Errorf("%s: Last: %+v", name, e)
		}
		l.Push(api.El{Id: 9})
		l.Remove(9)
		checkSame(t, name+": the list behind a Push", l.All(), want)
	}
}

func TestPlacesHandedOut(t *testing.T) {
	l, row := full(), open(2)
	a, b := l.Closed(row), l.Closed(row)
	if !slices.Equal(a, []int{4, 5}) {
		t.Fatalf("%v", a)
	}
	for i := range a[:cap(a)] {
		a[:cap(a)][i] = 77
	}
	if c := l.Closed(row); !slices.Equal(b, []int{4, 5}) || !slices.Equal(c, []int{4, 5}) {
		t.Errorf("%v %v", b, c)
	}
	for name, change := range changes() {
		m := full()
		p := m.Closed(row)
		change(m)
		m.Closed(nil)
		if !slices.Equal(p, []int{4, 5}) {
			t.Errorf("%s changed what Closed gave: %v", name, p)
		}
	}
}

// Two answers share nothing, nor do two lists of one answer.
func TestAnswersShareNothing(t *testing.T) {
	want := full().All()
	l := full()
	a, b := l.All(), l.All()
	last, _ := l.Last("a")
	again, _ := l.Last("a")
	spoilAll(a)
	spoil(last.Attrs)
	checkSame(t, "All", b, want)
	if !same(again, want[5]) {
		t.Errorf("Last: %+v", again)
	}
	all := l.All()
	spoil(all[1].Attrs)
	_ = append(all[1].Attrs, api.Attr{Name: "spoilt"})
	_ = append(all[3].Attrs[:1], api.Attr{Name: "spoilt"})
	for i := range all {
		if i != 1 && i != 3 && !same(all[i], want[i]) {
			t.Errorf("lists of one answer share memory: %+v", all[i])
		}
	}
}

// What later calls do changes nothing of what was handed out.
func TestHandedOutStays(t *testing.T) {
	for name, change := range changes() {
		l := full()
		all := l.All()
		last, _ := l.Last("s")
		was, lastWas := deep(all), deep([]api.El{last})[0]
		change(l)
		l.Push(api.El{Id: 8, Name: "p", Attrs: []api.Attr{{Name: "other"}}})
		checkSame(t, name+" changed what All gave", all, was)
		if !same(last, lastWas) {
			t.Errorf("%s changed what Last gave: %+v", name, last)
		}
	}
}

// What is handed in is not kept, and not changed, nor what lies behind its end.
func TestHandedIn(t *testing.T) {
	row := []api.Attr{{Name: "b", Value: "2"}, {Name: "a", Value: "1"}, {Name: "behind", Value: "3"}}
	was := slices.Clone(row)
	l := New()
	for id := range 5 { // also where likes are looked for, and one goes
		l.Push(api.El{Id: id, Name: "p", Attrs: row[:2]})
	}
	l.InsertBehind(4, api.El{Id: 5, Name: "q", Attrs: row[:2]})
	l.Replace(3, api.El{Id: 6, Name: "r", Attrs: row[1:2]})
	c := l.Copy()
	want := deep(l.All())
	spoilAll(c.All())
	if !slices.Equal(row, was) {
		t.Errorf("what was handed in is changed: %v", row)
	}
	spoil(row)
	checkSame(t, "what was handed in is kept", l.All(), want)
	checkSame(t, "what was handed in is kept by the copy", c.All(), want)
	if a := l.All(); len(a) != 4 || a[0].Attrs[0] != was[0] || a[0].Attrs[1] != was[1] || len(a[1].Attrs) != 1 {
		t.Errorf("%+v", a)
	}
}

func TestOpenHandedIn(t *testing.T) {
	l, row := full(), deep(full().All())[:2]
	was := deep(row[:cap(row)])
	if c := l.Closed(row); !slices.Equal(c, []int{3, 4, 5}) {
		t.Errorf("%v", c)
	}
	checkSame(t, "open is changed", row[:cap(row)], was)
	row[0].Id, row[1].Id = 3, 4
	if c := l.Closed(row[:1]); !slices.Equal(c, []int{5}) {
		t.Errorf("%v", c)
	}
	if c := l.Closed(nil); !slices.Equal(c, []int{3, 4, 5}) {
		t.Errorf("open of another call is kept: %v", c)
	}
	spoilAll(row)
	checkSame(t, "the list", l.All(), full().All())
}

// An element that was told goes in again, and stays apart.
func TestElementsGoRound(t *testing.T) {
	l := full()
	e, _ := l.Last("a")
	l.Push(e)
	l.InsertBehind(0, e)
	l.Replace(3, e)
	spoil(e.Attrs)
	for _, at := range []int{1, 5, 6, 7} {
		if got := l.All()[at]; got.Name != "a" || got.Attrs[0].Value != "a" {
			t.Errorf("at %d: %+v", at, got)
		}
	}
}

// An empty list of attributes is the same as none.
func TestEmptyAttrs(t *testing.T) {
	l := New()
	l.Push(api.El{Id: 1, Attrs: []api.Attr{}})
	l.Push(api.El{Id: 2, Attrs: nil})
	l.Push(api.El{Id: 3, Attrs: make([]api.Attr, 0, 4)})
	for _, e := range l.All() {
		if len(e.Attrs) != 0 {
			t.Errorf("%+v", e)
		}
	}
	l.Push(api.El{Id: 4})
	checkIds(t, l, 2, 3, 4)
}

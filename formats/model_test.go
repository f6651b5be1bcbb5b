package formats

import (
	"slices"
	"testing"

	"taffrail/api"
)

// model is a list as the chapter's words say it; no call of its shares memory with another.
type model []api.El

// find gives the place of the last one of that number.
func (m model) find(id int) int {
	at := -1
	for i, e := range m {
		if id >= 0 && e.Id == id {
			at = i
		}
	}
	return at
}

// tail is how many stand behind the last marker.
func (m model) tail() int {
	n := 0
	for n < len(m) && m[len(m)-1-n].Id != -1 {
		n++
	}
	return n
}

// modelSame is chapter 8's Same in plain loops.
func modelSame(a, b []api.Attr) bool {
	each := func(a, b []api.Attr) bool {
		for _, x := range a {
			if !slices.Contains(b, x) {
				return false
			}
		}
		return true
	}
	return len(a) == len(b) && each(a, b) && each(b, a)
}

func (m model) push(e api.El) model {
	if e.Id < 0 {
		return m
	}
	count, first := 0, 0
	for n := range m.tail() {
		at := len(m) - 1 - n
		if x := m[at]; x.Space == e.Space && x.Name == e.Name && modelSame(x.Attrs, e.Attrs) {
			count++
			first = at
		}
	}
	if count >= 3 {
		m = slices.Concat(m[:first], m[first+1:])
	}
	return slices.Concat(m, model{e})
}

func (m model) clear() model {
	n := m.tail()
	if n == len(m) {
		return nil
	}
	return slices.Clone(m[:len(m)-n-1])
}

func (m model) lastOf(name string) (api.El, bool) {
	for n := range m.tail() {
		if e := m[len(m)-1-n]; e.Name == name {
			return e, true
		}
	}
	return api.El{}, false
}

func (m model) closed(open []api.El) []int {
	stays := func(e api.El) bool {
		for _, o := range open {
			if o.Id == e.Id {
				return true
			}
		}
		return e.Id == -1
	}
	var out []int
	for i := len(m) - 1; i >= 0 && !stays(m[i]); i-- {
		out = append(out, i)
	}
	slices.Reverse(out)
	return out
}

// dice are numbers by a rule that jumps about.
type dice uint32

func (d *dice) next(most int) int {
	*d = *d*1664525 + 1013904223
	return int(*d>>8) % most
}

func (d *dice) name() string { return []string{"b", "b", "i", "u", ""}[d.next(5)] }

func (d *dice) el() api.El {
	e := api.El{Id: d.next(14) - 1, Name: d.name(), Attrs: make([]api.Attr, max(0, d.next(5)-2))}
	if d.next(5) == 0 {
		e.Space = d.next(5) - 1
	}
	for i := range e.Attrs {
		e.Attrs[i] = api.Attr{Name: []string{"x", "y"}[d.next(2)], Value: []string{"", "1"}[d.next(2)]}
	}
	return e
}

func (d *dice) open() []api.El {
	var out []api.El
	for range d.next(4) {
		out = append(out, d.el())
	}
	return out
}

// step does one call, chosen by d, to both.
func step(t *testing.T, l *List, m model, d *dice) model {
	t.Helper()
	id, e := d.next(15)-2, d.el()
	e.Id = max(e.Id, 0)
	at := m.find(id)
	switch d.next(20) {
	case 0:
		l.Clear()
		m = m.clear()
	case 1, 2:
		l.Mark()
		m = slices.Concat(m, model{{Id: -1}})
	case 3, 4:
		if l.Remove(id) != (at >= 0) {
			t.Fatalf("Remove(%d)", id)
		}
		if at >= 0 {
			m = slices.Concat(m[:at], m[at+1:])
		}
	case 5, 6:
		if l.Replace(id, e) != (at >= 0) {
			t.Fatalf("Replace(%d)", id)
		}
		if at >= 0 {
			m = slices.Concat(m[:at], model{e}, m[at+1:])
		}
	case 7, 8:
		if l.InsertBehind(id, e) != (at >= 0) {
			t.Fatalf("InsertBehind(%d)", id)
		}
		if at >= 0 {
			m = slices.Concat(m[:at+1], model{e}, m[at+1:])
		}
	default:
		e.Id = d.next(14) - 1
		l.Push(e)
		m = m.push(e)
	}
	return m
}

func checkModel(t *testing.T, l *List, m model, d *dice) {
	t.Helper()
	if all := l.All(); !slices.EqualFunc(all, m, same) {
		t.Fatalf("All: %+v, not %+v", all, m)
	}
	for id := -2; id < 14; id++ {
		if got, want := l.Find(id), m.find(id); got != want {
			t.Fatalf("Find(%d): %d, not %d", id, got, want)
		}
	}
	for _, name := range []string{"b", "i", "u", "", "q"} {
		got, ok := l.Last(name)
		if want, has := m.lastOf(name); ok != has || !same(got, want) {
			t.Fatalf("Last(%q): %+v, %v", name, got, ok)
		}
	}
	for range 3 {
		row := d.open()
		if got, want := l.Closed(row), m.closed(row); !slices.Equal(got, want) {
			t.Fatalf("Closed(%+v): %v, not %v; the list is %+v", row, got, want, m)
		}
	}
}

// Long rows of calls; now and then a copy goes on instead, and what it was copied of goes on, too.
func TestAgainstModel(t *testing.T) {
	d := dice(7)
	for range 80 {
		l, m := New(), model(nil)
		for range 200 {
			m = step(t, l, m, &d)
			if d.next(20) == 0 {
				c, cm := l.Copy(), m
				for range 4 {
					cm = step(t, c, cm, &d)
					m = step(t, l, m, &d)
				}
				checkModel(t, c, cm, &d)
				if d.next(2) == 0 {
					checkModel(t, l, m, &d)
					l, m = c, cm
				}
			}
			checkModel(t, l, m, &d)
		}
	}
}

// All small lists of a few elements and markers, and all open ones of their numbers.
func TestAllSmallLists(t *testing.T) {
	few := []api.El{{Id: -1}, {Id: 0, Name: "b"}, {Id: 1, Name: "b"}, {Id: 2, Name: "i"}}
	var grow func(l *List, m model)
	grow = func(l *List, m model) {
		if all := l.All(); !slices.EqualFunc(all, m, same) {
			t.Fatalf("%+v, not %+v", all, m)
		}
		for set := range 8 {
			var row []api.El
			for id := range 3 {
				if set>>id&1 == 1 {
					row = append(row, api.El{Id: id})
				}
			}
			if got, want := l.Closed(row), m.closed(row); !slices.Equal(got, want) {
				t.Fatalf("%+v: Closed(%+v): %v", m, row, got)
			}
		}
		c := l.Copy()
		c.Clear()
		if all := c.All(); !slices.EqualFunc(all, m.clear(), same) {
			t.Fatalf("%+v, Clear: %+v", m, all)
		}
		if len(m) == 6 {
			return
		}
		for _, e := range few {
			c := l.Copy()
			if e.Id < 0 {
				c.Mark()
				grow(c, slices.Concat(m, model{e}))
				continue
			}
			c.Push(e)
			if p := m.push(e); len(p) > len(m) {
				grow(c, p)
			} else if all := c.All(); !slices.EqualFunc(all, p, same) {
				t.Fatalf("%+v, Push(%+v): %+v", m, e, all)
			}
		}
	}
	grow(New(), nil)
}

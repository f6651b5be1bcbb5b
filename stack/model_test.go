package stack

import (
	"slices"
	"testing"

	"taffrail/api"
)

// model is a stack as the chapter's words say it; no call of its shares memory with another.
type model []api.El

func (m model) find(id int) int {
	at := -1
	for i, e := range m {
		if e.Id == id {
			at = i
		}
	}
	return at
}

func (m model) has(scope int, row []string) bool {
	for i := range m {
		e := m[len(m)-1-i]
		if e.Space == api.Html && slices.Contains(row, e.Name) {
			return true
		}
		if asksEnd(scope, e.Space, e.Name) {
			return false
		}
	}
	return false
}

// pop gives m without its last n elements, and those, the last first.
func (m model) pop(n int) (model, []api.El) {
	var out []api.El
	for i := range n {
		out = append(out, m[len(m)-1-i])
	}
	return slices.Clone(m[:len(m)-n]), out
}

func (m model) implied(but string) int {
	n := 0
	for n < len(m) {
		e := m[len(m)-1-n]
		if e.Space != api.Html || e.Name == but || !listed(impliedNames, e.Name) {
			break
		}
		n++
	}
	return n
}

func (m model) until(row []string) int {
	for n := range len(m) {
		e := m[len(m)-1-n]
		if e.Space == api.Html && slices.Contains(row, e.Name) {
			return n + 1
		}
	}
	return len(m)
}

// dice are numbers by a rule that jumps about.
type dice uint32

func (d *dice) next(most int) int {
	*d = *d*1664525 + 1013904223
	return int(*d>>8) % most
}

func (d *dice) name() string {
	l := []string{"html", "table", "td", "button", "ol", "p", "p", "li", "dd", "rt", "b", "title", "mi", "desc", ""}
	return l[d.next(len(l))]
}

func (d *dice) row() []string {
	var out []string
	for range d.next(4) {
		out = append(out, d.name())
	}
	return out
}

func (d *dice) el() api.El {
	e := api.El{Id: d.next(12) - 2, Name: d.name(), Attrs: make([]api.Attr, d.next(3))}
	if d.next(3) == 0 {
		e.Space = d.next(5) - 1
	}
	for i := range e.Attrs {
		e.Attrs[i].Value = d.name()
	}
	return e
}

// step does one call, chosen by d, to both.
func step(t *testing.T, s *Stack, m model, d *dice) model {
	t.Helper()
	id, e, row := d.next(14)-3, d.el(), d.row()
	at := m.find(id)
	var want, got []api.El
	switch d.next(16) {
	case 0:
		if len(m) > 0 {
			m, want = m.pop(1)
		}
		if e, ok := s.Pop(); ok {
			got = append(got, e)
		}
	case 1:
		but := d.name()
		m, want = m.pop(m.implied(but))
		got = s.Implied(but)
	case 2:
		m, want = m.pop(m.until(row))
		got = s.Until(row...)
	case 3, 4:
		if s.Remove(id) != (at >= 0) {
			t.Fatalf("Remove(%d)", id)
		}
		if at >= 0 {
			m = slices.Concat(m[:at], m[at+1:])
		}
	case 5, 6:
		if s.Above(id, e) != (at >= 0) {
			t.Fatalf("Above(%d)", id)
		}
		if at >= 0 {
			m = slices.Concat(m[:at+1], model{e}, m[at+1:])
		}
	default:
		s.Push(e)
		m = slices.Concat(m, model{e})
	}
	checkSame(t, "what was popped", got, want)
	return m
}

func checkModel(t *testing.T, s *Stack, m model, d *dice) {
	t.Helper()
	checkSame(t, "All", s.All(), m)
	for id := -3; id < 12; id++ {
		if got, want := s.Find(id), m.find(id); got != want {
			t.Fatalf("Find(%d): %d, not %d", id, got, want)
		}
	}
	for scope := -1; scope < 6; scope++ {
		row := d.row()
		if got, want := s.Has(scope, row...), m.has(scope, row); got != want {
			t.Fatalf("Has(%d, %q): %v; the stack is %+v", scope, row, got, m)
		}
	}
	e, ok := s.Top()
	if ok != (len(m) > 0) || ok && !same(e, m[len(m)-1]) || !ok && !same(e, api.El{}) {
		t.Fatalf("Top: %+v, %v", e, ok)
	}
}

// Long rows of calls; now and then a copy goes on instead, and what it was copied of goes on, too.
func TestAgainstModel(t *testing.T) {
	d := dice(7)
	for range 60 {
		s, m := New(), model(nil)
		for range 300 {
			m = step(t, s, m, &d)
			if d.next(20) == 0 {
				c, cm := s.Copy(), m
				for range 4 {
					cm = step(t, c, cm, &d)
					m = step(t, s, m, &d)
				}
				checkModel(t, c, cm, &d)
				if d.next(2) == 0 {
					checkModel(t, s, m, &d)
					s, m = c, cm
				}
			}
			checkModel(t, s, m, &d)
		}
	}
}

// Each name, and each two names, in each scope of all small stacks of a few elements.
func TestAllSmallStacks(t *testing.T) {
	few := []api.El{
		{Name: "p"}, {Name: "li"}, {Name: "html"}, {Name: "table"}, {Name: "td"}, {Name: "ul"}, {Name: "button"}, {Name: "b"},
		{Space: api.Svg, Name: "title"}, {Space: api.Math, Name: "mi"}, {Space: api.Svg, Name: "p"}, {Space: api.Math, Name: "table"},
	}
	var grow func(m model)
	grow = func(m model) {
		s := New()
		for i, e := range m {
			e.Id = i
			s.Push(e)
		}
		for _, a := range few {
			for scope := range 5 {
				for _, row := range [][]string{{a.Name}, {a.Name, "b"}, {"q", a.Name}} {
					if got := s.Has(scope, row...); got != m.has(scope, row) {
						t.Fatalf("%+v: Has(%d, %q): %v", m, scope, row, got)
					}
				}
			}
			if l := s.Copy().Implied(a.Name); len(l) != m.implied(a.Name) {
				t.Fatalf("%+v: Implied(%s): %+v", m, a.Name, l)
			}
			if l := s.Copy().Until(a.Name); len(l) != m.until([]string{a.Name}) || len(l) > 0 && l[0].Id != len(m)-1 {
				t.Fatalf("%+v: Until(%s): %+v", m, a.Name, l)
			}
		}
		if len(m) < 3 {
			for _, e := range few {
				grow(slices.Concat(m, model{e}))
			}
		}
	}
	grow(nil)
}

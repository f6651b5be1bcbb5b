package stack

import (
	"slices"
	"testing"

	"taffrail/api"
)

// full is a stack whose elements all have attributes.
func full() *Stack {
	s := New()
	for i, n := range []string{"html", "p", "li", "rt", "dd"} {
		s.Push(api.El{Id: i, Name: n, Attrs: []api.Attr{{Name: "id", Value: n}, {Name: "class", Value: "x"}}})
	}
	return s
}

func spoil(l []api.Attr) {
	l = l[:cap(l)]
	for i := range l {
		l[i] = api.Attr{Name: "spoilt", Value: "spoilt"}
	}
}

func spoilAll(l []api.El) {
	l = l[:cap(l)]
	for i := range l {
		spoil(l[i].Attrs)
		l[i] = api.El{Id: -9, Space: 9, Name: "spoilt"}
	}
}

// deep is l as it is now, as new memory.
func deep(l []api.El) []api.El {
	out := slices.Clone(l)
	for i := range out {
		out[i].Attrs = slices.Clone(out[i].Attrs)
	}
	return out
}

func checkSame(t *testing.T, what string, got, want []api.El) {
	t.Helper()
	if !slices.EqualFunc(got, want, same) {
		t.Errorf("%s: %+v, want %+v", what, got, want)
	}
}

// changes are all calls that change something of a full stack.
func changes() map[string]func(s *Stack) {
	return map[string]func(s *Stack){
		"Push":       func(s *Stack) { s.Push(api.El{Id: 9, Name: "new", Attrs: []api.Attr{{Name: "q"}}}) },
		"Push twice": func(s *Stack) { s.Push(api.El{Id: 9}); s.Push(api.El{Id: 8}) },
		"Pop":        func(s *Stack) { s.Pop() },
		"Pop, Push":  func(s *Stack) { s.Pop(); s.Push(api.El{Id: 9, Name: "new"}) },
		"Implied":    func(s *Stack) { s.Implied("li") },
		"Until":      func(s *Stack) { s.Until("p") },
		"Until all":  func(s *Stack) { s.Until() },
		"Remove":     func(s *Stack) { s.Remove(1) },
		"Remove top": func(s *Stack) { s.Remove(4) },
		"Above":      func(s *Stack) { s.Above(1, api.El{Id: 9, Name: "new"}) },
		"Above top":  func(s *Stack) { s.Above(4, api.El{Id: 9, Name: "new"}) },
		"move":       func(s *Stack) { s.Remove(2); s.Above(3, api.El{Id: 2, Name: "li"}) },
	}
}

func TestCopyGoesOnApart(t *testing.T) {
	for name, change := range changes() {
		s := full()
		was := s.All()
		c := s.Copy()
		if c == s {
			t.Fatal("the copy is the stack itself")
		}
		checkSame(t, "the copy", c.All(), was)
		change(c)
		checkSame(t, name+" of the copy changed what it was copied of", s.All(), was)
		if slices.EqualFunc(c.All(), was, same) {
			t.Errorf("%s did nothing", name)
		}
		d := s.Copy()
		change(s)
		checkSame(t, name+" changed the copy", d.All(), was)
		checkSame(t, name+": the two went on differently", s.All(), c.All())
	}
}

// T7: whatever was done ahead, the copy goes on as the stack it was copied of, also when both go on by turns.
func TestCopyGoesOnAlike(t *testing.T) {
	for first, a1 := range changes() {
		for second, a2 := range changes() {
			for third, a3 := range changes() {
				s, alone := full(), full()
				a1(s)
				c := s.Copy()
				a2(s)
				a3(c)
				a2(c)
				a3(s)
				a1(alone)
				a2(alone)
				a3(alone)
				checkSame(t, first+", "+second+", "+third, s.All(), alone.All())
				alone = full()
				a1(alone)
				a3(alone)
				a2(alone)
				checkSame(t, first+", "+third+", "+second+" of the copy", c.All(), alone.All())
			}
		}
	}
}

func TestCopyOfCopy(t *testing.T) {
	s := full()
	c := s.Copy()
	d := c.Copy().Copy()
	for i := range 40 {
		s.Push(api.El{Id: 100 + i})
		c.Push(api.El{Id: 200 + i})
		d.Push(api.El{Id: 300 + i})
	}
	for i := range 40 {
		if a, b, e := s.All()[5+i].Id, c.All()[5+i].Id, d.All()[5+i].Id; a != 100+i || b != 200+i || e != 300+i {
			t.Fatalf("%d %d %d", a, b, e)
		}
	}
	if e := New().Copy(); e == nil || len(e.All()) != 0 {
		t.Error("Copy of an empty stack")
	}
}

// Writing into what was handed out changes no stack, and no other answer.
func TestHandedOut(t *testing.T) {
	want := full().All()
	backward := deep(want)
	slices.Reverse(backward)
	for name, ask := range map[string]func(s *Stack) []api.El{
		"All":     func(s *Stack) []api.El { return s.All() },
		"Top":     func(s *Stack) []api.El { e, _ := s.Top(); return []api.El{e} },
		"Pop":     func(s *Stack) []api.El { e, _ := s.Pop(); return []api.El{e} },
		"Implied": func(s *Stack) []api.El { return s.Implied("p") },
		"Until":   func(s *Stack) []api.El { return s.Until("p") },
		"all":     func(s *Stack) []api.El { return s.Until() },
	} {
		s := full()
		c := s.Copy()
		all, top := s.All(), deep(want[4:])
		got := ask(s)
		left := deep(s.All())
		spoilAll(got)
		checkSame(t, name+": the stack", s.All(), left)
		checkSame(t, name+": the copy", c.All(), want)
		checkSame(t, name+": an answer ahead of it", all, want)
		if e, _ := c.Top(); !same(e, top[0]) {
			t.Errorf("%s: Top of the copy: %+v", name, e)
		}
		checkSame(t, name+": what the copy pops", c.Until(), backward)
	}
}

// Two answers share nothing, nor do two lists of one answer.
func TestAnswersShareNothing(t *testing.T) {
	want := full().All()
	s := full()
	a, b := s.All(), s.All()
	top, _ := s.Top()
	again, _ := s.Top()
	spoilAll(a)
	spoil(top.Attrs)
	checkSame(t, "All", b, want)
	if !same(again, want[4]) {
		t.Errorf("Top: %+v", again)
	}
	for name, l := range map[string][]api.El{"All": s.All(), "Until": s.Copy().Until(), "Implied": s.Copy().Implied("")} {
		was := deep(l)
		spoil(l[1].Attrs)
		_ = append(l[1].Attrs, api.Attr{Name: "spoilt"})
		_ = append(l[2].Attrs[:1], api.Attr{Name: "spoilt"})
		for i := range l {
			if i != 1 && i != 2 && !same(l[i], was[i]) {
				t.Errorf("%s: lists of one answer share memory: %+v", name, l[i])
			}
		}
	}
}

// What later calls do changes nothing of what was handed out.
func TestHandedOutStays(t *testing.T) {
	for name, change := range changes() {
		s := full()
		all := s.All()
		top, _ := s.Top()
		was, topWas := deep(all), deep([]api.El{top})[0]
		change(s)
		checkSame(t, name+" changed what All gave", all, was)
		if !same(top, topWas) {
			t.Errorf("%s changed what Top gave: %+v", name, top)
		}
	}
	for name, ask := range map[string]func(s *Stack) []api.El{
		"Implied": func(s *Stack) []api.El { return s.Implied("p") },
		"Until":   func(s *Stack) []api.El { return s.Until("li") },
		"Pop":     func(s *Stack) []api.El { e, _ := s.Pop(); return []api.El{e} },
	} {
		s := full()
		l := ask(s)
		was := deep(l)
		for i := range 9 {
			s.Push(api.El{Id: 50 + i, Name: "p", Attrs: []api.Attr{{Name: "other"}}})
		}
		s.Remove(1)
		s.Above(0, api.El{Id: 3, Name: "q"})
		more := s.Until("html")
		spoilAll(more)
		checkSame(t, "what "+name+" gave", l, was)
	}
}

// What is handed in is not kept, and not changed, nor what lies behind its end.
func TestHandedIn(t *testing.T) {
	row := []api.Attr{{Name: "a", Value: "1"}, {Name: "b", Value: "2"}, {Name: "behind", Value: "3"}}
	was := slices.Clone(row)
	s := New()
	s.Push(api.El{Id: 1, Name: "p", Attrs: row[:2]})
	s.Above(1, api.El{Id: 2, Name: "q", Attrs: row[:2]})
	s.Above(1, api.El{Id: 3, Name: "r", Attrs: row[1:2]})
	c := s.Copy()
	want := deep(s.All())
	spoilAll(c.All())
	if !slices.Equal(row, was) {
		t.Errorf("what was handed in is changed: %v", row)
	}
	spoil(row)
	checkSame(t, "what was handed in is kept", s.All(), want)
	checkSame(t, "what was handed in is kept by the copy", c.All(), want)
	if l := s.All(); l[0].Attrs[0] != was[0] || l[0].Attrs[1] != was[1] || len(l[1].Attrs) != 1 {
		t.Errorf("%+v", l)
	}
	checkSame(t, "what is popped", s.Until(), []api.El{want[2], want[1], want[0]})
}

func TestNamesHandedIn(t *testing.T) {
	row := []string{"th", "td", "html"}
	s := html("html body p b")
	if s.Has(api.ScopeAny, row[:2]...) {
		t.Error("Has")
	}
	row[0] = "body"
	if s.Has(api.ScopeAny, "p") != true || s.Has(api.ScopeAny, "td") {
		t.Error("names of another call are kept")
	}
	if l := s.Copy().Until(row[:2]...); len(l) != 3 {
		t.Errorf("Until: %v", l)
	}
	if !slices.Equal(row, []string{"body", "td", "html"}) {
		t.Errorf("the row of names is changed: %v", row)
	}
}

// An element that was told goes in again, and stays apart.
func TestElementsGoRound(t *testing.T) {
	s := full()
	e, _ := s.Top()
	s.Push(e)
	s.Above(0, e)
	spoil(e.Attrs)
	for _, at := range []int{1, 5, 6} {
		if got := s.All()[at]; got.Name != "dd" || got.Attrs[0].Value != "dd" {
			t.Errorf("at %d: %+v", at, got)
		}
	}
	popped, _ := s.Pop()
	s.Push(popped)
	spoil(popped.Attrs)
	if top, _ := s.Top(); top.Attrs[0].Value != "dd" {
		t.Errorf("Top: %+v", top)
	}
}

// An empty list of attributes is the same as none.
func TestEmptyAttrs(t *testing.T) {
	s := New()
	s.Push(api.El{Id: 1, Attrs: []api.Attr{}})
	s.Push(api.El{Id: 2, Attrs: nil})
	s.Push(api.El{Id: 3, Attrs: make([]api.Attr, 0, 4)})
	for _, e := range s.All() {
		if len(e.Attrs) != 0 {
			t.Errorf("%+v", e)
		}
	}
	if s.Find(1) != 0 || len(s.Copy().Until()) != 3 {
		t.Error("elements without attributes")
	}
}

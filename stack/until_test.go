package stack

import (
	"slices"
	"strings"
	"testing"

	"taffrail/api"
	"taffrail/vocab"
)

const impliedNames = "dd dt li optgroup option p rb rp rt rtc"

// backward are the names of a list with blanks, the last first.
func backward(list string) string {
	l := strings.Fields(list)
	slices.Reverse(l)
	return strings.Join(l, " ")
}

func TestImpliedEachName(t *testing.T) {
	for _, name := range strings.Fields(impliedNames) {
		if !vocab.Implied(name) {
			t.Fatalf("chapter 7 does not say so of %s", name)
		}
		s := html("html b " + name)
		if l := s.Implied(name); len(l) != 0 {
			t.Errorf("Implied(%s) pops %v", name, l)
		}
		checkNames(t, s, "html b "+name)
		if l := s.Implied(""); names(l) != name || l[0].Id != 2 {
			t.Errorf("Implied of no name pops %v, not %s", l, name)
		}
		checkNames(t, s, "html b")
		s = html("html b " + name + " " + name)
		if l := s.Implied("b"); names(l) != name+" "+name || l[0].Id != 3 || l[1].Id != 2 {
			t.Errorf("Implied(b) pops %v", l)
		}
		for _, but := range strings.Fields(impliedNames) {
			s := html("html " + but + " " + name)
			l, want := s.Implied(but), name
			if but == name {
				want = ""
			}
			if names(l) != want || len(s.All())+len(l) != 3 {
				t.Errorf("%s %s: Implied of the first pops %v", but, name, l)
			}
		}
	}
}

func TestImplied(t *testing.T) {
	for _, x := range []struct{ stack, but, popped, left string }{
		{"html p li rt dd", "li", "dd rt", "html p li"},
		{"html p li rt dd", "", "dd rt li p", "html"},
		{"html p li rt dd", "dd", "", "html p li rt dd"},
		{"html p li rt dd", "p", "dd rt li", "html p"},
		{"html p b dd", "", "dd", "html p b"},
		{"html p b", "", "", "html p b"},
		{"html p b", "b", "", "html p b"},
		{"html p b dd", "html", "dd", "html p b"},
		{"html p ruby rb rtc rp rt", "rtc", "rt rp", "html p ruby rb rtc"},
		{"html select optgroup option", "optgroup", "option", "html select optgroup"},
		{"p p p", "", "p p p", ""},
		{"p p p", "P", "p p p", ""},
		{"p P", "", "", "p P"},
		{"html td", "", "", "html td"},
		{impliedNames, "", backward(impliedNames), ""},
		{impliedNames, "dd", backward(impliedNames[3:]), "dd"},
	} {
		s := html(x.stack)
		if l := s.Implied(x.but); names(l) != x.popped {
			t.Errorf("%s: Implied(%s) pops %v", x.stack, x.but, l)
		}
		checkNames(t, s, x.left)
		if l := s.Implied(x.but); len(l) != 0 {
			t.Errorf("%s: Implied(%s) pops more: %v", x.stack, x.but, l)
		}
	}
}

func TestImpliedOfAnotherSpace(t *testing.T) {
	for _, name := range strings.Fields(impliedNames) {
		for _, space := range spaces[1:] {
			s := html("html p")
			s.Push(api.El{Id: 2, Space: space, Name: name})
			if l := s.Implied(""); len(l) != 0 || s.Find(2) != 2 {
				t.Errorf("%s of space %d is popped: %v", name, space, l)
			}
			s.Push(api.El{Id: 3, Name: name})
			if l := s.Implied("p"); name != "p" && (len(l) != 1 || l[0].Id != 3 || s.Find(2) != 2) {
				t.Errorf("%s above %s of space %d: %v", name, name, space, l)
			}
		}
	}
}

func TestUntil(t *testing.T) {
	for _, x := range []struct{ stack, names, popped, left string }{
		{"html body p b i", "p", "i b p", "html body"},
		{"html body p b i", "i", "i", "html body p b"},
		{"html body p b i", "html", "i b p body html", ""},
		{"html body p b i", "q", "i b p body html", ""},
		{"html body p b i", "", "i b p body html", ""},
		{"html p p b p b", "p", "b p", "html p p b"},
		{"html p p b p b", "b", "b", "html p p b p"},
		{"html h1 b h2 i", "h1 h2 h3 h4 h5 h6", "i h2", "html h1 b"},
		{"html h2 b h1 i", "h1 h2 h3 h4 h5 h6", "i h1", "html h2 b"},
		{"html td b", "td th", "b td", "html"},
		{"html td b", "th td td", "b td", "html"},
		{"html td b", "th q", "b td html", ""},
		{"html table td p", "table", "p td table", "html"}, // no scope ends it
		{"html P p\x00 b", "p", "b p\x00 P html", ""},
		{"p", "p", "p", ""},
		{"p", "q", "p", ""},
	} {
		s := html(x.stack)
		if l := s.Until(strings.Fields(x.names)...); names(l) != x.popped {
			t.Errorf("%s: Until(%s) pops %v", x.stack, x.names, l)
		}
		checkNames(t, s, x.left)
	}
}

func TestUntilAgain(t *testing.T) {
	s := html("html p b p i")
	for _, x := range [][2]string{{"i p", "html p b"}, {"b p", "html"}, {"html", ""}, {"", ""}} {
		if l := s.Until("p"); names(l) != x[0] {
			t.Errorf("Until pops %v, not %s", l, x[0])
		}
		checkNames(t, s, x[1])
	}
}

func TestUntilOfNoName(t *testing.T) {
	for _, stack := range []string{"", "html", "html body p b"} {
		for _, none := range [][]string{nil, {}} {
			s := html(stack)
			if l := s.Until(none...); names(l) != backward(stack) {
				t.Errorf("%s: Until of no name pops %v", stack, l)
			}
			checkEmpty(t, s)
		}
	}
	s := html("html")
	s.Push(api.El{Id: 1})
	s.Push(api.El{Id: 2, Name: "b"})
	if l := s.Until(""); len(l) != 2 || l[1].Id != 1 {
		t.Errorf("Until of the name of no bytes pops %v", l)
	}
}

func TestUntilOfAnotherSpace(t *testing.T) {
	for _, space := range spaces[1:] {
		s := html("html p b")
		s.Push(api.El{Id: 3, Space: space, Name: "p"})
		s.Push(api.El{Id: 4, Name: "i"})
		c := s.Copy()
		if l := s.Until("p"); names(l) != "i p b p" || l[1].Space != space || l[3].Id != 1 {
			t.Errorf("space %d: Until(p) pops %v", space, l)
		}
		checkNames(t, s, "html")
		c.Remove(1)
		if l := c.Until("p"); names(l) != "i p b html" {
			t.Errorf("space %d alone: Until(p) pops %v", space, l)
		}
		checkEmpty(t, c)
	}
}

// All fields are told of what is popped.
func TestPoppedWhole(t *testing.T) {
	l := []api.El{
		{Id: 7, Name: "p", Attrs: []api.Attr{{Name: "a", Value: "1"}}},
		{Id: -4, Name: "li", Attrs: []api.Attr{{Name: "b", Value: "2"}, {Name: "c"}}},
		{Id: 7, Name: "dd"},
	}
	s := New()
	for _, e := range l {
		s.Push(e)
	}
	c := s.Copy()
	want := slices.Clone(l)
	slices.Reverse(want)
	if got := s.Until("p"); !slices.EqualFunc(got, want, same) {
		t.Errorf("Until: %+v", got)
	}
	if got := c.Implied(""); !slices.EqualFunc(got, want, same) {
		t.Errorf("Implied: %+v", got)
	}
}

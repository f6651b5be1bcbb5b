package stack

import (
	"math"
	"slices"
	"strings"
	"testing"

	"taffrail/api"
)

// html is a stack of Html elements of these names, numbered from 0 on.
func html(names string) *Stack {
	s := New()
	for i, n := range strings.Fields(names) {
		s.Push(api.El{Id: i, Name: n})
	}
	return s
}

// numbered is a stack of elements of these numbers, whose names tell their places.
func numbered(ids ...int) *Stack {
	s := New()
	for i, id := range ids {
		s.Push(api.El{Id: id, Name: string(rune('a' + i))})
	}
	return s
}

// names are those of l, with a blank between.
func names(l []api.El) string {
	var out []string
	for _, e := range l {
		out = append(out, e.Name)
	}
	return strings.Join(out, " ")
}

func same(a, b api.El) bool {
	return a.Id == b.Id && a.Space == b.Space && a.Name == b.Name && slices.Equal(a.Attrs, b.Attrs)
}

func checkNames(t *testing.T, s *Stack, want string) {
	t.Helper()
	if got := names(s.All()); got != want {
		t.Errorf("the stack is %q, want %q", got, want)
	}
}

// checkEmpty asks all that an empty stack answers.
func checkEmpty(t *testing.T, s *Stack) {
	t.Helper()
	if e, ok := s.Pop(); ok || !same(e, api.El{}) {
		t.Errorf("Pop: %+v, %v", e, ok)
	}
	if e, ok := s.Top(); ok || !same(e, api.El{}) {
		t.Errorf("Top: %+v, %v", e, ok)
	}
	for _, id := range []int{0, 1, -1, math.MinInt, math.MaxInt} {
		if s.Remove(id) || s.Find(id) != -1 || s.Above(id, api.El{Id: id, Name: "p"}) {
			t.Errorf("Remove, Find or Above of %d", id)
		}
	}
	for _, scope := range []int{api.ScopeAny, api.ScopeList, api.ScopeButton, api.ScopeTable, -1, 4, math.MinInt, math.MaxInt} {
		if s.Has(scope) || s.Has(scope, "") || s.Has(scope, "html", "p") {
			t.Errorf("Has in scope %d", scope)
		}
	}
	if l := s.Implied(""); len(l) != 0 {
		t.Errorf("Implied: %v", l)
	}
	if len(s.Until()) != 0 || len(s.Until("")) != 0 || len(s.Until("html", "p")) != 0 {
		t.Error("Until")
	}
	if l := s.All(); len(l) != 0 {
		t.Errorf("All: %v", l)
	}
}

func TestExamples(t *testing.T) {
	if !html("html body p b").Has(api.ScopeButton, "p") {
		t.Error("html body p b has no p")
	}
	s := html("html body p button")
	if s.Has(api.ScopeButton, "p") || !s.Has(api.ScopeAny, "p") {
		t.Error("html body p button")
	}
}

func TestEmpty(t *testing.T) {
	s := New()
	checkEmpty(t, s)
	checkEmpty(t, s.Copy())
	s.Push(api.El{Id: 3, Name: "p"})
	checkNames(t, s, "p")
	s.Pop()
	checkEmpty(t, s)
	s.Push(api.El{Id: 3, Name: "p"})
	s.Remove(3)
	checkEmpty(t, s)
	s = html("html p li")
	s.Until()
	checkEmpty(t, s)
	s = html("p li")
	s.Implied("")
	checkEmpty(t, s)
	if New() == New() {
		t.Error("New gives one stack twice")
	}
}

// A stack that no call gave has no elements, and goes on as one that is new.
func TestZeroStack(t *testing.T) {
	var s Stack
	checkEmpty(t, &s)
	checkEmpty(t, s.Copy())
	s.Push(api.El{Name: "p"})
	checkNames(t, &s, "p")
}

func TestNil(t *testing.T) {
	var s *Stack
	s.Push(api.El{Id: 1, Name: "p"})
	checkEmpty(t, s)
	if c := s.Copy(); c != nil {
		t.Errorf("Copy: %v", c)
	}
}

// One by one, so that no call leans on what another has made of the nil stack.
func TestNilEachCall(t *testing.T) {
	nothing := func() *Stack { return nil }
	if nothing().Find(0) != -1 || nothing().Find(-1) != -1 || nothing().Find(5) != -1 {
		t.Error("Find of nil is -1")
	}
	if nothing().Above(0, api.El{}) || nothing().Above(-1, api.El{Id: -1}) || nothing().Remove(0) || nothing().Remove(-1) {
		t.Error("Above, Remove")
	}
	if nothing().Has(api.ScopeAny) || nothing().Has(7, "html") || nothing().Until() != nil || nothing().Implied("p") != nil || nothing().All() != nil {
		t.Error("Has, Until, Implied, All")
	}
	if e, ok := nothing().Top(); ok || !same(e, api.El{}) {
		t.Error("Top")
	}
	if e, ok := nothing().Pop(); ok || !same(e, api.El{}) {
		t.Error("Pop")
	}
}

func TestPopAndTop(t *testing.T) {
	s := New()
	els := []api.El{
		{Id: 4, Name: "html"},
		{Id: -1, Space: api.Svg, Name: "a", Attrs: []api.Attr{{Name: "href", Value: "1"}, {Name: "x", Value: ""}}},
		{Id: 4, Space: 9, Name: "", Attrs: []api.Attr{}},
		{Id: math.MinInt, Space: math.MaxInt, Name: "P"},
		{},
	}
	for i, e := range els {
		s.Push(e)
		if top, ok := s.Top(); !ok || !same(top, e) {
			t.Errorf("Top behind Push of %+v: %+v, %v", e, top, ok)
		}
		if len(s.All()) != i+1 {
			t.Errorf("%d elements", len(s.All()))
		}
	}
	if !slices.EqualFunc(s.All(), els, same) {
		t.Errorf("All: %+v", s.All())
	}
	for i, e := range slices.Backward(els) {
		top, ok1 := s.Top()
		again, ok2 := s.Top()
		popped, ok3 := s.Pop()
		if !ok1 || !ok2 || !ok3 || !same(top, e) || !same(again, e) || !same(popped, e) {
			t.Errorf("%+v: Top %+v, then %+v, Pop %+v", e, top, again, popped)
		}
		if !slices.EqualFunc(s.All(), els[:i], same) {
			t.Errorf("All behind Pop: %+v", s.All())
		}
	}
	checkEmpty(t, s)
}

func TestPushBehindPop(t *testing.T) {
	s := html("html body p")
	s.Pop()
	s.Push(api.El{Id: 7, Name: "b"})
	s.Push(api.El{Id: 8, Name: "i"})
	s.Pop()
	checkNames(t, s, "html body b")
	if top, _ := s.Top(); top.Id != 7 {
		t.Errorf("Top: %+v", top)
	}
}

func TestFind(t *testing.T) {
	s := numbered(5, 6, 5, -1, 7, 5, -1, math.MaxInt, math.MinInt)
	for id, want := range map[int]int{5: 5, 6: 1, 7: 4, -1: 6, math.MaxInt: 7, math.MinInt: 8, 0: -1, 1: -1, -2: -1, 8: -1, 5 + 1<<32: -1} {
		if got := s.Find(id); got != want {
			t.Errorf("Find(%d): %d, want %d", id, got, want)
		}
	}
	one := numbered(0)
	if one.Find(0) != 0 || one.Find(1) != -1 || one.Find(-1) != -1 {
		t.Error("Find in a stack of one")
	}
	s.Pop()
	if s.Find(math.MinInt) != -1 {
		t.Error("Find of what was popped")
	}
}

func TestRemove(t *testing.T) {
	s := numbered(5, 6, 5, -1, 7, 5)
	for _, x := range []struct {
		id   int
		ok   bool
		left string
	}{
		{8, false, "a b c d e f"},
		{-2, false, "a b c d e f"},
		{5, true, "a b c d e"},
		{6, true, "a c d e"},
		{6, false, "a c d e"},
		{5, true, "a d e"},
		{-1, true, "a e"},
		{-1, false, "a e"},
		{7, true, "a"},
		{5, true, ""},
		{5, false, ""},
	} {
		if got := s.Remove(x.id); got != x.ok {
			t.Errorf("Remove(%d): %v", x.id, got)
		}
		checkNames(t, s, x.left)
	}
}

// The topmost one alone counts, and what stands above it keeps its order.
func TestRemoveOfOneThatStandsTwice(t *testing.T) {
	s := numbered(1, 2, 1, 3)
	if !s.Remove(1) || s.Find(1) != 0 || s.Find(2) != 1 || s.Find(3) != 2 {
		t.Errorf("%v", s.All())
	}
	if top, ok := s.Top(); !ok || top.Id != 3 {
		t.Errorf("Top: %+v", top)
	}
}

func TestAbove(t *testing.T) {
	for _, x := range []struct {
		id   int
		ok   bool
		want string
	}{
		{4, true, "a b c d e new"},  // at the top
		{1, true, "a new b c d e"},  // at the bottom
		{2, true, "a b c d new e"},  // twice: the topmost
		{-3, true, "a b c new d e"}, // below 0
		{-1, false, "a b c d e"},    // below 0, and not there
		{9, false, "a b c d e"},     // the number of what is put in
		{0, false, "a b c d e"},     // a place, but no number
		{3, false, "a b c d e"},     // likewise
		{math.MinInt, false, "a b c d e"},
		{math.MaxInt, false, "a b c d e"},
	} {
		s := numbered(1, 2, -3, 2, 4)
		if got := s.Above(x.id, api.El{Id: 9, Name: "new"}); got != x.ok {
			t.Errorf("Above(%d): %v", x.id, got)
		}
		checkNames(t, s, x.want)
		if at := s.Find(9); at != slices.Index(strings.Fields(x.want), "new") {
			t.Errorf("Above(%d): it stands at %d", x.id, at)
		}
	}
}

func TestAboveAgain(t *testing.T) {
	s := numbered(1)
	full := api.El{Id: 1, Space: api.Math, Name: "mi", Attrs: []api.Attr{{Name: "x", Value: "y"}}}
	if !s.Above(1, full) || !s.Above(1, api.El{Id: 2, Name: "p"}) || !s.Above(1, api.El{Id: 3, Name: "q"}) {
		t.Error("Above")
	}
	checkNames(t, s, "a mi q p")
	if l := s.All(); !same(l[1], full) {
		t.Errorf("%+v", l[1])
	}
	if top, _ := s.Pop(); top.Name != "p" {
		t.Errorf("Pop: %+v", top)
	}
}

func TestAnswersHangOnTheStackAlone(t *testing.T) {
	s, again := html("html body ul li p b"), html("html body ul li p b")
	again.Push(api.El{Name: "button"})
	again.Pop()
	again.Copy().Until()
	again.Has(api.ScopeTable, "table")
	for range 3 {
		for scope := -1; scope < 5; scope++ {
			for _, n := range strings.Fields("html body ul li p b button") {
				if s.Has(scope, n) != again.Has(scope, n) {
					t.Errorf("Has(%d, %s) differs", scope, n)
				}
			}
		}
		if !slices.EqualFunc(s.All(), again.All(), same) {
			t.Error("asking changed the stack")
		}
	}
}

func TestDeepStack(t *testing.T) {
	const deep = 1 << 16
	s := New()
	for i := range deep {
		s.Push(api.El{Id: i, Name: "b"})
	}
	if s.Has(api.ScopeAny, "p") || !s.Has(api.ScopeTable, "p", "b") || s.Find(0) != 0 || s.Find(deep) != -1 || len(s.Implied("")) != 0 {
		t.Error("a deep stack")
	}
	if !s.Above(0, api.El{Id: -7, Name: "p"}) || s.Find(-7) != 1 || len(s.All()) != deep+1 {
		t.Error("Above in a deep stack")
	}
	if l := s.Copy().Until("q"); len(l) != deep+1 || l[0].Id != deep-1 || l[deep].Id != 0 {
		t.Error("Until in a deep stack")
	}
	if l := s.Until("p"); len(l) != deep || l[deep-1].Id != -7 {
		t.Error("Until in a deep stack")
	}
	checkNames(t, s, "b")
}

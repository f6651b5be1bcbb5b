package stack

import (
	"math"
	"slices"
	"strings"
	"testing"

	"taffrail/api"
)

// What the chapter says ends a scope, in its own words.
const (
	tableEnds  = "html table"
	htmlEnds   = "applet caption html table td th marquee object"
	listEnds   = "ol ul"
	buttonEnds = "button"
	mathEnds   = "mi mo mn ms mtext"
	svgEnds    = "foreignObject desc title"
	noEnds     = "body p div li dd dt tr tbody thead tfoot select template svg math span b h1 dl dir menu input annotation-xml foreignobject TABLE Html OL"
)

// scopes are api's, and some numbers that are none of them.
var scopes = []int{api.ScopeAny, api.ScopeList, api.ScopeButton, api.ScopeTable, -1, 4, 5, 256, 1 << 32, 1<<32 + 1, math.MinInt, math.MaxInt}

var spaces = []int{api.Html, api.Svg, api.Math, -1, 3, 4, 256, 1 << 32, 1<<32 + 1, 1<<32 + 2, math.MinInt, math.MaxInt}

func listed(list, name string) bool { return slices.Contains(strings.Fields(list), name) }

// asksEnd is what the chapter says of an element and a scope.
func asksEnd(scope, space int, name string) bool {
	switch space {
	case api.Html:
		if scope == api.ScopeTable {
			return listed(tableEnds, name)
		}
		return listed(htmlEnds, name) || scope == api.ScopeList && listed(listEnds, name) || scope == api.ScopeButton && listed(buttonEnds, name)
	case api.Svg:
		return scope != api.ScopeTable && listed(svgEnds, name)
	case api.Math:
		return scope != api.ScopeTable && listed(mathEnds, name)
	}
	return false
}

func allEnds() []string {
	return strings.Fields(strings.Join([]string{tableEnds, htmlEnds, listEnds, buttonEnds, mathEnds, svgEnds, noEnds}, " "))
}

func TestWhatEndsEachScope(t *testing.T) {
	for _, name := range allEnds() {
		for _, space := range spaces {
			for _, scope := range scopes {
				want := asksEnd(scope, space, name)
				for at := range 3 { // the end lies right above, and further up
					s := New()
					s.Push(api.El{Name: "x-sought"})
					for range at {
						s.Push(api.El{Name: "b"})
					}
					s.Push(api.El{Space: space, Name: name})
					for range 2 - at {
						s.Push(api.El{Name: "i"})
					}
					if got := s.Has(scope, "x-sought"); got == want {
						t.Errorf("scope %d, space %d, %s: Has is %v", scope, space, name, got)
					}
				}
			}
		}
	}
}

// By hand, so that it hangs on no list of the tests'.
func TestScopesByHand(t *testing.T) {
	for _, x := range []struct {
		stack                    string
		name                     string
		any, list, button, table bool
	}{
		{"html body p b", "p", true, true, true, true},
		{"html body p applet b", "p", false, false, false, true},
		{"html body p caption b", "p", false, false, false, true},
		{"p html b", "p", false, false, false, false},
		{"html body p table", "p", false, false, false, false},
		{"html body p td", "p", false, false, false, true},
		{"html body p th", "p", false, false, false, true},
		{"html body p marquee", "p", false, false, false, true},
		{"html body p object", "p", false, false, false, true},
		{"html body p ol", "p", true, false, true, true},
		{"html body p ul i", "p", true, false, true, true},
		{"html body p button", "p", true, true, false, true},
		{"html body p select", "p", true, true, true, true},
		{"html body p tr tbody body", "p", true, true, true, true},
		{"html body p dl dd", "p", true, true, true, true},
		{"html body table tr td p", "table", false, false, false, true},
		{"html body table tr td table", "table", true, true, true, true},
		{"html", "html", true, true, true, true},
		{"html body b", "html", true, true, true, true},
		{"html body b", "p", false, false, false, false},
		{"body b", "p", false, false, false, false},
		{"html body ol li", "li", true, true, true, true},
		{"html body li ol", "li", true, false, true, true},
		{"html body ol li", "ol", true, true, true, true},
		{"p mi mo mn ms mtext desc title foreignObject", "p", true, true, true, true},
	} {
		s := html(x.stack)
		got := [4]bool{s.Has(api.ScopeAny, x.name), s.Has(api.ScopeList, x.name), s.Has(api.ScopeButton, x.name), s.Has(api.ScopeTable, x.name)}
		if got != [4]bool{x.any, x.list, x.button, x.table} {
			t.Errorf("%s: %s in any, list, button, table: %v", x.stack, x.name, got)
		}
	}
}

func TestSvgAndMathEndScopes(t *testing.T) {
	for _, x := range []struct {
		space int
		name  string
		has   bool
	}{
		{api.Math, "mi", false}, {api.Math, "mo", false}, {api.Math, "mn", false}, {api.Math, "ms", false}, {api.Math, "mtext", false},
		{api.Svg, "foreignObject", false}, {api.Svg, "desc", false}, {api.Svg, "title", false},
		{api.Svg, "mi", true}, {api.Svg, "mtext", true}, {api.Math, "title", true}, {api.Math, "desc", true}, {api.Math, "foreignObject", true},
		{api.Svg, "foreignobject", true}, {api.Svg, "table", true}, {api.Svg, "html", true}, {api.Svg, "td", true}, {api.Svg, "object", true},
		{api.Math, "table", true}, {api.Math, "html", true}, {api.Math, "caption", true}, {api.Svg, "ol", true}, {api.Math, "ul", true},
		{api.Svg, "button", true}, {api.Math, "button", true}, {api.Math, "annotation-xml", true}, {api.Svg, "svg", true}, {3, "table", true}, {-1, "html", true},
	} {
		s := html("html body p")
		s.Push(api.El{Space: x.space, Name: x.name})
		s.Push(api.El{Name: "b"})
		for _, scope := range []int{api.ScopeAny, api.ScopeList, api.ScopeButton} {
			if got := s.Has(scope, "p"); got != x.has {
				t.Errorf("scope %d, space %d, %s: %v", scope, x.space, x.name, got)
			}
		}
		if !s.Has(api.ScopeTable, "p") {
			t.Errorf("space %d, %s ends the scope of tables", x.space, x.name)
		}
	}
}

// The names are looked at ahead of what ends the scope, in Html alone.
func TestNamesAheadOfEnds(t *testing.T) {
	for _, name := range allEnds() {
		for _, scope := range scopes {
			s := html("html body " + name + " b")
			if !s.Has(scope, name) || !s.Has(scope, "q", name) {
				t.Errorf("scope %d: %s is not had", scope, name)
			}
			s = html("html body")
			for _, space := range spaces[1:] {
				s.Push(api.El{Space: space, Name: name})
			}
			if name != "html" && name != "body" && s.Has(scope, name) {
				t.Errorf("scope %d: %s of another space is had", scope, name)
			}
		}
	}
}

// An element of another space is none of the names, but may end the scope in its own.
func TestNameOfAnotherSpace(t *testing.T) {
	s := html("html body title")
	s.Push(api.El{Space: api.Svg, Name: "svg"})
	if !s.Has(api.ScopeAny, "title") {
		t.Error("svg does not end a scope")
	}
	s.Push(api.El{Space: api.Svg, Name: "title"})
	if s.Has(api.ScopeAny, "title") || s.Has(api.ScopeList, "title") || s.Has(api.ScopeButton, "title") || !s.Has(api.ScopeTable, "title") {
		t.Error("title of svg")
	}
	s = html("html body p")
	s.Push(api.El{Space: api.Math, Name: "p"})
	if !s.Has(api.ScopeAny, "p") {
		t.Error("p of math ends no scope")
	}
	s.Remove(2)
	if s.Has(api.ScopeAny, "p") {
		t.Error("p of math is no p")
	}
}

func TestSeveralNames(t *testing.T) {
	s := html("html table tr td p b")
	for _, x := range []struct {
		names string
		want  bool
	}{
		{"td th", true}, {"th td", true}, {"th", false}, {"q p", true}, {"q tr", false}, {"tr q p", true}, {"tr table html", false}, {"b b b", true}, {"q q q", false},
	} {
		if got := s.Has(api.ScopeAny, strings.Fields(x.names)...); got != x.want {
			t.Errorf("%s: %v", x.names, got)
		}
	}
	if !s.Has(api.ScopeTable, "tr", "q") || s.Has(api.ScopeTable, "html", "q") {
		t.Error("several names in the scope of tables")
	}
	many := make([]string, 10000)
	if s.Has(api.ScopeAny, many...) || !s.Has(api.ScopeAny, append(many, "p")...) {
		t.Error("many names")
	}
}

func TestNoName(t *testing.T) {
	for _, scope := range scopes {
		for _, s := range []*Stack{html("html body p b"), html("html"), html("b"), html("td p")} {
			if s.Has(scope) || s.Has(scope, []string{}...) || s.Has(scope, nil...) {
				t.Errorf("scope %d: no name is had", scope)
			}
		}
	}
	s := html("html")
	s.Push(api.El{})
	if s.Has(api.ScopeAny) || !s.Has(api.ScopeAny, "") || html("html p").Has(api.ScopeAny, "") {
		t.Error("the name of no bytes is one as others")
	}
}

// Names are held against each other as they are.
func TestNamesAsTheyAre(t *testing.T) {
	s := html("html body P p\x00 pp")
	for _, n := range []string{"p", "", "B", "b", "\x00", "P ", "HTML"} {
		if s.Has(api.ScopeAny, n) {
			t.Errorf("%q is had", n)
		}
	}
	if !s.Has(api.ScopeAny, "P") || !s.Has(api.ScopeAny, "p\x00") {
		t.Error("P, p0")
	}
}

func TestHasChangesNothing(t *testing.T) {
	s := html("html body p b")
	row := []string{"q", "p", "behind"}
	s.Has(api.ScopeAny, row[:2]...)
	s.Until(row[:1]...)
	if !slices.Equal(row, []string{"q", "p", "behind"}) {
		t.Errorf("the row of names is %v", row)
	}
}

package stack

import (
	"slices"

	"taffrail/api"
	"taffrail/vocab"
)

func (s *Stack) size() int {
	if s == nil {
		return 0
	}
	return len(s.row)
}

// cut pops all but the first left ones: those popped, the topmost first. Below 0 there is nothing to pop.
func (s *Stack) cut(left int) []api.El {
	if left < 0 || left == s.size() {
		return nil
	}
	popped := slices.Clone(s.row[left:])
	slices.Reverse(popped)
	clear(s.row[left:]) // nothing of them is kept: their attributes go to who asked
	s.row = s.row[:left]
	return popped
}

// is tells whether e is an element of that space, and of one of these names.
func is(e api.El, space int, names ...string) bool {
	return e.Space == space && slices.Contains(names, e.Name)
}

// implied tells whether e is an Html element whose end tag may be implied, but not of one name.
func implied(e api.El, but string) bool {
	return e.Space == api.Html && e.Name != but && vocab.Implied(e.Name)
}

// ends tells whether e ends a scope.
func ends(scope int, e api.El) bool {
	switch {
	case scope == api.ScopeTable:
		return is(e, api.Html, "html", "table")
	case is(e, api.Html, "applet", "caption", "html", "table", "td", "th", "marquee", "object"),
		is(e, api.Math, "mi", "mo", "mn", "ms", "mtext"),
		is(e, api.Svg, "foreignObject", "desc", "title"):
		return true
	case scope == api.ScopeList:
		return is(e, api.Html, "ol", "ul")
	case scope == api.ScopeButton:
		return is(e, api.Html, "button")
	}
	return false
}

// copied is e as new memory.
func copied(e api.El) api.El {
	e.Attrs = slices.Concat(e.Attrs)
	return e
}

// allCopied is l as new memory.
func allCopied(l []api.El) []api.El {
	out := make([]api.El, len(l))
	for i, e := range l {
		out[i] = copied(e)
	}
	return out
}

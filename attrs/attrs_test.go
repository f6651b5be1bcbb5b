package attrs

import (
	"fmt"
	"slices"
	"strings"
	"testing"

	"taffrail/api"
)

// list makes a list of "name value" texts: the name goes up to the first blank, and a text without one has no value.
func list(texts ...string) []api.Attr {
	var l []api.Attr
	for _, s := range texts {
		l = append(l, one(s))
	}
	return l
}

func one(s string) api.Attr {
	name, value, _ := strings.Cut(s, " ")
	return api.Attr{Name: name, Value: value}
}

// long makes a list of n attributes, each with a name of its own.
func long(n int) []api.Attr {
	l := make([]api.Attr, n)
	for i := range l {
		l[i] = api.Attr{Name: fmt.Sprintf("n%06d", i), Value: fmt.Sprint(i % 7)}
	}
	return l
}

func turned(l []api.Attr) []api.Attr {
	l = slices.Clone(l)
	slices.Reverse(l)
	return l
}

// What the chapter says, in as plain loops as can be.

func addOf(l []api.Attr, a api.Attr) ([]api.Attr, bool) {
	for _, x := range l {
		if x.Name == a.Name {
			return l, false
		}
	}
	return append(slices.Clone(l), a), true
}

func getOf(l []api.Attr, name string) (string, bool) {
	for _, x := range l {
		if x.Name == name {
			return x.Value, true
		}
	}
	return "", false
}

func missingOf(l, more []api.Attr) []api.Attr {
	for _, a := range more {
		l, _ = addOf(l, a)
	}
	return l
}

func sameOf(a, b []api.Attr) bool {
	for _, x := range a {
		if !slices.Contains(b, x) {
			return false
		}
	}
	for _, x := range b {
		if !slices.Contains(a, x) {
			return false
		}
	}
	return len(a) == len(b)
}

// sortedOf takes the least one out, again and again.
func sortedOf(l []api.Attr) []api.Attr {
	l = slices.Clone(l)
	var out []api.Attr
	for len(l) > 0 {
		least := 0
		for i, x := range l {
			y := l[least]
			if before(x.Name, y.Name) || x.Name == y.Name && before(x.Value, y.Value) {
				least = i
			}
		}
		out = append(out, l[least])
		l = slices.Delete(l, least, least+1)
	}
	return out
}

// before tells whether a's bytes come ahead of b's.
func before(a, b string) bool {
	for i := range len(a) {
		if i >= len(b) {
			return false
		}
		if a[i] != b[i] {
			return a[i] < b[i]
		}
	}
	return len(a) < len(b)
}

func checkAdd(t *testing.T, l []api.Attr, a api.Attr, want []api.Attr, wantOk bool) {
	t.Helper()
	if got, ok := Add(l, a); !slices.Equal(got, want) || ok != wantOk {
		t.Errorf("Add(%q, %q): %q, %v; want %q, %v", l, a, got, ok, want, wantOk)
	}
}

func checkGet(t *testing.T, l []api.Attr, name, want string, wantOk bool) {
	t.Helper()
	if got, ok := Get(l, name); got != want || ok != wantOk {
		t.Errorf("Get(%q, %q): %q, %v; want %q, %v", l, name, got, ok, want, wantOk)
	}
}

func checkMissing(t *testing.T, l, more, want []api.Attr) {
	t.Helper()
	if got := Missing(l, more); !slices.Equal(got, want) {
		t.Errorf("Missing(%q, %q): %q; want %q", l, more, got, want)
	}
}

func checkSame(t *testing.T, a, b []api.Attr, want bool) {
	t.Helper()
	if got := Same(a, b); got != want {
		t.Errorf("Same(%q, %q): %v", a, b, got)
	}
	if got := Same(b, a); got != want {
		t.Errorf("Same(%q, %q): %v", b, a, got)
	}
}

func checkSorted(t *testing.T, l, want []api.Attr) {
	t.Helper()
	if got := Sorted(l); !slices.Equal(got, want) {
		t.Errorf("Sorted(%q): %q; want %q", l, got, want)
	}
}

func TestExamples(t *testing.T) {
	checkAdd(t, list("x 1"), one("x 2"), list("x 1"), false)
	checkSame(t, list("x 1", "y 2"), list("y 2", "x 1"), true)
}

func TestAdd(t *testing.T) {
	for _, x := range []struct {
		l    []api.Attr
		a    string
		want []api.Attr
		ok   bool
	}{
		{nil, "x 1", list("x 1"), true},
		{[]api.Attr{}, "x 1", list("x 1"), true},
		{make([]api.Attr, 0, 4), "x 1", list("x 1"), true},
		{list("x 1", "y 2", "z 3"), "w 4", list("x 1", "y 2", "z 3", "w 4"), true},
		{list("z 1", "y 2"), "a 0", list("z 1", "y 2", "a 0"), true},
		// It has the name: as the first, the last, in the middle; with the same value, and with another.
		{list("x 1", "y 2", "z 3"), "x 1", list("x 1", "y 2", "z 3"), false},
		{list("x 1", "y 2", "z 3"), "x 9", list("x 1", "y 2", "z 3"), false},
		{list("x 1", "y 2", "z 3"), "y 2", list("x 1", "y 2", "z 3"), false},
		{list("x 1", "y 2", "z 3"), "y 9", list("x 1", "y 2", "z 3"), false},
		{list("x 1", "y 2", "z 3"), "z 3", list("x 1", "y 2", "z 3"), false},
		{list("x 1", "y 2", "z 3"), "z 9", list("x 1", "y 2", "z 3"), false},
		{list("x 1", "y 2", "z 3"), "z", list("x 1", "y 2", "z 3"), false},
		{list("x"), "x", list("x"), false},
		// Twice.
		{list("x 1", "x 2"), "x 3", list("x 1", "x 2"), false},
		{list("x 1", "y 0", "x 1"), "x 1", list("x 1", "y 0", "x 1"), false},
		{list("x 1", "x 2"), "y 1", list("x 1", "x 2", "y 1"), true},
		// In another case, and nearly the same.
		{list("x 1"), "X 1", list("x 1", "X 1"), true},
		{list("Href 1"), "href 2", list("Href 1", "href 2"), true},
		{list("é 1"), "É 1", list("é 1", "É 1"), true},
		{list("x 1"), "xx 1", list("x 1", "xx 1"), true},
		{list("xx 1"), "x 1", list("xx 1", "x 1"), true},
		{list("x 1"), "x\x00 1", list("x 1", "x\x00 1"), true},
		{list("x\xff 1"), "x\xfe 1", list("x\xff 1", "x\xfe 1"), true},
		{list("x\xff 1"), "x\ufffd 1", list("x\xff 1", "x\ufffd 1"), true},
		{list("x\xff 1"), "x\xff 2", list("x\xff 1"), false},
		// A name that is another's value.
		{list("x y"), "y x", list("x y", "y x"), true},
		// The empty name, and the empty value.
		{nil, "", list(""), true},
		{nil, " 1", list(" 1"), true},
		{list("x 1"), "", list("x 1", ""), true},
		{list("x"), " 1", list("x", " 1"), true},
		{list("x 1"), "y", list("x 1", "y"), true},
		{list("x 1", ""), "", list("x 1", ""), false},
		{list("x 1", " 2"), " 3", list("x 1", " 2"), false},
		{list("", "x 1"), "y 1", list("", "x 1", "y 1"), true},
	} {
		checkAdd(t, x.l, one(x.a), x.want, x.ok)
	}
}

func TestGet(t *testing.T) {
	for _, x := range []struct {
		l          []api.Attr
		name, want string
		ok         bool
	}{
		{nil, "x", "", false},
		{nil, "", "", false},
		{[]api.Attr{}, "x", "", false},
		{list("x 1"), "y", "", false},
		{list("x 1", "y 2"), "z", "", false},
		{list("x 1", "y 2"), "", "", false},
		{list("x 1", "y 2"), "X", "", false},
		{list("X 1", "y 2"), "x", "", false},
		{list("xx 1"), "x", "", false},
		{list("x 1"), "xx", "", false},
		{list("x 1"), "x\x00", "", false},
		{list("x 1"), "1", "", false},
		{list("x\xff 1"), "x\xfe", "", false},
		{list("x 1"), "x", "1", true},
		{list("x 1", "y 2", "z 3"), "x", "1", true},
		{list("x 1", "y 2", "z 3"), "y", "2", true},
		{list("x 1", "y 2", "z 3"), "z", "3", true},
		{list("x\xff 1\xfe"), "x\xff", "1\xfe", true},
		{list("x 1", "x 2"), "x", "1", true},
		{list("x 2", "x 1"), "x", "2", true},
		{list("y 0", "x 2", "z 4", "x 1"), "x", "2", true},
		{list("x", "x 1"), "x", "", true},
		{list("x"), "x", "", true},
		{list(" 1"), "", "1", true},
		{list(""), "", "", true},
		{list("x 1", " 2", " 3"), "", "2", true},
	} {
		checkGet(t, x.l, x.name, x.want, x.ok)
	}
}

func TestMissing(t *testing.T) {
	empty := []api.Attr{}
	for _, x := range []struct{ l, more, want []api.Attr }{
		{nil, nil, nil},
		{nil, empty, nil},
		{empty, nil, nil},
		{empty, empty, nil},
		{list("x 1"), nil, list("x 1")},
		{list("x 1", "y 2"), empty, list("x 1", "y 2")},
		{nil, list("x 1"), list("x 1")},
		{empty, list("y 1", "x 2"), list("y 1", "x 2")},
		// No name in common, all, some.
		{list("x 1", "y 2"), list("z 3", "w 4"), list("x 1", "y 2", "z 3", "w 4")},
		{list("x 1", "y 2"), list("x 1", "y 2"), list("x 1", "y 2")},
		{list("x 1", "y 2"), list("y 3", "x 4"), list("x 1", "y 2")},
		{list("x 1", "y 2"), list("x"), list("x 1", "y 2")},
		{list("x 1", "y 2"), list("z 3", "x 4", "w 5", "y 6", "v 7"), list("x 1", "y 2", "z 3", "w 5", "v 7")},
		{list("x 1", "y 2"), list("y 4", "z 3"), list("x 1", "y 2", "z 3")},
		{list("x 1", "y 2"), list("z 3", "x 4"), list("x 1", "y 2", "z 3")},
		// Like names of more: the first counts.
		{list("x 1"), list("y 5", "x 6", "y 7"), list("x 1", "y 5")},
		{nil, list("y 7", "y 5"), list("y 7")},
		{nil, list("y", "y 5", "z 1", "y 6", "z"), list("y", "z 1")},
		{list("x 1"), list("x 2", "x 3"), list("x 1")},
		// Like names of l: all stay.
		{list("x 1", "x 2"), nil, list("x 1", "x 2")},
		{list("x 1", "x 2"), list("x 3"), list("x 1", "x 2")},
		{list("x 1", "y 0", "x 1"), list("z 3", "z 4", "y 5"), list("x 1", "y 0", "x 1", "z 3")},
		// Neither is sorted.
		{list("z 1", "a 2"), list("y 3", "b 4", "a 5", "c 6"), list("z 1", "a 2", "y 3", "b 4", "c 6")},
		// By bytes: another case is another name; the empty name is one.
		{list("x 1"), list("X 2", "x 3"), list("x 1", "X 2")},
		{list("x 1"), list("", " 2"), list("x 1", "")},
		{list(" 1"), list("", "x"), list(" 1", "x")},
		{list("x\xff 1"), list("x\xfe 2", "x\xff 3", "x\ufffd 4", "x\x00 5", "x 6"), list("x\xff 1", "x\xfe 2", "x\ufffd 4", "x\x00 5", "x 6")},
		// A name that is another's value.
		{list("x y"), list("y x"), list("x y", "y x")},
	} {
		checkMissing(t, x.l, x.more, x.want)
	}
}

func TestMissingOfOneListAndItself(t *testing.T) {
	l := list("x 1", "y 2", "x 3")
	checkMissing(t, l, l, list("x 1", "y 2", "x 3"))
	checkMissing(t, l[:1], l, list("x 1", "y 2"))
	checkMissing(t, l[:0], l, list("x 1", "y 2"))
	checkMissing(t, l[1:], l, list("y 2", "x 3"))
	checkMissing(t, l[:2], l[1:], list("x 1", "y 2"))
}

func TestSame(t *testing.T) {
	empty := []api.Attr{}
	for _, x := range []struct {
		a, b []api.Attr
		want bool
	}{
		{nil, nil, true},
		{nil, empty, true},
		{empty, make([]api.Attr, 0, 3), true},
		{nil, list("x 1"), false},
		{empty, list(""), false},
		{list("x 1"), list("x 1"), true},
		{list("x 1", "y 2"), list("y 2", "x 1"), true},
		{list("x 1", "y 2", "z 3"), list("z 3", "x 1", "y 2"), true},
		{list("x"), list("x"), true},
		{list(" 1"), list(" 1"), true},
		// Of different lengths.
		{list("x 1"), list("x 1", "y 2"), false},
		{list("x 1"), list("x 1", "x 1"), false},
		{list("x 1", "y 2"), list("x 1", "y 2", "y 2"), false},
		{list("x 1", "x 1"), list("x 1", "x 1", "x 1"), false},
		// One name, one value.
		{list("x 1", "y 2"), list("x 1", "z 2"), false},
		{list("x 1", "y 2"), list("x 1", "y 3"), false},
		{list("x 1"), list("X 1"), false},
		{list("x a"), list("x A"), false},
		{list("x 1"), list("x"), false},
		{list("x 1"), list(" 1"), false},
		{list("x 1", "y 2"), list("x 2", "y 1"), false},
		{list("x y"), list("y x"), false},
		{[]api.Attr{{Name: "x", Value: "yz"}}, []api.Attr{{Name: "xy", Value: "z"}}, false},
		{[]api.Attr{{Name: "x", Value: "\x00y"}}, []api.Attr{{Name: "x\x00", Value: "y"}}, false},
		{list("x \xff"), list("x \xfe"), false},
		{list("x \xff"), list("x \ufffd"), false},
		{list("x\xff 1"), list("x\xfe 1"), false},
		// As many in all, but told different numbers of times.
		{list("x 1", "x 1", "y 2"), list("x 1", "y 2", "y 2"), true},
		{list("x 1", "x 1", "x 1", "y 2"), list("y 2", "y 2", "x 1", "y 2"), true},
		{list("x 1", "x 2", "x 1"), list("x 2", "x 1", "x 2"), true},
		{list("x 1", "x 1"), list("x 1", "x 1"), true},
		// Each of the one stands in the other, but not the other way round.
		{list("x 1", "x 1"), list("x 1", "y 2"), false},
		{list("x 1", "x 1"), list("x 1", "x 2"), false},
		{list("x", "x"), list("x", "y"), false},
		{list("x 1", "y 2", "x 1"), list("x 1", "y 2", "z 3"), false},
	} {
		checkSame(t, x.a, x.b, x.want)
		checkSame(t, x.a, x.a, true)
		checkSame(t, x.b, turned(x.b), true)
	}
}

func TestSorted(t *testing.T) {
	for _, x := range []struct{ l, want []api.Attr }{
		{nil, nil},
		{[]api.Attr{}, nil},
		{list("x 1"), list("x 1")},
		{list("x 1", "y 2", "z 3"), list("x 1", "y 2", "z 3")},
		{list("z 1", "y 2", "x 3"), list("x 3", "y 2", "z 1")},
		{list("y 1", "z 2", "x 3"), list("x 3", "y 1", "z 2")},
		// By names ahead of values.
		{list("b 1", "a 2"), list("a 2", "b 1")},
		{list("b", "a z"), list("a z", "b")},
		// Like names: by values.
		{list("x 2", "x 1"), list("x 1", "x 2")},
		{list("x 1", "x", "x 2"), list("x", "x 1", "x 2")},
		{list("y 1", "x 3", "y 0", "x 2"), list("x 2", "x 3", "y 0", "y 1")},
		{list("x 2", "x 10"), list("x 10", "x 2")},
		{list("x ab", "x a", "x abc", "x b"), list("x a", "x ab", "x abc", "x b")},
		{list("x b", "x A", "x a", "x B"), list("x A", "x B", "x a", "x b")},
		{list("x \xff", "x \x80", "x \x00", "x", "x a"), list("x", "x \x00", "x a", "x \x80", "x \xff")},
		// Wholly alike: all stay.
		{list("x 1", "x 1"), list("x 1", "x 1")},
		{list("y 1", "x 1", "y 1", "x 1", "y 1"), list("x 1", "x 1", "y 1", "y 1", "y 1")},
		{list("", "", ""), list("", "", "")},
		// One begins another.
		{list("abc 1", "ab 2", "a 3", " 4"), list(" 4", "a 3", "ab 2", "abc 1")},
		{list("ab 1", "b 2", "a 3"), list("a 3", "ab 1", "b 2")},
		// By bytes.
		{list("a\xff", "a\x80", "a\x7f", "a\x00", "a"), list("a", "a\x00", "a\x7f", "a\x80", "a\xff")},
		{list("\xff", "\x80", "z", "\x00", ""), list("", "\x00", "z", "\x80", "\xff")},
		{list("a\x00b", "a\x00", "a\x00a", "aa"), list("a\x00", "a\x00a", "a\x00b", "aa")},
		{list("a", "B", "b", "A", "Z", "z"), list("A", "B", "Z", "a", "b", "z")},
		{list("ab", "aB", "Ab", "AB"), list("AB", "Ab", "aB", "ab")},
		{list("é", "z", "\xff", "€", "\U0001F600", "\uffff"), list("z", "é", "€", "\uffff", "\U0001F600", "\xff")},
		{list("x10", "x9", "x1"), list("x1", "x10", "x9")},
	} {
		checkSorted(t, x.l, x.want)
		checkSorted(t, turned(x.l), x.want)
		checkSorted(t, x.want, x.want)
	}
}

func TestEachByteIsInOrder(t *testing.T) {
	var names, values []api.Attr
	for c := range 256 {
		b := string([]byte{byte(c)})
		names = append(names, api.Attr{Name: b, Value: "v"})
		values = append(values, api.Attr{Name: "n", Value: b})
	}
	for _, l := range [][]api.Attr{names, values} {
		checkSorted(t, turned(l), l)
		checkSorted(t, l, l)
	}
}

// lists gives all lists of at most n of some attributes.
func lists(of []api.Attr, n int) [][]api.Attr {
	all := [][]api.Attr{nil}
	last := all
	for range n {
		var longer [][]api.Attr
		for _, l := range last {
			for _, a := range of {
				longer = append(longer, append(slices.Clone(l), a))
			}
		}
		all = append(all, longer...)
		last = longer
	}
	return all
}

func TestAllShortLists(t *testing.T) {
	some := list("", " 1", "x", "x 1", "X 1", "y 1")
	for _, l := range lists(some, 4) {
		checkSorted(t, l, sortedOf(l))
		for _, a := range append(list("z", "1"), some...) {
			want, ok := addOf(l, a)
			checkAdd(t, l, a, want, ok)
			value, has := getOf(l, a.Name)
			checkGet(t, l, a.Name, value, has)
		}
	}
	all := lists(some, 3)
	for _, a := range all {
		for _, b := range all {
			checkMissing(t, a, b, missingOf(a, b))
			checkSame(t, a, b, sameOf(a, b))
		}
	}
}

func TestSameOfLikeOnes(t *testing.T) {
	all := lists(list("x 1", "x 2", "y 1"), 5)
	for _, a := range all {
		for _, b := range all {
			if Same(a, b) != sameOf(a, b) {
				t.Fatalf("Same(%q, %q) is %v", a, b, Same(a, b))
			}
		}
	}
}

// Around each length of a list, and well above.
func TestListsOfEachLength(t *testing.T) {
	for n := range 40 {
		l := long(n)
		back := turned(l)
		checkSame(t, l, back, true)
		checkSorted(t, back, l)
		checkMissing(t, l, back, l)
		checkMissing(t, nil, back, back)
		checkAdd(t, l, one("x 1"), append(slices.Clone(l), one("x 1")), true)
		checkGet(t, l, "x", "", false)
		for i := range n {
			checkOneOfMany(t, l, i)
		}
	}
}

// checkOneOfMany asks for number i of l, whose names are all different.
func checkOneOfMany(t *testing.T, l []api.Attr, i int) {
	t.Helper()
	checkAdd(t, l, api.Attr{Name: l[i].Name, Value: "new"}, l, false)
	checkGet(t, l, l[i].Name, l[i].Value, true)
	name, value, twice := slices.Clone(l), slices.Clone(l), slices.Clone(l)
	name[i].Name += "x"
	value[i].Value += "x"
	twice[i] = l[0]
	checkSame(t, l, turned(name), false)
	checkSame(t, l, turned(value), false)
	checkSame(t, l, turned(twice), i == 0)
	checkSame(t, l, slices.Delete(slices.Clone(l), i, i+1), false)
	checkMissing(t, l, value, l)
	checkMissing(t, l, name, append(slices.Clone(l), name[i]))
	if i > 1 {
		other := slices.Clone(l)
		other[i] = l[1]
		checkSame(t, twice, turned(other), true)
	}
}

// guarded gives l with some attributes behind its end, within its capacity, and what tells whether all that is as it was.
func guarded(l []api.Attr) ([]api.Attr, func() bool) {
	whole := append(slices.Clone(l), list("behind 1", "behind 2", "behind 3", "behind 4")...)
	was := slices.Clone(whole)
	return whole[:len(l)], func() bool { return slices.Equal(whole, was) }
}

// spoil writes over all that a list has, up to its capacity.
func spoil(l []api.Attr) {
	whole := l[:cap(l)]
	for i := range whole {
		whole[i] = api.Attr{Name: "spoilt", Value: "spoilt"}
	}
}

// checkApart asks twice, and sees to it that neither answer shares memory with the other one or with what was handed in.
func checkApart(t *testing.T, what string, ask func(l, more []api.Attr) []api.Attr, l, more []api.Attr) {
	t.Helper()
	l, asWas := guarded(l)
	more, moreAsWas := guarded(more)
	a, b := ask(l, more), ask(l, more)
	told := slices.Clone(a)
	if !asWas() || !moreAsWas() {
		t.Errorf("%s of %q and %q changes what it is given", what, l, more)
	}
	spoil(a)
	if !slices.Equal(b, told) {
		t.Errorf("%s of %q and %q: two answers share memory", what, l, more)
	}
	spoil(b)
	if !asWas() || !moreAsWas() {
		t.Errorf("%s of %q and %q: an answer shares memory with what was given", what, l, more)
	}
	c := ask(l, more)
	if !slices.Equal(c, told) {
		t.Errorf("%s of %q and %q: %q, and then %q", what, l, more, told, c)
	}
	spoil(l)
	spoil(more)
	if !slices.Equal(c, told) {
		t.Errorf("%s: an answer changes with what was given", what)
	}
}

func checkAllApart(t *testing.T, l, more []api.Attr) {
	t.Helper()
	checkApart(t, "Missing", Missing, l, more)
	checkApart(t, "Sorted", func(l, _ []api.Attr) []api.Attr { return Sorted(l) }, l, more)
	for _, a := range append(list("new 1"), more...) {
		add := func(l, _ []api.Attr) []api.Attr {
			got, _ := Add(l, a)
			return got
		}
		checkApart(t, "Add", add, l, more)
	}
}

func TestAnswersShareNothing(t *testing.T) {
	for _, x := range []struct{ l, more []api.Attr }{
		{nil, nil},
		{nil, list("x 1")},
		{nil, list("x 1", "x 2", "y 3")},
		{list("x 1"), nil},
		{list("x 1", "y 2", "z 3"), nil},
		// Nothing to add or to move.
		{list("x 1", "y 2", "z 3"), list("x 1", "y 2", "z 3")},
		{list("x 1", "y 2", "z 3"), list("z 9")},
		{list("x 1", "x 1"), list("x 1")},
		// Something of either.
		{list("z 1", "y 2", "x 3"), list("w 4", "y 5", "v 6")},
		{list("z 1"), list("a 2")},
		{long(20), turned(long(30))},
		{turned(long(20)), long(20)},
	} {
		checkAllApart(t, x.l, x.more)
	}
	for _, l := range lists(list("x 1", "x 2", "y 1"), 3) {
		for _, more := range lists(list("x 1", "y 2", "z 1"), 2) {
			checkAllApart(t, l, more)
		}
	}
}

// One array is behind both lists, and the room behind the first one is the second one's.
func TestListsOfOneArray(t *testing.T) {
	whole := list("z 1", "y 2", "x 3", "w 4", "z 5")
	was := slices.Clone(whole)
	for i := range len(whole) + 1 {
		l, more := whole[:i], whole[i:]
		added, _ := Add(l, one("new 1"))
		twice, _ := Add(l, one("z 9"))
		for _, got := range [][]api.Attr{added, twice, Missing(l, more), Missing(more, l), Missing(l, whole), Missing(whole, l), Sorted(l), Sorted(more)} {
			spoil(got)
		}
		if !slices.Equal(whole, was) {
			t.Fatalf("cut at %d: it is %q now", i, whole)
		}
	}
}

// Two rows that grow out of one list do not meet.
func TestAddTwiceToOneList(t *testing.T) {
	var l []api.Attr
	for i := range 20 {
		a, _ := Add(l, one("a 1"))
		b, _ := Add(l, one("b 2"))
		if a[i] != one("a 1") || b[i] != one("b 2") {
			t.Errorf("%q and %q", a, b)
		}
		l, _ = Add(l, long(i + 1)[i])
	}
	checkSorted(t, l, long(20))
}

func TestSameAndGetChangeNothing(t *testing.T) {
	for _, x := range []struct{ a, b []api.Attr }{
		{nil, nil},
		{list("z 1", "y 2", "x 3"), list("x 3", "y 2", "z 1")},
		{list("z 1", "z 1", "x 3"), list("x 3", "x 3", "z 1")},
		{list("z 1", "y 2"), list("x 3", "y 2")},
		{turned(long(30)), long(30)},
	} {
		a, aAsWas := guarded(x.a)
		b, bAsWas := guarded(x.b)
		Same(a, b)
		Same(b, a)
		Same(a, a)
		Get(a, "x")
		Get(b, "none")
		if !aAsWas() || !bAsWas() {
			t.Errorf("%q and %q are changed", a, b)
		}
	}
}

// What lies behind a list's end is not of it.
func TestBehindTheEnd(t *testing.T) {
	whole := list("x 1", "y 2", "z 3")
	l := whole[:1]
	checkGet(t, l, "y", "", false)
	checkAdd(t, l, one("y 5"), list("x 1", "y 5"), true)
	checkMissing(t, l, list("z 6"), list("x 1", "z 6"))
	checkMissing(t, list("a"), l, list("a", "x 1"))
	checkSame(t, l, list("x 1"), true)
	checkSame(t, l, whole, false)
	checkSorted(t, whole[1:2], list("y 2"))
}

// An answer hangs on the arguments alone, not on a map's order.
func TestManyTimes(t *testing.T) {
	more := turned(long(50))
	for range 50 {
		checkMissing(t, list("x 1"), more, append(list("x 1"), more...))
		checkSorted(t, more, long(50))
		checkSame(t, more, long(50), true)
		checkSame(t, more, append(long(49), one("x")), false)
	}
}

// Long lists end, and in a time that grows little faster than they do.
func TestLongLists(t *testing.T) {
	l := long(1 << 17)
	back := turned(l)
	if !slices.Equal(Sorted(back), l) || !Same(l, back) || !Same(l, l) {
		t.Error("Sorted or Same of a long list")
	}
	if !slices.Equal(Missing(l, back), l) || !slices.Equal(Missing(nil, back), back) || !slices.Equal(Missing(l, nil), l) {
		t.Error("Missing of long lists")
	}
	other := slices.Clone(back)
	other[0].Value += "x"
	if Same(l, other) || Same(other, l) {
		t.Error("Same of long lists that differ in one value")
	}
	alike := slices.Repeat(list("x 1"), 1<<17)
	if !Same(alike, alike) || !slices.Equal(Sorted(alike), alike) || !slices.Equal(Missing(alike, alike), alike) || len(Missing(nil, alike)) != 1 {
		t.Error("long lists of one attribute")
	}
}

func TestLongTexts(t *testing.T) {
	n := strings.Repeat("n", 1<<20)
	l := list(n+"b 1", n+"a "+n+"2", n+"a "+n+"1", n)
	checkSorted(t, l, []api.Attr{l[3], l[2], l[1], l[0]})
	checkGet(t, l, n+"a", n+"2", true)
	checkGet(t, l, n[1:], "", false)
	checkAdd(t, l, api.Attr{Name: n}, l, false)
	checkMissing(t, l, list(n+"c", n), append(slices.Clone(l), one(n+"c")))
	checkSame(t, l, turned(l), true)
}

func BenchmarkSameOfFew(b *testing.B) {
	x, y := list("class a", "href 1"), list("class a", "href 2")
	for b.Loop() {
		Same(x, y)
	}
}

func BenchmarkSameOfMany(b *testing.B) {
	x := long(1000)
	y := turned(x)
	for b.Loop() {
		Same(x, y)
	}
}

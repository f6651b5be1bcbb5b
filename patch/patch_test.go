package patch

import (
	"math"
	"reflect"
	"slices"
	"testing"

	"taffrail/api"
	"taffrail/tree"
)

func doc(id int, kids ...api.Node) api.Node {
	return api.Node{Id: id, Kind: api.NodeDocument, Start: api.None(), End: api.None(), Kids: kids}
}

func el(id int, name string, kids ...api.Node) api.Node {
	return api.Node{Id: id, Kind: api.NodeElement, Name: name, Start: api.None(), End: api.None(), Kids: kids}
}

func text(id int, s string) api.Node {
	return api.Node{Id: id, Kind: api.NodeText, Text: s, Start: api.None(), End: api.None()}
}

func comment(id int, s string) api.Node {
	return api.Node{Id: id, Kind: api.NodeComment, Text: s, Start: api.None(), End: api.None()}
}

func doctype(id int, name string) api.Node {
	return api.Node{Id: id, Kind: api.NodeDoctype, Name: name, Start: api.None(), End: api.None()}
}

// full has something in each field, so that it is no proper node of any kind.
func full(id, kind int, kids ...api.Node) api.Node {
	return api.Node{
		Id: id, Kind: kind, Space: api.Svg, Name: "n", Text: "t", Attrs: []api.Attr{{Name: "b", Value: "2"}, {Name: "a", Value: "1"}},
		Start: api.Span{From: 3, To: 9}, End: api.Span{From: 20, To: 25}, Kids: kids,
	}
}

// sample is a proper tree of all kinds, four levels of it, with numbers that are not in order; none of them is 1, 10 or above 11.
func sample() api.Node {
	deep := el(11, "i", text(5, "x"), comment(9, ""))
	deep.Attrs = []api.Attr{{Name: "z", Value: "1"}, {Name: "a", Value: "2"}}
	deep.Start, deep.End = api.Span{From: 30, To: 33}, api.Span{From: 34, To: 38}
	p := el(2, "p", text(7, "y"), deep, text(3, "z"))
	p.Attrs = []api.Attr{{Name: "y", Value: "2"}, {Name: "x", Value: "1"}}
	p.Space, p.Start = api.Svg, api.Span{From: 20, To: 23}
	return doc(0, doctype(8, "html"), p, el(4, "br"), comment(6, "c"))
}

// plain is a node with all empty lists nil.
func plain(n api.Node) api.Node {
	if len(n.Attrs) == 0 {
		n.Attrs = nil
	}
	kids := n.Kids
	n.Kids = nil
	for _, kid := range kids {
		n.Kids = append(n.Kids, plain(kid))
	}
	return n
}

func isSame(a, b api.Node) bool { return reflect.DeepEqual(plain(a), plain(b)) }

func checkErr(t *testing.T, n api.Node, o api.Op, want api.Errno) {
	t.Helper()
	if got := Check(n, o); got != want {
		t.Errorf("Check: %d, not %d: %+v", got, want, o)
	}
	if got, err := Apply(n, []api.Op{o}); err != want || want != api.OK && !isSame(got, api.Node{}) {
		t.Errorf("Apply: %d, not %d: %+v\n%+v", err, want, o, got)
	}
}

func insert(id, parent, before int, n api.Node) api.Op {
	return api.Op{Kind: api.OpInsert, Id: id, Parent: parent, Before: before, Node: n}
}

func remove(id int) api.Op { return api.Op{Kind: api.OpRemove, Id: id} }

func setAttrs(id int, l ...api.Attr) api.Op {
	return api.Op{Kind: api.OpAttrs, Id: id, Attrs: l}
}

func setText(id int, s string) api.Op { return api.Op{Kind: api.OpText, Id: id, Text: s} }

var b = el(0, "b")

func TestExamples(t *testing.T) {
	n := doc(0, el(1, "p", text(2, "a")))
	checkErr(t, n, remove(0), api.ErrArg)
	checkErr(t, n, setText(2, ""), api.ErrArg)
}

func TestNoKind(t *testing.T) {
	for _, kind := range []int{0, -1, 5, 6, 256 + 1, 1<<32 + 1, math.MinInt, math.MaxInt} {
		checkErr(t, sample(), api.Op{Kind: kind, Id: 7, Parent: 2, Before: -1, Text: "x"}, api.ErrOp)
		checkErr(t, sample(), api.Op{Kind: kind, Id: 10, Parent: 2, Before: -1, Node: b}, api.ErrOp)
		checkErr(t, sample(), api.Op{Kind: kind}, api.ErrOp)
	}
}

// lost are numbers that sample does not have.
func lost() []int {
	return []int{1, 10, 12, -1, -2, -8, 256 + 2, 1<<32 + 2, math.MinInt, math.MaxInt}
}

func TestNumbersThatAreLost(t *testing.T) {
	for _, id := range lost() {
		checkErr(t, sample(), remove(id), api.ErrNode)
		checkErr(t, sample(), setAttrs(id, api.Attr{Name: "x"}), api.ErrNode)
		checkErr(t, sample(), setText(id, "x"), api.ErrNode)
		checkErr(t, sample(), insert(20, id, -1, b), api.ErrNode)
		if id != -1 {
			checkErr(t, sample(), insert(20, 2, id, b), api.ErrNode)
			checkErr(t, sample(), insert(20, 0, id, b), api.ErrNode)
		}
	}
	checkErr(t, sample(), insert(20, 2, 20, b), api.ErrNode) // not yet there
	checkErr(t, sample(), insert(20, 20, -1, b), api.ErrNode)
}

func TestInsertOfNumbers(t *testing.T) {
	for _, id := range []int{0, -1, -2, math.MinInt, -1 << 32, 8, 2, 7, 11, 5, 9, 3, 4, 6} {
		checkErr(t, sample(), insert(id, 2, -1, b), api.ErrArg)
		checkErr(t, sample(), insert(id, 2, 7, b), api.ErrArg)
	}
	checkErr(t, doc(7), insert(0, 7, -1, b), api.ErrArg) // 0 is free, and still none
	checkErr(t, doc(7), insert(7, 7, -1, b), api.ErrArg)
	for _, id := range []int{1, 10, 12, 1 << 32, 1<<32 + 2, math.MaxInt} {
		checkErr(t, sample(), insert(id, 2, -1, b), api.OK)
		checkErr(t, sample(), insert(id, 2, 7, b), api.OK)
	}
}

func TestInsertOfNodes(t *testing.T) {
	for _, n := range []api.Node{
		el(0, ""), el(0, "b"), text(0, "x"), text(0, "\x00"), text(0, "\xff"), comment(0, ""), comment(0, "c"), doctype(0, ""), doctype(0, "html"),
		full(0, 1), full(0, 2), full(0, 3), full(0, 4), full(0, 1, []api.Node{}...),
	} {
		checkErr(t, sample(), insert(10, 2, 3, n), api.OK)
		withRoom := n
		withRoom.Kids = make([]api.Node, 0, 3)
		checkErr(t, sample(), insert(10, 2, -1, withRoom), api.OK)
		for _, id := range []int{1, 10, 2, -1, math.MinInt, math.MaxInt} {
			named := n
			named.Id = id
			checkErr(t, sample(), insert(10, 2, 3, named), api.ErrArg)
		}
		for _, kid := range []api.Node{{}, text(0, "x"), el(12, "p")} {
			holding := n
			holding.Kids = []api.Node{kid}
			checkErr(t, sample(), insert(10, 2, 3, holding), api.ErrArg)
		}
	}
	for _, kind := range []int{0, -1, 5, 6, 256 + 1, 1<<32 + 1, math.MinInt, math.MaxInt} {
		checkErr(t, sample(), insert(10, 2, 3, api.Node{Kind: kind, Text: "x", Name: "x"}), api.ErrArg)
		checkErr(t, sample(), insert(10, 2, 3, full(0, kind)), api.ErrArg)
	}
	checkErr(t, sample(), insert(10, 2, 3, text(0, "")), api.ErrArg)
	checkErr(t, sample(), insert(10, 2, 3, api.Node{Kind: api.NodeText, Name: "x"}), api.ErrArg)
}

func TestInsertBelow(t *testing.T) {
	for id, want := range map[int]api.Errno{0: api.OK, 2: api.OK, 4: api.OK, 11: api.OK, 5: api.ErrArg, 7: api.ErrArg, 3: api.ErrArg, 9: api.ErrArg, 6: api.ErrArg, 8: api.ErrArg} {
		for _, n := range []api.Node{b, text(0, "x"), comment(0, ""), doctype(0, "")} {
			checkErr(t, sample(), insert(10, id, -1, n), want)
		}
	}
}

func TestInsertAhead(t *testing.T) {
	n := sample()
	for _, parent := range []int{0, 2, 11, 4} {
		var kids []int
		x, _ := tree.Find(n, parent)
		for _, kid := range x.Kids {
			kids = append(kids, kid.Id)
		}
		for _, before := range tree.Ids(n) {
			want := api.ErrArg
			if slices.Contains(kids, before) {
				want = api.OK
			}
			checkErr(t, n, insert(10, parent, before, b), want)
		}
		checkErr(t, n, insert(10, parent, -1, b), api.OK)
	}
	for _, before := range tree.Ids(n) { // nothing stands below these
		for _, parent := range []int{5, 9, 6, 8} {
			checkErr(t, n, insert(10, parent, before, b), api.ErrArg)
		}
	}
}

func TestRemove(t *testing.T) {
	for _, id := range tree.Ids(sample())[1:] {
		checkErr(t, sample(), remove(id), api.OK)
	}
	for _, id := range []int{0, 7, math.MaxInt} {
		checkErr(t, doc(id, el(5, "p")), remove(id), api.ErrArg)
	}
	checkErr(t, doc(7, el(0, "p")), remove(0), api.OK) // the root is who stands on top, not who is 0
}

func TestAttrsAndTexts(t *testing.T) {
	for _, x := range []struct {
		id                    int
		attrs, text, withText api.Errno
	}{
		{0, api.ErrArg, api.ErrArg, api.ErrArg},
		{2, api.OK, api.ErrArg, api.ErrArg},
		{4, api.OK, api.ErrArg, api.ErrArg},
		{11, api.OK, api.ErrArg, api.ErrArg},
		{5, api.ErrArg, api.ErrArg, api.OK},
		{7, api.ErrArg, api.ErrArg, api.OK},
		{3, api.ErrArg, api.ErrArg, api.OK},
		{6, api.ErrArg, api.OK, api.OK},
		{9, api.ErrArg, api.OK, api.OK},
		{8, api.ErrArg, api.ErrArg, api.ErrArg},
	} {
		checkErr(t, sample(), setAttrs(x.id), x.attrs)
		checkErr(t, sample(), setAttrs(x.id, api.Attr{Name: "x"}), x.attrs)
		checkErr(t, sample(), setAttrs(x.id, api.Attr{}, api.Attr{Name: "x"}, api.Attr{Name: "x"}), x.attrs)
		checkErr(t, sample(), setText(x.id, ""), x.text)
		for _, s := range []string{"x", "\x00", "\xff\xfe", "\n"} {
			checkErr(t, sample(), setText(x.id, s), x.withText)
		}
	}
}

// Fields that an operation's kind does not have play no part.
func TestFieldsWithoutMeaning(t *testing.T) {
	odd := api.Op{Parent: -7, Before: -9, Node: full(-3, 99, full(2, 0)), Attrs: []api.Attr{{}, {}}, Text: "odd"}
	for _, x := range []struct {
		kind, id int
		want     api.Errno
	}{
		{api.OpRemove, 2, api.OK}, {api.OpRemove, 0, api.ErrArg}, {api.OpRemove, 1, api.ErrNode},
		{api.OpAttrs, 2, api.OK}, {api.OpAttrs, 5, api.ErrArg}, {api.OpAttrs, 1, api.ErrNode},
		{api.OpText, 5, api.OK}, {api.OpText, 9, api.OK}, {api.OpText, 2, api.ErrArg}, {api.OpText, 1, api.ErrNode},
	} {
		o := odd
		o.Kind, o.Id = x.kind, x.id
		checkErr(t, sample(), o, x.want)
	}
	o := insert(10, 2, 3, b)
	o.Attrs, o.Text = odd.Attrs, odd.Text
	checkErr(t, sample(), o, api.OK)
	got, _ := Apply(sample(), []api.Op{o})
	if x, _ := tree.Find(got, 10); !isSame(x, el(10, "b")) {
		t.Errorf("%+v", x)
	}
}

func TestOrderOfErrors(t *testing.T) {
	bad := full(3, 0, full(0, 2))
	for _, x := range []struct {
		o    api.Op
		want api.Errno
	}{
		{api.Op{Kind: 9, Id: 1, Parent: 1, Before: 1, Node: bad}, api.ErrOp},
		{api.Op{Kind: 9, Id: 0}, api.ErrOp},
		{insert(0, 1, -1, bad), api.ErrNode},
		{insert(-4, 2, 1, bad), api.ErrNode},
		{insert(7, 5, 1, text(0, "")), api.ErrNode},
		{insert(7, 1, 5, b), api.ErrNode},
		{insert(7, 1, 1, b), api.ErrNode},
		{insert(7, 5, -2, b), api.ErrNode},
		{insert(10, 2, -2, b), api.ErrNode},
		{insert(7, 5, 9, bad), api.ErrArg},
		{insert(7, 2, 7, bad), api.ErrArg},
		{setText(1, ""), api.ErrNode},
		{remove(-1), api.ErrNode},
	} {
		checkErr(t, sample(), x.o, x.want)
	}
	checkErr(t, doc(7), remove(0), api.ErrNode) // 0 is not there
}

// Check takes any tree; it does not ask chapter 14's Check.
func TestCheckOfAnyTree(t *testing.T) {
	n := el(5, "p", doc(-1, text(-3, "")), full(8, 2, full(9, 1), full(8, 77)), full(9, 1, full(10, 1)))
	for _, x := range []struct {
		o    api.Op
		want api.Errno
	}{
		{remove(5), api.ErrArg}, {remove(-1), api.OK}, {remove(-3), api.OK}, {remove(8), api.OK}, {remove(0), api.ErrNode},
		{setText(-3, "x"), api.OK}, {setText(-3, ""), api.ErrArg}, {setText(8, "x"), api.OK},
		{setAttrs(9), api.OK}, {setAttrs(8), api.ErrArg}, {setAttrs(10), api.OK},
		{insert(1, -1, -3, b), api.OK}, {insert(1, -1, -1, b), api.OK}, {insert(1, 8, -1, b), api.ErrArg},
		{insert(1, 5, 9, b), api.OK}, // the first 9 stands elsewhere, but 5 has one
		{insert(1, 9, 10, b), api.ErrArg}, {insert(1, 9, -1, b), api.OK}, {insert(10, 5, -1, b), api.ErrArg},
	} {
		if got := Check(n, x.o); got != x.want {
			t.Errorf("Check: %d, not %d: %+v", got, x.want, x.o)
		}
	}
	for _, o := range []api.Op{{}, {Kind: 9}, remove(5), remove(1), insert(1, 5, -1, b)} {
		if got, err := Apply(n, []api.Op{o}); err != api.ErrNode || !isSame(got, api.Node{}) {
			t.Errorf("Apply: %d, %+v", err, got)
		}
	}
	if err := Check(api.Node{}, insert(1, 0, -1, b)); err != api.OK {
		t.Errorf("%d", err)
	}
}

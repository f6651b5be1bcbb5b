package patch

import (
	"math"
	"slices"
	"testing"

	"taffrail/api"
	"taffrail/tree"
)

// What the chapter says, in as plain calls within calls as can be.

func checkOf(n api.Node, o api.Op) api.Errno {
	if o.Kind < 1 || o.Kind > 4 {
		return api.ErrOp
	}
	if o.Kind == api.OpInsert {
		return checkInsertOf(n, o)
	}
	x, ok := tree.Find(n, o.Id)
	if !ok {
		return api.ErrNode
	}
	fine := false
	switch o.Kind {
	case api.OpRemove:
		fine = o.Id != n.Id
	case api.OpAttrs:
		fine = x.Kind == api.NodeElement
	case api.OpText:
		fine = x.Kind == api.NodeText && o.Text != "" || x.Kind == api.NodeComment
	}
	if !fine {
		return api.ErrArg
	}
	return api.OK
}

func checkInsertOf(n api.Node, o api.Op) api.Errno {
	parent, ok := tree.Find(n, o.Parent)
	if !ok {
		return api.ErrNode
	}
	if _, ok := tree.Find(n, o.Before); o.Before != -1 && !ok {
		return api.ErrNode
	}
	if _, has := tree.Find(n, o.Id); o.Id < 1 || has || len(o.Node.Kids) > 0 || o.Node.Id != 0 {
		return api.ErrArg
	}
	if k := o.Node.Kind; k != api.NodeElement && k != api.NodeText && k != api.NodeComment && k != api.NodeDoctype || k == api.NodeText && o.Node.Text == "" {
		return api.ErrArg
	}
	if parent.Kind != api.NodeDocument && parent.Kind != api.NodeElement {
		return api.ErrArg
	}
	if o.Before != -1 && !slices.ContainsFunc(parent.Kids, func(kid api.Node) bool { return kid.Id == o.Before }) {
		return api.ErrArg
	}
	return api.OK
}

// doneOf is a copy of n with an operation done that Check has nothing against.
func doneOf(n api.Node, o api.Op) api.Node {
	if o.Id == n.Id && o.Kind == api.OpAttrs {
		n.Attrs = o.Attrs
	}
	if o.Id == n.Id && o.Kind == api.OpText {
		n.Text = o.Text
	}
	put := o.Node
	put.Id = o.Id
	kids := n.Kids
	n.Kids = nil
	for _, kid := range kids {
		if o.Kind == api.OpInsert && o.Parent == n.Id && o.Before == kid.Id {
			n.Kids = append(n.Kids, put)
		}
		if o.Kind != api.OpRemove || o.Id != kid.Id {
			n.Kids = append(n.Kids, doneOf(kid, o))
		}
	}
	if o.Kind == api.OpInsert && o.Parent == n.Id && o.Before == -1 {
		n.Kids = append(n.Kids, put)
	}
	return n
}

func applyOf(n api.Node, l []api.Op) (api.Node, api.Errno) {
	if err := tree.Check(n); err != api.OK {
		return api.Node{}, err
	}
	for _, o := range l {
		if err := checkOf(n, o); err != api.OK {
			return api.Node{}, err
		}
		n = doneOf(n, o)
	}
	return n, api.OK
}

func buildOf(n api.Node, parent, before int) []api.Op {
	x := n
	x.Id, x.Kids = 0, nil
	l := []api.Op{insert(n.Id, parent, before, x)}
	for _, kid := range n.Kids {
		l = append(l, buildOf(kid, n.Id, -1)...)
	}
	return l
}

func touchedOf(l []api.Op) []int {
	seen := map[int]bool{}
	for _, o := range l {
		seen[o.Id] = true
		if o.Kind == api.OpInsert {
			seen[o.Parent] = true
		}
		if o.Kind == api.OpInsert && o.Before != -1 {
			seen[o.Before] = true
		}
	}
	out := []int{}
	for id := range seen {
		out = append(out, id)
	}
	slices.Sort(out)
	return out
}

// drawer answers numbers below most by a rule that jumps about.
type drawer uint32

func (d *drawer) next(most int) int {
	*d = *d*1664525 + 1013904223
	return int(*d>>8) % most
}

func (d *drawer) attrList() []api.Attr {
	l := make([]api.Attr, 0, 4)
	for range d.next(4) {
		l = append(l, api.Attr{Name: string(rune('a' + d.next(4))), Value: string(rune('0' + d.next(2)))})
	}
	return l
}

// one draws a proper node without kids.
func (d *drawer) one(id, kind int) api.Node {
	n := api.Node{Id: id, Kind: kind, Start: api.None(), End: api.None()}
	switch kind {
	case api.NodeElement:
		n.Space, n.Name, n.Attrs = d.next(3), string(rune('p'+d.next(2))), d.attrList()
		n.Start = api.Span{From: d.next(9), To: 9 + d.next(9)}
	case api.NodeText:
		n.Text = string(rune('x' + d.next(2)))
	case api.NodeComment:
		n.Text = []string{"", "c"}[d.next(2)]
	case api.NodeDoctype:
		n.Name = []string{"", "html"}[d.next(2)]
	}
	return n
}

// proper draws a proper tree with numbers from *id on, each by step above the last one.
func (d *drawer) proper(kind, levels int, id *int, step int) api.Node {
	n := d.one(*id, kind)
	*id += step
	for range d.next(5) {
		if kind <= api.NodeElement && levels > 1 {
			n.Kids = append(n.Kids, d.proper(max(1, d.next(7)-2), levels-1, id, step))
		}
	}
	return n
}

// wild draws a node with anything in its fields, and kids.
func (d *drawer) wild(levels int) api.Node {
	n := api.Node{
		Id: d.next(14) - 2, Kind: d.next(7) - 1, Space: d.next(4) - 1, Name: string(rune('p' + d.next(2))), Text: []string{"", "t", "u"}[d.next(3)],
		Attrs: d.attrList(), Start: api.Span{From: d.next(3), To: d.next(3)}, End: api.Span{From: d.next(2) - 1, To: d.next(2) - 1},
	}
	for range d.next(4) {
		if levels > 1 {
			n.Kids = append(n.Kids, d.wild(levels-1))
		}
	}
	return n
}

func (d *drawer) pick(ids []int) int { return ids[d.next(len(ids))] }

// number draws one that is in n, or one that mostly isn't.
func (d *drawer) number(n api.Node) int {
	if d.next(12) == 0 {
		return d.pick([]int{-1, -2, 0, 1, 3, 500, 1 << 32, math.MinInt, math.MaxInt})
	}
	return d.pick(tree.Ids(n))
}

// op draws an operation on n that is often fine.
func (d *drawer) op(n api.Node) api.Op {
	o := api.Op{Kind: 1 + d.next(4), Id: d.number(n)}
	switch d.next(40) {
	case 0:
		o.Kind = d.next(9) - 2
	case 1: // anything
		return api.Op{Kind: d.next(6), Id: d.number(n), Parent: d.number(n), Before: d.number(n), Node: d.wild(2), Attrs: d.attrList(), Text: []string{"", "t"}[d.next(2)]}
	}
	switch o.Kind {
	case api.OpInsert:
		o.Id, o.Parent, o.Before = 200+d.next(2000), d.number(n), -1
		parent, _ := tree.Find(n, o.Parent)
		if len(parent.Kids) > 0 && d.next(3) > 0 {
			o.Before = parent.Kids[d.next(len(parent.Kids))].Id
		}
		o.Node = d.one(0, 1+d.next(4))
	case api.OpAttrs:
		o.Attrs = d.attrList()
	case api.OpText:
		o.Text = []string{"t", "u", "v", ""}[d.next(4)]
	}
	return o
}

// fine draws an operation that Check has nothing against.
func (d *drawer) fine(n api.Node) api.Op {
	for {
		if o := d.op(n); checkOf(n, o) == api.OK {
			return o
		}
	}
}

func TestCheckAgainstModel(t *testing.T) {
	d := drawer(4)
	told := map[[2]int]int{}
	for range 300 {
		id := d.next(3)
		for _, n := range []api.Node{d.proper(api.NodeDocument, 1+d.next(5), &id, 1+d.next(3)), d.wild(1 + d.next(4))} {
			for range 60 {
				o := d.op(n)
				want := checkOf(n, o)
				if got := Check(n, o); got != want {
					t.Fatalf("%d, not %d: %+v\n%+v", got, want, o, n)
				}
				told[[2]int{min(max(o.Kind, 0), 5), int(want)}]++
			}
		}
	}
	for kind := 1; kind <= 4; kind++ {
		for _, err := range []api.Errno{api.OK, api.ErrNode, api.ErrArg} {
			if told[[2]int{kind, int(err)}] < 50 {
				t.Errorf("kind %d, error %d: %d times only", kind, err, told[[2]int{kind, int(err)}])
			}
		}
	}
}

// Each number as Id, Parent and Before, with nodes that may be put in and such that may not.
func TestCheckOfAllNumbers(t *testing.T) {
	n := sample()
	ids := append(tree.Ids(n), -2, -1, 1, 10, 12)
	holding := el(0, "b", b)
	for kind := -1; kind <= 6; kind++ {
		for _, id := range ids {
			for _, parent := range ids {
				for _, before := range ids {
					for _, x := range []api.Node{b, text(0, "x"), text(0, ""), comment(0, ""), doctype(0, ""), {}, {Kind: 5}, el(3, "b"), holding} {
						o := api.Op{Kind: kind, Id: id, Parent: parent, Before: before, Node: x, Text: x.Text}
						if kind != api.OpInsert && (parent > 1 || before > 1) {
							continue
						}
						if got, want := Check(n, o), checkOf(n, o); got != want {
							t.Fatalf("%d, not %d: %+v", got, want, o)
						}
					}
				}
			}
		}
	}
}

func TestApplyAgainstModel(t *testing.T) {
	d := drawer(8)
	ended := map[api.Errno]int{}
	for range 1500 {
		id := d.next(3)
		n := d.proper(api.NodeDocument, 1+d.next(5), &id, 1+d.next(3))
		if d.next(20) == 0 {
			n = d.wild(3)
		}
		var l []api.Op
		m := n
		for range d.next(25) {
			o := d.op(m)
			l = append(l, o)
			if checkOf(m, o) == api.OK {
				m = doneOf(m, o)
			} else if d.next(4) > 0 { // mostly without it: then there is none that is refused
				l = l[:len(l)-1]
			}
		}
		want, wantErr := applyOf(n, l)
		got, err := Apply(n, l)
		if err != wantErr || !isSame(got, want) {
			t.Fatalf("%d, not %d: %+v\n%+v\n got %+v\nwant %+v", err, wantErr, l, n, got, want)
		}
		if again, err := Apply(n, l); err != wantErr || !isSame(again, got) {
			t.Fatalf("another answer: %d", err)
		}
		if err == api.OK {
			if err := tree.Check(got); err != api.OK {
				t.Fatalf("no tree: %d: %+v", err, got)
			}
		}
		ended[err]++
		if x := Touched(l); len(x) != len(touchedOf(l)) || !slices.Equal(x, touchedOf(l)) {
			t.Fatalf("Touched: %v, not %v", x, touchedOf(l))
		}
	}
	for _, err := range []api.Errno{api.OK, api.ErrOp, api.ErrNode, api.ErrArg} {
		if ended[err] < 20 {
			t.Errorf("error %d: %d times only", err, ended[err])
		}
	}
}

// All at once is one behind the other.
func TestApplyInParts(t *testing.T) {
	d := drawer(6)
	for range 300 {
		id := 0
		n := d.proper(api.NodeDocument, 4, &id, 1)
		var l []api.Op
		step := n
		for range 12 {
			o := d.fine(step)
			l = append(l, o)
			next, err := Apply(step, []api.Op{o})
			if err != api.OK {
				t.Fatalf("%d: %+v", err, o)
			}
			step = next
		}
		if got, err := Apply(n, l); err != api.OK || !isSame(got, step) {
			t.Fatalf("%d: %+v\n%+v", err, l, n)
		}
	}
}

func TestBuildAgainstModel(t *testing.T) {
	d := drawer(15)
	for range 500 {
		id := 1
		for _, n := range []api.Node{d.wild(1 + d.next(5)), d.proper(api.NodeElement, 1+d.next(6), &id, 2)} {
			parent, before := d.next(9)-2, d.next(9)-2
			checkBuild(t, n, parent, before, buildOf(n, parent, before)...)
		}
	}
}

// placed is a copy of n with x within parent, ahead of before.
func placed(n, x api.Node, parent, before int) api.Node {
	kids := n.Kids
	n.Kids = nil
	for _, kid := range kids {
		if n.Id == parent && kid.Id == before {
			n.Kids = append(n.Kids, x)
		}
		n.Kids = append(n.Kids, placed(kid, x, parent, before))
	}
	if n.Id == parent && before == -1 {
		n.Kids = append(n.Kids, x)
	}
	return n
}

// 15.4: at each place of a drawn tree.
func TestApplyOfBuild(t *testing.T) {
	d := drawer(12)
	for range 120 {
		even, odd := 0, 1
		n := d.proper(api.NodeDocument, 1+d.next(4), &even, 2)
		x := d.proper(1+d.next(4), 1+d.next(5), &odd, 2)
		for _, parent := range tree.Ids(n) {
			at, _ := tree.Find(n, parent)
			if at.Kind > api.NodeElement {
				if _, err := Apply(n, Build(x, parent, -1)); err != api.ErrArg {
					t.Fatalf("below a kind %d: %d", at.Kind, err)
				}
				continue
			}
			befores := []int{-1}
			for _, kid := range at.Kids {
				befores = append(befores, kid.Id)
			}
			for _, before := range befores {
				l := Build(x, parent, before)
				got, err := Apply(n, l)
				if err != api.OK || !tree.Equal(got, placed(n, x, parent, before)) {
					t.Fatalf("%d: below %d, ahead of %d\n%+v\n%+v\n%+v", err, parent, before, n, x, got)
				}
				back, err := Apply(got, []api.Op{remove(x.Id)})
				if err != api.OK || !tree.Equal(back, n) {
					t.Fatalf("%d: taken out again", err)
				}
				if _, err := Apply(got, l); err != api.ErrArg {
					t.Fatalf("twice: %d", err)
				}
			}
		}
	}
}

package tree

import (
	"testing"

	"taffrail/api"
)

func checkStrip(t *testing.T, n, want api.Node) {
	t.Helper()
	if got := Strip(n); !isSame(got, want) {
		t.Errorf("Strip:\n got %+v\nwant %+v", got, want)
	}
	if got := Strip(Strip(n)); !isSame(got, want) {
		t.Errorf("Strip twice:\n got %+v\nwant %+v", got, want)
	}
}

// bare is what Strip leaves of full.
func bare(kind int, kids ...api.Node) api.Node {
	none := api.Span{From: -1, To: -1}
	return api.Node{
		Kind: kind, Space: api.Svg, Name: "n", Text: "t", Attrs: []api.Attr{{Name: "a", Value: "1"}, {Name: "b", Value: "2"}},
		Start: none, End: none, Kids: kids,
	}
}

func TestStrip(t *testing.T) {
	none := api.Span{From: -1, To: -1}
	checkStrip(t, api.Node{}, api.Node{Start: none, End: none})
	checkStrip(t, api.Node{Attrs: []api.Attr{}, Kids: []api.Node{}}, api.Node{Start: none, End: none})
	for kind := -1; kind <= 5; kind++ {
		checkStrip(t, full(7, kind), bare(kind))
		checkStrip(t, full(7, kind, full(-8, 9), full(9, 2, full(-1, 0))), bare(kind, bare(9), bare(2, bare(0))))
	}
	deep := full(3, 1)
	want := bare(1)
	for range 40 {
		deep = full(3, 1, full(4, 3), deep, full(5, 2))
		want = bare(1, bare(3), want, bare(2))
	}
	checkStrip(t, deep, want)
}

func TestStripOfSample(t *testing.T) {
	i := el(0, "i", text(0, "x"), comment(0, ""))
	i.Attrs = []api.Attr{{Name: "a", Value: "2"}, {Name: "z", Value: "1"}}
	p := el(0, "p", text(0, "y"), i, text(0, "z"))
	p.Attrs = []api.Attr{{Name: "x", Value: "1"}, {Name: "y", Value: "2"}}
	p.Space = api.Svg
	checkStrip(t, sample(), doc(0, doctype(0, "html"), p, el(0, "br"), comment(0, "c")))
}

// By names' bytes, then values'; each as often as it is told.
func TestStripOfAttributes(t *testing.T) {
	for _, x := range [][2][]api.Attr{
		{{{Name: "b"}, {Name: "a"}}, {{Name: "a"}, {Name: "b"}}},
		{{{Name: "x", Value: "2"}, {Name: "x", Value: "1"}}, {{Name: "x", Value: "1"}, {Name: "x", Value: "2"}}},
		{{{Name: "b", Value: "1"}, {Name: "a", Value: "2"}}, {{Name: "a", Value: "2"}, {Name: "b", Value: "1"}}},
		{{{Name: "x"}, {Name: "x"}, {Name: "a"}}, {{Name: "a"}, {Name: "x"}, {Name: "x"}}},
		{{{Name: "a"}, {Name: "Z"}}, {{Name: "Z"}, {Name: "a"}}},
		{{{Name: "aa"}, {Name: "a"}, {}}, {{}, {Name: "a"}, {Name: "aa"}}},
		{{{Name: "\xff"}, {Name: "\u00e9"}, {Name: "z"}, {Name: "\x00"}}, {{Name: "\x00"}, {Name: "z"}, {Name: "\u00e9"}, {Name: "\xff"}}},
		{{{Name: "x", Value: "10"}, {Name: "x", Value: "9"}}, {{Name: "x", Value: "10"}, {Name: "x", Value: "9"}}},
		{{{Name: "ab", Value: "a"}, {Name: "a", Value: "bz"}}, {{Name: "a", Value: "bz"}, {Name: "ab", Value: "a"}}},
	} {
		n, want := el(0, "e"), el(0, "e")
		n.Attrs, want.Attrs = x[0], x[1]
		checkStrip(t, n, want)
		checkStrip(t, doc(1, text(2, "x"), el(3, "p", n)), doc(0, text(0, "x"), el(0, "p", want)))
	}
}

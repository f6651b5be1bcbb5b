package textbuf

import (
	"math"
	"strings"
	"testing"
	"unsafe"

	"taffrail/api"
)

func made(t *testing.T, s string, most int) *Buf {
	t.Helper()
	b, e := New(s, most)
	if b == nil || e != api.OK {
		t.Fatalf("New(%q, %d): %v, %d", s, most, b, e)
	}
	return b
}

// holds tells whether the buffer is as its text and version say, also within.
func holds(t *testing.T, b *Buf, text string, version int) {
	t.Helper()
	if b.Text() != text || b.Len() != len(text) || b.Version() != version {
		t.Fatalf("%.80q, %d bytes, version %d; want %.80q, version %d", b.Text(), b.Len(), b.Version(), text, version)
	}
	if len(b.pieces) > mostPieces {
		t.Fatalf("%d pieces", len(b.pieces))
	}
	for i, p := range b.pieces {
		if len(p) == 0 {
			t.Fatalf("piece %d is empty", i)
		}
	}
}

func spliced(t *testing.T, b *Buf, e api.Edit, want api.Errno) {
	t.Helper()
	if got := b.Splice(e); got != want {
		t.Fatalf("Splice {%d, %d, %.40q}: %d, want %d", e.At, e.Del, e.Ins, got, want)
	}
}

func undone(t *testing.T, b *Buf, want bool) {
	t.Helper()
	if got := b.Undo(); got != want {
		t.Fatalf("Undo: %v", got)
	}
}

func TestExample(t *testing.T) {
	b := made(t, "abcd", 10)
	holds(t, b, "abcd", 0)
	spliced(t, b, api.Edit{At: 1, Del: 2, Ins: "xyz"}, api.OK)
	holds(t, b, "axyzd", 1)
	undone(t, b, true)
	holds(t, b, "abcd", 0)
}

func TestNew(t *testing.T) {
	full := strings.Repeat("x", api.MaxText)
	for _, x := range []struct {
		s    string
		most int
		want api.Errno
	}{
		{"", 0, api.OK},
		{"a", 0, api.ErrSize},
		{"", 1, api.OK},
		{"a", 1, api.OK},
		{"ab", 1, api.ErrSize},
		{"\x00\xff\xc3\xa9", 4, api.OK},
		{"\x00\xff\xc3\xa9", 3, api.ErrSize},
		{"", 65536, api.OK},
		{full, 65536, api.OK},
		{full, 65535, api.ErrSize},
		{full + "x", 65536, api.ErrSize},
		{"", 65537, api.ErrArg},
		{full + "x", 65537, api.ErrArg},
		{"", -1, api.ErrArg},
		{"a", -1, api.ErrArg},
		{"", math.MinInt, api.ErrArg},
		{"a", math.MinInt, api.ErrArg},
		{"", math.MaxInt, api.ErrArg},
		{"a", math.MaxInt, api.ErrArg},
	} {
		b, e := New(x.s, x.most)
		if e != x.want || (b == nil) != (e != api.OK) {
			t.Errorf("New(%d bytes, %d): %v, %d", len(x.s), x.most, b != nil, e)
		}
		if b != nil {
			holds(t, b, x.s, 0)
			undone(t, b, false)
		}
	}
}

func TestSlice(t *testing.T) {
	b := made(t, "wxyz", 8)
	// Several pieces, so that a slice has to go over their edges.
	spliced(t, b, api.Edit{At: 2, Ins: "--"}, api.OK)
	spliced(t, b, api.Edit{At: 0, Ins: "v"}, api.OK)
	text := "vwx--yz"
	holds(t, b, text, 2)
	for from := -2; from <= len(text)+2; from++ {
		for to := -2; to <= len(text)+2; to++ {
			s, e := b.Slice(from, to)
			if 0 <= from && from <= to && to <= len(text) {
				if s != text[from:to] || e != api.OK {
					t.Errorf("Slice(%d, %d): %q, %d", from, to, s, e)
				}
			} else if s != "" || e != api.ErrRange {
				t.Errorf("Slice(%d, %d): %q, %d", from, to, s, e)
			}
		}
	}
	for _, x := range [][2]int{
		{math.MinInt, math.MinInt}, {math.MinInt, 0}, {math.MinInt, math.MaxInt},
		{0, math.MinInt}, {0, math.MaxInt}, {7, math.MaxInt},
		{math.MaxInt, math.MinInt}, {math.MaxInt, 7}, {math.MaxInt, math.MaxInt},
	} {
		if s, e := b.Slice(x[0], x[1]); s != "" || e != api.ErrRange {
			t.Errorf("Slice(%d, %d): %q, %d", x[0], x[1], s, e)
		}
	}
	holds(t, b, text, 2)
}

func TestSliceOfNothing(t *testing.T) {
	b := made(t, "", 0)
	if s, e := b.Slice(0, 0); s != "" || e != api.OK {
		t.Errorf("%q, %d", s, e)
	}
	for _, x := range [][2]int{{0, 1}, {1, 1}, {-1, 0}, {1, 0}} {
		if s, e := b.Slice(x[0], x[1]); s != "" || e != api.ErrRange {
			t.Errorf("Slice(%d, %d): %q, %d", x[0], x[1], s, e)
		}
	}
}

func TestSpliceWithinBounds(t *testing.T) {
	text := "vwxyz"
	for at := 0; at <= len(text); at++ {
		for del := 0; del <= len(text)-at; del++ {
			for _, ins := range []string{"", "1", "12"} {
				b := made(t, text, 10)
				spliced(t, b, api.Edit{At: at, Del: del, Ins: ins}, api.OK)
				holds(t, b, text[:at]+ins+text[at+del:], 1)
				undone(t, b, true)
				holds(t, b, text, 0)
				undone(t, b, false)
				holds(t, b, text, 0)
			}
		}
	}
}

func TestSpliceOutOfBounds(t *testing.T) {
	b := made(t, "abcd", 6)
	spliced(t, b, api.Edit{At: 2, Ins: "-"}, api.OK)
	least, most := math.MinInt, math.MaxInt
	for _, ins := range []string{"", "x", "seven b", strings.Repeat("x", api.MaxText+1)} {
		for _, x := range [][2]int{
			{-1, 0}, {-1, 1}, {0, -1}, {5, -1}, {0, 6}, {1, 5}, {4, 2}, {5, 1}, {6, 0}, {6, -1},
			{least, 0}, {least, least}, {least, most}, {0, least}, {5, least}, {0, most}, {1, most}, {5, most},
			{most, 0}, {most, 1}, {most, least}, {most, most}, {-1, most}, {most, -1},
		} {
			spliced(t, b, api.Edit{At: x[0], Del: x[1], Ins: ins}, api.ErrRange)
			holds(t, b, "ab-cd", 1)
		}
	}
	undone(t, b, true)
	holds(t, b, "abcd", 0)
}

func TestSpliceTooLong(t *testing.T) {
	b := made(t, "abcd", 6)
	for _, e := range []api.Edit{
		{At: 0, Ins: "123"}, {At: 2, Ins: "123"}, {At: 4, Ins: "123"}, {At: 1, Del: 1, Ins: "1234"}, {At: 0, Del: 4, Ins: "1234567"},
		{At: 0, Ins: strings.Repeat("x", api.MaxText+1)},
	} {
		spliced(t, b, e, api.ErrSize)
		holds(t, b, "abcd", 0)
		undone(t, b, false)
	}
	spliced(t, b, api.Edit{At: 4, Ins: "12"}, api.OK)
	holds(t, b, "abcd12", 1)
	spliced(t, b, api.Edit{At: 6, Ins: "3"}, api.ErrSize)
	spliced(t, b, api.Edit{At: 0, Del: 1, Ins: "34"}, api.ErrSize)
	holds(t, b, "abcd12", 1)
	spliced(t, b, api.Edit{At: 0, Del: 6, Ins: "654321"}, api.OK)
	holds(t, b, "654321", 2)
}

func TestMostIsNothing(t *testing.T) {
	b := made(t, "", 0)
	spliced(t, b, api.Edit{Ins: "a"}, api.ErrSize)
	spliced(t, b, api.Edit{Del: 1}, api.ErrRange)
	holds(t, b, "", 0)
	spliced(t, b, api.Edit{}, api.OK)
	holds(t, b, "", 1)
	undone(t, b, true)
	undone(t, b, false)
	holds(t, b, "", 0)
}

func TestMostIsMaxText(t *testing.T) {
	full := strings.Repeat("0123456789abcdef", api.MaxText/16)
	b := made(t, full, api.MaxText)
	spliced(t, b, api.Edit{At: api.MaxText, Ins: "x"}, api.ErrSize)
	spliced(t, b, api.Edit{At: api.MaxText + 1}, api.ErrRange)
	spliced(t, b, api.Edit{At: api.MaxText, Del: 1}, api.ErrRange)
	holds(t, b, full, 0)
	spliced(t, b, api.Edit{At: api.MaxText}, api.OK)
	spliced(t, b, api.Edit{Del: api.MaxText}, api.OK)
	holds(t, b, "", 2)
	spliced(t, b, api.Edit{Ins: full}, api.OK)
	spliced(t, b, api.Edit{At: api.MaxText - 1, Del: 1, Ins: "x"}, api.OK)
	holds(t, b, full[:api.MaxText-1]+"x", 4)
	for range 4 {
		undone(t, b, true)
	}
	undone(t, b, false)
	holds(t, b, full, 0)
}

func TestUndoToTheBeginning(t *testing.T) {
	b := made(t, "abcd", 8)
	texts := []string{"abcd"}
	for _, e := range []api.Edit{
		{At: 4, Ins: "e"}, {At: 0, Del: 1}, {At: 2, Del: 0, Ins: ""}, {At: 2, Del: 1, Ins: "123"}, {At: 0, Del: 6}, {Ins: "zzzzzzzz"}, {At: 3, Del: 2, Ins: "-"},
	} {
		last := texts[len(texts)-1]
		spliced(t, b, e, api.OK)
		texts = append(texts, last[:e.At]+e.Ins+last[e.At+e.Del:])
		holds(t, b, texts[len(texts)-1], len(texts)-1)
		spliced(t, b, api.Edit{At: -1}, api.ErrRange)
		spliced(t, b, api.Edit{Ins: "123456789"}, api.ErrSize)
	}
	for v := len(texts) - 2; v >= 0; v-- {
		undone(t, b, true)
		holds(t, b, texts[v], v)
	}
	for range 3 {
		undone(t, b, false)
		holds(t, b, "abcd", 0)
	}
}

func TestSpliceBehindUndo(t *testing.T) {
	b := made(t, "abcd", 8)
	spliced(t, b, api.Edit{At: 1, Ins: "1"}, api.OK)
	spliced(t, b, api.Edit{At: 2, Ins: "2"}, api.OK)
	undone(t, b, true)
	holds(t, b, "a1bcd", 1)
	spliced(t, b, api.Edit{At: 2, Ins: "3"}, api.OK)
	holds(t, b, "a13bcd", 2)
	undone(t, b, true)
	holds(t, b, "a1bcd", 1)
	undone(t, b, true)
	holds(t, b, "abcd", 0)
	undone(t, b, false)
}

// A piece that grows must not run over the one behind it, which may lie in the same array.
func TestPiecesShareNoRoom(t *testing.T) {
	b := made(t, "", 100)
	spliced(t, b, api.Edit{Ins: "abcdefgh"}, api.OK)
	spliced(t, b, api.Edit{At: 8, Ins: "i"}, api.OK)
	spliced(t, b, api.Edit{At: 4, Del: 1}, api.OK)
	spliced(t, b, api.Edit{At: 4, Ins: "123"}, api.OK)
	spliced(t, b, api.Edit{At: 2, Del: 1}, api.OK)
	spliced(t, b, api.Edit{At: 2, Ins: "456789"}, api.OK)
	holds(t, b, "ab456789d123fghi", 6)
}

// steps is a row of numbers that looks at random, the same at each run.
type steps uint32

func (s *steps) below(n int) int {
	*s = *s*1664525 + 1013904223
	return int(*s>>8) % n
}

// walk edits and undoes, and holds each text against one that is put together anew.
func walk(t *testing.T, seed steps, most, rounds int) {
	t.Helper()
	texts := []string{strings.Repeat("ab", most/4)}
	b := made(t, texts[0], most)
	for range rounds {
		last := texts[len(texts)-1]
		if seed.below(3) == 0 {
			undone(t, b, len(texts) > 1)
			texts = texts[:max(len(texts)-1, 1)]
		} else {
			at := seed.below(len(last) + 1)
			del := seed.below(min(len(last)-at, 6) + 1)
			ins := "0123456789"[:seed.below(8)]
			want := api.OK
			if len(last)-del+len(ins) > most {
				want = api.ErrSize
			} else {
				texts = append(texts, last[:at]+ins+last[at+del:])
			}
			spliced(t, b, api.Edit{At: at, Del: del, Ins: ins}, want)
		}
		holds(t, b, texts[len(texts)-1], len(texts)-1)
		now := b.Text()
		from := seed.below(len(now) + 1)
		to := from + seed.below(len(now)-from+1)
		if s, e := b.Slice(from, to); s != now[from:to] || e != api.OK {
			t.Fatalf("Slice(%d, %d): %q, %d", from, to, s, e)
		}
	}
	for v := len(texts) - 2; v >= 0; v-- {
		undone(t, b, true)
		holds(t, b, texts[v], v)
	}
	undone(t, b, false)
}

func TestManyEdits(t *testing.T) {
	for seed := range 50 {
		walk(t, steps(seed), 4+seed, 400)
	}
	walk(t, 1, 4000, 4000)
}

func TestTyping(t *testing.T) {
	b := made(t, "<p></p>", api.MaxText)
	for i := range 2000 {
		spliced(t, b, api.Edit{At: 3 + i, Ins: "x"}, api.OK)
	}
	holds(t, b, "<p>"+strings.Repeat("x", 2000)+"</p>", 2000)
	for range 2000 {
		undone(t, b, true)
	}
	holds(t, b, "<p></p>", 0)
}

func TestTwoBuffers(t *testing.T) {
	a, b := made(t, "same", 10), made(t, "same", 10)
	spliced(t, a, api.Edit{At: 2, Ins: "1"}, api.OK)
	holds(t, a, "sa1me", 1)
	holds(t, b, "same", 0)
	undone(t, b, false)
}

// What is handed in may be changed behind the call; what is handed out is no one else's.
func TestMemory(t *testing.T) {
	first, more := []byte("abcd"), []byte("xyz")
	b := made(t, unsafe.String(&first[0], len(first)), 20)
	spliced(t, b, api.Edit{At: 0, Ins: unsafe.String(&more[0], len(more))}, api.OK)
	spliced(t, b, api.Edit{At: 7, Ins: unsafe.String(&more[0], len(more))}, api.OK)
	text := b.Text()
	slice, _ := b.Slice(0, 10)
	clear(first)
	clear(more)
	holds(t, b, "xyzabcdxyz", 2)
	again := b.Text()
	if unsafe.StringData(text) == unsafe.StringData(again) || unsafe.StringData(text) == unsafe.StringData(slice) {
		t.Error("two answers share memory")
	}
	spliced(t, b, api.Edit{At: 1, Del: 8, Ins: "........"}, api.OK)
	undone(t, b, true)
	undone(t, b, true)
	undone(t, b, true)
	if text != "xyzabcdxyz" || slice != "xyzabcdxyz" || b.Text() != "abcd" {
		t.Errorf("%q %q %q", text, slice, b.Text())
	}
}

func TestUndoKeepsNothing(t *testing.T) {
	b := made(t, "abcd", 10)
	spliced(t, b, api.Edit{At: 0, Del: 4}, api.OK)
	undone(t, b, true)
	if kept := b.back[:1][0]; kept != (api.Edit{}) {
		t.Errorf("%v", kept)
	}
}

func TestNil(t *testing.T) {
	var b *Buf
	if b.Len() != 0 || b.Text() != "" || b.Version() != 0 || b.Undo() {
		t.Error("a nil buffer is not empty")
	}
	for _, n := range []int{math.MinInt, -1, 0, 1, math.MaxInt} {
		if s, e := b.Slice(0, n); s != "" || e != api.ErrArg {
			t.Errorf("Slice(0, %d): %q, %d", n, s, e)
		}
		spliced(t, b, api.Edit{At: n, Del: n}, api.ErrArg)
		spliced(t, b, api.Edit{Ins: "a"}, api.ErrArg)
	}
	if b.Len() != 0 || b.Text() != "" || b.Version() != 0 || b.Undo() {
		t.Error("a nil buffer was changed")
	}
}

// No call gives a Buf that New did not make; even so none panics.
func TestZeroBuf(t *testing.T) {
	b := &Buf{}
	undone(t, b, false)
	spliced(t, b, api.Edit{Ins: "a"}, api.ErrSize)
	spliced(t, b, api.Edit{}, api.OK)
	holds(t, b, "", 1)
}

func BenchmarkSplice(b *testing.B) {
	x, _ := New(strings.Repeat("x", api.MaxText-10), api.MaxText)
	seed := steps(7)
	for range b.N {
		x.Splice(api.Edit{At: seed.below(x.Len()), Ins: "y"})
		x.Splice(api.Edit{At: seed.below(x.Len()), Del: 1})
	}
}

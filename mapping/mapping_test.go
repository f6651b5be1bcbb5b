package mapping

import (
	"math"
	"strings"
	"testing"

	"taffrail/api"
)

const top = 1 << 40

// chapter is the edit of the chapter's examples: bytes 2 to 5 become ab.
func chapter() api.Edit { return api.Edit{At: 2, Del: 3, Ins: "ab"} }

// noEdits are edits that are none.
func noEdits() []api.Edit {
	return []api.Edit{
		{At: -1, Del: 3, Ins: "ab"},
		{At: 2, Del: -1, Ins: "ab"},
		{At: top + 1, Del: 3, Ins: "ab"},
		{At: 2, Del: top + 1, Ins: "ab"},
		{At: math.MinInt, Del: 3, Ins: "ab"},
		{At: math.MaxInt, Del: 3, Ins: "ab"},
		{At: 2, Del: math.MinInt, Ins: "ab"},
		{At: 2, Del: math.MaxInt, Ins: "ab"},
		{At: math.MaxInt, Del: math.MaxInt, Ins: "ab"},
	}
}

// everyEdit calls do for edits of all small shapes, and for great ones.
func everyEdit(do func(api.Edit)) {
	for at := range 4 {
		for del := range 4 {
			for ins := range 4 {
				do(api.Edit{At: at, Del: del, Ins: strings.Repeat("x", ins)})
			}
		}
	}
	for _, ins := range []string{"", "x", "xyz"} {
		do(api.Edit{At: top, Ins: ins})
		do(api.Edit{At: top, Del: top, Ins: ins})
		do(api.Edit{At: 0, Del: top, Ins: ins})
		do(api.Edit{At: top - 1, Del: 1, Ins: ins})
	}
	for _, e := range noEdits() {
		do(e)
	}
}

// places are those at, one ahead of and one behind whatever an edit is bounded by, and the farthest.
func places(e api.Edit) []int {
	l := []int{-5, 0, 9, -top, -top + 1, top - 1, top}
	for _, p := range []int{e.At, e.At + e.Del, e.At + len(e.Ins)} {
		l = append(l, p-1, p, p+1)
	}
	return l
}

func outside() []int {
	return []int{-top - 1, top + 1, math.MinInt, math.MaxInt, math.MinInt + 1, math.MaxInt - 1}
}

// wantPoint is 2.1's words one by one.
func wantPoint(e api.Edit, at int, after bool) int {
	if at < -top || at > top {
		return 0
	}
	if e.At < 0 || e.Del < 0 || e.At > top || e.Del > top {
		e = api.Edit{}
	}
	if at < e.At {
		return at
	}
	if at > e.At+e.Del || at == e.At+e.Del && e.Del > 0 {
		return at + len(e.Ins) - e.Del
	}
	if after {
		return e.At + len(e.Ins)
	}
	return e.At
}

func TestCheck(t *testing.T) {
	const least, most = math.MinInt, math.MaxInt
	for _, c := range []struct {
		at, del, n int
		want       api.Errno
	}{
		{2, 3, 5, api.OK}, {2, 3, 4, api.ErrRange}, {2, 3, 6, api.OK},
		{0, 0, 0, api.OK}, {0, 1, 0, api.ErrRange}, {1, 0, 0, api.ErrRange},
		{5, 0, 5, api.OK}, {6, 0, 5, api.ErrRange}, {5, 1, 5, api.ErrRange},
		{0, 5, 5, api.OK}, {0, 6, 5, api.ErrRange},
		{-1, 0, 5, api.ErrRange}, {-1, 1, 5, api.ErrRange}, {2, -1, 5, api.ErrRange},
		{0, 0, -1, api.ErrRange}, {-1, 0, -1, api.ErrRange}, {-2, 1, -1, api.ErrRange}, {0, -1, -1, api.ErrRange},
		{0, 0, least, api.ErrRange}, {least, 0, least, api.ErrRange}, {0, least, least, api.ErrRange},
		{least, 0, 5, api.ErrRange}, {2, least, 5, api.ErrRange}, {most, 0, 5, api.ErrRange}, {2, most, 5, api.ErrRange},
		{most, most, 5, api.ErrRange}, {least, least, 5, api.ErrRange}, {least, most, most, api.ErrRange}, {most, least, most, api.ErrRange},
		{most, 0, most, api.OK}, {0, most, most, api.OK}, {most, 1, most, api.ErrRange}, {1, most, most, api.ErrRange}, {1, most - 1, most, api.OK},
		{top + 1, 0, top + 1, api.OK}, {0, top + 1, top + 1, api.OK}, {top, top, 2 * top, api.OK}, {top, top, 2*top - 1, api.ErrRange},
	} {
		for _, ins := range []string{"", "abc"} {
			if got := Check(api.Edit{At: c.at, Del: c.del, Ins: ins}, c.n); got != c.want {
				t.Errorf("Check {%d %d %q} of %d: %d, not %d", c.at, c.del, ins, c.n, got, c.want)
			}
		}
	}
}

func TestPointExamples(t *testing.T) {
	for _, c := range []struct {
		e             api.Edit
		at            int
		before, after int
	}{
		{chapter(), 1, 1, 1}, {chapter(), 2, 2, 4}, {chapter(), 3, 2, 4}, {chapter(), 4, 2, 4}, {chapter(), 5, 4, 4}, {chapter(), 6, 5, 5}, {chapter(), 9, 8, 8},
		{api.Edit{At: 2, Ins: "xyz"}, 1, 1, 1}, {api.Edit{At: 2, Ins: "xyz"}, 2, 2, 5}, {api.Edit{At: 2, Ins: "xyz"}, 3, 6, 6},
		{api.Edit{At: 2, Del: 2}, 1, 1, 1}, {api.Edit{At: 2, Del: 2}, 2, 2, 2}, {api.Edit{At: 2, Del: 2}, 3, 2, 2}, {api.Edit{At: 2, Del: 2}, 4, 2, 2}, {api.Edit{At: 2, Del: 2}, 5, 3, 3},
		{api.Edit{At: 2}, 1, 1, 1}, {api.Edit{At: 2}, 2, 2, 2}, {api.Edit{At: 2}, 3, 3, 3},
		{chapter(), -1, -1, -1}, {chapter(), -top, -top, -top}, {chapter(), top, top - 1, top - 1},
		{api.Edit{At: top, Ins: "xyz"}, top, top, top + 3}, {api.Edit{At: top - 1, Ins: "xyz"}, top, top + 3, top + 3}, {api.Edit{At: top, Del: top}, top, top, top},
		{api.Edit{Del: top}, top, 0, 0}, {api.Edit{Del: top}, top - 1, 0, 0}, {api.Edit{Del: top, Ins: "xyz"}, top, 3, 3},
	} {
		if a, b := Point(c.e, c.at, false), Point(c.e, c.at, true); a != c.before || b != c.after {
			t.Errorf("Point %v %d: %d, after %d", c.e, c.at, a, b)
		}
	}
}

func TestPointEverywhere(t *testing.T) {
	everyEdit(func(e api.Edit) {
		for _, at := range append(places(e), outside()...) {
			for _, after := range []bool{false, true} {
				if got, want := Point(e, at, after), wantPoint(e, at, after); got != want {
					t.Errorf("Point %v %d %v: %d, not %d", e, at, after, got, want)
				}
			}
		}
	})
}

func TestNoEdit(t *testing.T) {
	for _, e := range noEdits() {
		for _, at := range []int{-top, -1, 0, 1, 2, 5, top} {
			back, ok := Back(e, at)
			if Point(e, at, false) != at || Point(e, at, true) != at || back != at || !ok {
				t.Errorf("%v moves %d", e, at)
			}
		}
		if s := Span(e, api.Span{From: 1, To: 7}); s != (api.Span{From: 1, To: 7}) {
			t.Errorf("%v moves a span: %v", e, s)
		}
		if Through([]api.Edit{e, chapter()}, 9, false) != 8 {
			t.Errorf("%v within Through", e)
		}
		for _, s := range []api.Span{{From: 0, To: 0}, {From: 0, To: 9}, {From: -3, To: 0}, {From: math.MinInt, To: math.MaxInt}} {
			if !Touches(e, s) {
				t.Errorf("%v does not touch %v, which has place 0", e, s)
			}
		}
		for _, s := range []api.Span{{From: 1, To: 9}, {From: -3, To: -1}, api.None()} {
			if Touches(e, s) {
				t.Errorf("%v touches %v", e, s)
			}
		}
	}
	for _, e := range []api.Edit{{At: top, Ins: "x"}, {At: top, Del: top, Ins: "x"}, {Del: top, Ins: "x"}} {
		if Point(e, e.At, true) != e.At+1 {
			t.Errorf("%v is an edit", e)
		}
	}
}

func TestPlacesOutside(t *testing.T) {
	everyEdit(func(e api.Edit) {
		for _, at := range outside() {
			back, ok := Back(e, at)
			if Point(e, at, false) != 0 || Point(e, at, true) != 0 || back != 0 || ok {
				t.Errorf("%v: place %d is told", e, at)
			}
		}
	})
}

func TestSpan(t *testing.T) {
	e := chapter()
	gone := api.Edit{At: 2, Del: 3}
	put := api.Edit{At: 2, Ins: "xyz"}
	for _, c := range []struct {
		e       api.Edit
		s, want api.Span
	}{
		{e, api.None(), api.None()}, {e, api.Span{From: -1, To: 7}, api.None()}, {e, api.Span{From: -2, To: -1}, api.None()},
		{e, api.Span{From: math.MinInt, To: math.MaxInt}, api.None()}, {e, api.Span{From: -top, To: top}, api.None()}, {put, api.None(), api.None()},
		{e, api.Span{From: 0, To: 9}, api.Span{From: 0, To: 8}}, {e, api.Span{From: 0, To: 1}, api.Span{From: 0, To: 1}}, {e, api.Span{From: 0, To: 2}, api.Span{From: 0, To: 2}},
		{e, api.Span{From: 5, To: 7}, api.Span{From: 4, To: 6}}, {e, api.Span{From: 6, To: 7}, api.Span{From: 5, To: 6}},
		{e, api.Span{From: 3, To: 4}, api.Span{From: 2, To: 2}}, {e, api.Span{From: 2, To: 5}, api.Span{From: 4, To: 4}}, {e, api.Span{From: 2, To: 4}, api.Span{From: 2, To: 2}},
		{e, api.Span{From: 0, To: 3}, api.Span{From: 0, To: 2}}, {e, api.Span{From: 3, To: 9}, api.Span{From: 4, To: 8}},
		{e, api.Span{From: 1, To: 1}, api.Span{From: 1, To: 1}}, {e, api.Span{From: 2, To: 2}, api.Span{From: 2, To: 2}}, {e, api.Span{From: 3, To: 3}, api.Span{From: 2, To: 2}},
		{e, api.Span{From: 5, To: 5}, api.Span{From: 4, To: 4}}, {e, api.Span{From: 6, To: 6}, api.Span{From: 5, To: 5}},
		{gone, api.Span{From: 3, To: 4}, api.Span{From: 2, To: 2}}, {gone, api.Span{From: 0, To: 9}, api.Span{From: 0, To: 6}}, {gone, api.Span{From: 2, To: 2}, api.Span{From: 2, To: 2}},
		{put, api.Span{From: 0, To: 2}, api.Span{From: 0, To: 2}}, {put, api.Span{From: 2, To: 4}, api.Span{From: 5, To: 7}}, {put, api.Span{From: 1, To: 3}, api.Span{From: 1, To: 6}}, {put, api.Span{From: 2, To: 2}, api.Span{From: 2, To: 2}},
		{e, api.Span{From: 7, To: 3}, api.Span{From: 6, To: 6}}, {e, api.Span{From: 7, To: -1}, api.Span{From: 6, To: 6}}, {e, api.Span{From: 0, To: math.MinInt}, api.Span{}},
		{e, api.Span{From: 0, To: top}, api.Span{From: 0, To: top - 1}}, {e, api.Span{From: 7, To: top + 1}, api.Span{From: 6, To: 6}}, {e, api.Span{From: 7, To: math.MaxInt}, api.Span{From: 6, To: 6}},
		{e, api.Span{From: top + 1, To: top + 2}, api.Span{}}, {e, api.Span{From: math.MaxInt, To: 9}, api.Span{From: 0, To: 8}},
		{put, api.Span{From: top, To: top}, api.Span{From: top + 3, To: top + 3}}, {put, api.Span{From: 0, To: top}, api.Span{From: 0, To: top + 3}},
	} {
		if got := Span(c.e, c.s); got != c.want {
			t.Errorf("Span %v %v: %v, not %v", c.e, c.s, got, c.want)
		}
	}
}

func TestSpanEverywhere(t *testing.T) {
	everyEdit(func(e api.Edit) {
		for _, from := range append(places(e), outside()...) {
			for _, to := range append(places(e), outside()...) {
				want := api.Span{From: wantPoint(e, from, true), To: wantPoint(e, to, false)}
				if want.To < want.From {
					want.From = wantPoint(e, from, false)
					want.To = want.From
				}
				if from < 0 {
					want = api.None()
				}
				if got := Span(e, api.Span{From: from, To: to}); got != want {
					t.Errorf("Span %v {%d %d}: %v, not %v", e, from, to, got, want)
				}
			}
		}
	})
}

func TestThrough(t *testing.T) {
	e, put := chapter(), api.Edit{At: 2, Ins: "xyz"}
	for _, c := range []struct {
		l     []api.Edit
		at    int
		after bool
		want  int
	}{
		{nil, 7, false, 7}, {[]api.Edit{}, -3, true, -3},
		{[]api.Edit{e}, 9, false, 8}, {[]api.Edit{e, put}, 9, false, 11}, {[]api.Edit{put, e}, 9, false, 11},
		{[]api.Edit{e, put}, 3, false, 2}, {[]api.Edit{e, put}, 3, true, 7}, {[]api.Edit{put, e}, 2, false, 2}, {[]api.Edit{put, e}, 2, true, 4},
		{[]api.Edit{put, put, put}, 2, true, 11}, {[]api.Edit{put, put, put}, 2, false, 2}, {[]api.Edit{put, put, put}, 1, true, 1},
		{[]api.Edit{e, put}, top + 1, false, 0}, {[]api.Edit{e, {Ins: "xyz"}}, math.MaxInt, true, 3},
		{[]api.Edit{put, e}, top, false, 0},
	} {
		if got := Through(c.l, c.at, c.after); got != c.want {
			t.Errorf("Through %v %d %v: %d, not %d", c.l, c.at, c.after, got, c.want)
		}
	}
	l := []api.Edit{e, put}
	Through(l[:1], 9, true)
	if l[0] != e || l[1] != put {
		t.Error("the list is changed")
	}
}

func TestTouches(t *testing.T) {
	e, put := chapter(), api.Edit{At: 2, Ins: "xyz"}
	for _, c := range []struct {
		e    api.Edit
		s    api.Span
		want bool
	}{
		{e, api.Span{From: 5, To: 7}, true}, {e, api.Span{From: 6, To: 7}, false}, {e, api.Span{From: 0, To: 2}, true}, {e, api.Span{From: 0, To: 1}, false},
		{e, api.Span{From: 3, To: 4}, true}, {e, api.Span{From: 0, To: 9}, true}, {e, api.Span{From: 2, To: 5}, true},
		{e, api.Span{From: 1, To: 1}, false}, {e, api.Span{From: 2, To: 2}, true}, {e, api.Span{From: 5, To: 5}, true}, {e, api.Span{From: 6, To: 6}, false},
		{put, api.Span{From: 2, To: 2}, true}, {put, api.Span{From: 0, To: 2}, true}, {put, api.Span{From: 2, To: 4}, true}, {put, api.Span{From: 0, To: 4}, true}, {put, api.Span{From: 3, To: 4}, false}, {put, api.Span{From: 0, To: 1}, false},
		{e, api.None(), false}, {api.Edit{}, api.None(), false}, {api.Edit{}, api.Span{From: -4, To: 0}, true}, {api.Edit{}, api.Span{}, true},
		{e, api.Span{From: 4, To: 3}, false}, {e, api.Span{From: 9, To: 0}, false}, {e, api.Span{From: math.MaxInt, To: math.MinInt}, false},
		{e, api.Span{From: math.MinInt, To: math.MaxInt}, true}, {e, api.Span{From: math.MinInt, To: 1}, false}, {e, api.Span{From: math.MinInt, To: 2}, true}, {e, api.Span{From: 5, To: math.MaxInt}, true}, {e, api.Span{From: 6, To: math.MaxInt}, false},
		{api.Edit{At: top, Del: top}, api.Span{From: 2 * top, To: 2 * top}, true}, {api.Edit{At: top, Del: top}, api.Span{From: 2*top + 1, To: math.MaxInt}, false}, {api.Edit{At: top, Del: top}, api.Span{From: 0, To: top - 1}, false}, {api.Edit{At: top, Del: top}, api.Span{From: 0, To: top}, true},
	} {
		if got := Touches(c.e, c.s); got != c.want {
			t.Errorf("Touches %v %v: %v", c.e, c.s, got)
		}
	}
}

func TestBack(t *testing.T) {
	e, put, gone := chapter(), api.Edit{At: 2, Ins: "xyz"}, api.Edit{At: 2, Del: 3}
	for _, c := range []struct {
		e    api.Edit
		at   int
		want int
		ok   bool
	}{
		{e, 1, 1, true}, {e, 2, 2, false}, {e, 3, 2, false}, {e, 4, 5, true}, {e, 5, 6, true}, {e, 8, 9, true}, {e, -1, -1, true},
		{put, 1, 1, true}, {put, 2, 2, false}, {put, 4, 2, false}, {put, 5, 2, true}, {put, 6, 3, true},
		{gone, 1, 1, true}, {gone, 2, 5, true}, {gone, 3, 6, true},
		{api.Edit{At: 2}, 1, 1, true}, {api.Edit{At: 2}, 2, 2, true}, {api.Edit{At: 2}, 3, 3, true},
		{e, -top, -top, true}, {e, top, top + 1, true}, {put, top, top - 3, true},
		{api.Edit{At: top, Del: top}, top, 2 * top, true}, {api.Edit{At: top, Del: top}, top - 1, top - 1, true}, {api.Edit{At: top, Ins: "x"}, top, top, false},
	} {
		if got, ok := Back(c.e, c.at); got != c.want || ok != c.ok {
			t.Errorf("Back %v %d: %d %v", c.e, c.at, got, ok)
		}
	}
}

func TestBackEverywhere(t *testing.T) {
	everyEdit(func(e api.Edit) {
		for _, at := range places(e) {
			if at < -top || at > top {
				continue
			}
			d := e
			if e.At < 0 || e.Del < 0 || e.At > top || e.Del > top {
				d = api.Edit{}
			}
			want, wantOk := d.At, false
			if at < d.At {
				want, wantOk = at, true
			} else if at >= d.At+len(d.Ins) {
				want, wantOk = at+d.Del-len(d.Ins), true
			}
			if got, ok := Back(e, at); got != want || ok != wantOk {
				t.Errorf("Back %v %d: %d %v, not %d %v", e, at, got, ok, want, wantOk)
			}
		}
	})
}

// A place that Point tells beyond 2^40 has no way back, by 2.2's own bound.
func TestBackOfPoint(t *testing.T) {
	everyEdit(func(e api.Edit) {
		for _, at := range places(e) {
			within := e.Del > 0 && at >= e.At && at < e.At+e.Del
			for _, after := range []bool{false, true} {
				p := Point(e, at, after)
				if within || at < -top || at > top || p > top {
					continue
				}
				if got, _ := Back(e, p); got != at {
					t.Errorf("Back of Point %v %d %v: %d", e, at, after, got)
				}
			}
		}
	})
	if got, ok := Back(api.Edit{Ins: "x"}, Point(api.Edit{Ins: "x"}, top, false)); got != 0 || ok {
		t.Errorf("Back of a place beyond 2^40: %d %v", got, ok)
	}
}

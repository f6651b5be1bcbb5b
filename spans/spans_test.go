package spans

import (
	"math"
	"slices"
	"testing"

	"taffrail/api"
	"taffrail/rawtext"
)

func part(from, to, class int) api.Part {
	return api.Part{Span: api.Span{From: from, To: to}, Class: class}
}

func text(from, to int) api.Part { return part(from, to, api.ClassText) }

func tag(from, to int) api.Part { return part(from, to, api.ClassTag) }

// row gives parts in memory of their own.
func row(l ...api.Part) []api.Part { return slices.Clone(l) }

// several is a row with all classes, as Cover may tell it of 12 bytes.
func several() []api.Part {
	return row(text(0, 1), part(1, 5, api.ClassRef), text(5, 6), tag(6, 8), tag(8, 9), part(9, 10, api.ClassComment), part(10, 11, api.ClassDoctype), text(11, 12))
}

func TestExamples(t *testing.T) {
	tests := []struct {
		s    string
		want []api.Part
	}{
		{"<b>hi</b>", row(tag(0, 3), text(3, 5), tag(5, 9))},
		{"a</>b", row(text(0, 1), tag(1, 4), text(4, 5))},
	}
	for _, x := range tests {
		l, _ := rawtext.Data(x.s)
		got := Cover(l, len(x.s))
		if !slices.Equal(got, x.want) || !Check(got, len(x.s)) || !Same(got, x.want) {
			t.Errorf("%s: %v", x.s, got)
		}
		for at := range len(x.s) {
			i := slices.IndexFunc(x.want, func(p api.Part) bool { return at < p.Span.To })
			if At(got, at) != x.want[i].Class {
				t.Errorf("%s: byte %d has class %d", x.s, at, At(got, at))
			}
		}
	}
}

// odd are numbers at and about the ends of an int.
func odd() []int {
	return []int{math.MinInt, math.MinInt + 1, math.MinInt32, -2, -1, math.MaxInt32, 1 << 32, math.MaxInt - 1, math.MaxInt}
}

func TestCheckNoParts(t *testing.T) {
	for _, n := range append(odd(), 0, 1, 2, 100) {
		if got := Check(nil, n); got != (n <= 0) {
			t.Errorf("no parts, n %d: %v", n, got)
		}
		if Check([]api.Part{}, n) != Check(nil, n) {
			t.Errorf("n %d: an empty row is not as nil", n)
		}
	}
}

func TestCheck(t *testing.T) {
	const most, least = math.MaxInt, math.MinInt
	tests := []struct {
		why  string
		l    []api.Part
		n    int
		want bool
	}{
		{"one part", row(text(0, 1)), 1, true},
		{"all classes", several(), 12, true},
		{"one byte too few", several(), 13, false},
		{"one byte too many", several(), 11, false},
		{"n 0", row(text(0, 1)), 0, false},
		{"n below 0", row(text(0, 1)), -1, false},
		{"n as a part that is turned round", row(text(0, -1)), -1, false},
		{"the greatest int", row(tag(0, most)), most, true},
		{"up to the greatest int", row(text(0, most-1), tag(most-1, most)), most, true},
		{"not quite up to it", row(tag(0, most-1)), most, false},
		{"from the least int", row(tag(least, most)), most, false},
		{"from the least int on", row(tag(least, 0), tag(0, 3)), 3, false},
		{"an empty part alone", row(tag(0, 0)), 0, false},
		{"an empty part ahead", row(tag(0, 0), tag(0, 3)), 3, false},
		{"an empty part between", row(tag(0, 1), tag(1, 1), tag(1, 3)), 3, false},
		{"an empty part behind", row(tag(0, 3), tag(3, 3)), 3, false},
		{"To ahead of From, alone", row(tag(0, -3)), 0, false},
		{"To ahead of From, between", row(tag(0, 2), tag(2, 1), tag(1, 3)), 3, false},
		{"To ahead of From, behind", row(tag(0, 4), tag(4, 3)), 3, false},
		{"To ahead of From, to the least int", row(tag(0, least), tag(least, 3)), 3, false},
		{"a gap", row(tag(0, 1), tag(2, 3)), 3, false},
		{"a gap of many bytes", row(tag(0, 1), tag(most-1, most)), most, false},
		{"an overlap", row(tag(0, 2), tag(1, 3)), 3, false},
		{"twice the same", row(tag(0, 3), tag(0, 3)), 3, false},
		{"one within another", row(tag(0, 3), tag(1, 2)), 3, false},
		{"out of order", row(tag(1, 3), tag(0, 1)), 3, false},
		{"begins behind 0", row(tag(1, 3)), 3, false},
		{"begins ahead of 0", row(tag(-1, 3)), 3, false},
		{"ends ahead of n", row(tag(0, 1), tag(1, 2)), 3, false},
		{"ends behind n", row(tag(0, 1), tag(1, 4)), 3, false},
		{"none", row(part(-1, -1, api.ClassTag)), 0, false},
		{"texts side by side", row(text(0, 1), text(1, 3)), 3, false},
		{"texts side by side at last", row(tag(0, 1), text(1, 2), text(2, 3)), 3, false},
		{"texts and a part between", row(text(0, 1), tag(1, 2), text(2, 3)), 3, true},
		{"text and reference", row(text(0, 1), part(1, 2, api.ClassRef), text(2, 3)), 3, true},
		{"three texts", row(text(0, 1), text(1, 2), text(2, 3)), 3, false},
	}
	for _, x := range tests {
		before := slices.Clone(x.l)
		if Check(x.l, x.n) != x.want {
			t.Errorf("%s: %v, n %d: %v", x.why, x.l, x.n, !x.want)
		}
		if !slices.Equal(before, x.l) {
			t.Errorf("%s: the row was changed", x.why)
		}
	}
}

func TestCheckClasses(t *testing.T) {
	for _, class := range append(odd(), 0, 1, 2, 3, 4, 5, 6, 7, 1<<32+api.ClassTag, -api.ClassTag) {
		is := class >= 1 && class <= 5
		if got := Check(row(part(0, 2, class)), 2); got != is {
			t.Errorf("class %d alone: %v", class, got)
		}
		if got := Check(row(tag(0, 1), part(1, 2, class), tag(2, 3)), 3); got != is {
			t.Errorf("class %d between others: %v", class, got)
		}
		if got := Check(row(tag(0, 1), part(1, 2, class)), 2); got != is {
			t.Errorf("class %d at last: %v", class, got)
		}
		if got := Check(row(part(0, 1, class), part(1, 2, class)), 2); got != (is && class != api.ClassText) {
			t.Errorf("class %d twice: %v", class, got)
		}
	}
}

// A row that is right, and each of its numbers changed.
func TestCheckOneNumberChanged(t *testing.T) {
	for i := range several() {
		for _, by := range []int{-12, -2, -1, 1, 2, 12} {
			l := several()
			l[i].Span.From += by
			if Check(l, 12) {
				t.Errorf("From: %v", l)
			}
			l = several()
			l[i].Span.To += by
			if Check(l, 12) {
				t.Errorf("To: %v", l)
			}
		}
		if l := slices.Delete(several(), i, i+1); Check(l, 12) {
			t.Errorf("without part %d: %v", i, l)
		}
		if l := slices.Insert(several(), i, several()[i]); Check(l, 12) {
			t.Errorf("part %d twice: %v", i, l)
		}
	}
}

func TestAt(t *testing.T) {
	l := several()
	want := []int{1, 5, 5, 5, 5, 1, 2, 2, 2, 3, 4, 1}
	for at, class := range want {
		if At(l, at) != class {
			t.Errorf("byte %d: %d, want %d", at, At(l, at), class)
		}
	}
	for _, at := range append(odd(), 12, 13) {
		if At(l, at) != 0 {
			t.Errorf("byte %d: %d", at, At(l, at))
		}
	}
	if !slices.Equal(l, several()) {
		t.Error("the row was changed")
	}
}

func TestAtNoParts(t *testing.T) {
	for _, at := range append(odd(), 0, 1) {
		if At(nil, at) != 0 || At([]api.Part{}, at) != 0 {
			t.Errorf("byte %d: a class", at)
		}
	}
}

// Rows that Cover never tells.
func TestAtOtherRows(t *testing.T) {
	const most, least = math.MaxInt, math.MinInt
	gaps := row(part(2, 4, 3), part(6, 8, 4))
	overlap := row(part(0, 3, 1), part(1, 5, 2), part(0, 9, 3), part(4, 5, 4), part(9, 10, 5))
	empty := row(part(3, 3, 1), part(4, 2, 2), part(most, least, 2), part(0, 9, 3))
	falling := row(part(5, 9, 1), part(0, 6, 2))
	all := row(part(least, most, 4))
	ends := row(part(least, least+1, 1), part(most-1, most, 2), part(most, most, 3))
	odd := row(part(0, 1, 77), part(1, 2, -1), part(2, 3, least), part(3, 4, 0), part(0, 9, 5))
	tests := []struct {
		l        []api.Part
		at, want int
	}{
		{gaps, 0, 0}, {gaps, 1, 0}, {gaps, 2, 3}, {gaps, 3, 3}, {gaps, 4, 0}, {gaps, 5, 0}, {gaps, 6, 4}, {gaps, 7, 4}, {gaps, 8, 0}, {gaps, -1, 0},
		{overlap, 0, 1}, {overlap, 2, 1}, {overlap, 3, 2}, {overlap, 4, 2}, {overlap, 5, 3}, {overlap, 8, 3}, {overlap, 9, 5}, {overlap, 10, 0},
		{empty, 2, 3}, {empty, 3, 3}, {empty, 4, 3}, {empty, most, 0}, {empty, least, 0}, {empty, -1, 0},
		{falling, 4, 2}, {falling, 5, 1}, {falling, 8, 1}, {falling, 9, 0},
		{all, least, 4}, {all, -1, 4}, {all, 0, 4}, {all, most - 1, 4}, {all, most, 0},
		{ends, least, 1}, {ends, least + 1, 0}, {ends, most - 2, 0}, {ends, most - 1, 2}, {ends, most, 0},
		{odd, 0, 77}, {odd, 1, -1}, {odd, 2, least}, {odd, 3, 0}, {odd, 4, 5},
	}
	for _, x := range tests {
		if got := At(x.l, x.at); got != x.want {
			t.Errorf("%v, byte %d: %d, want %d", x.l, x.at, got, x.want)
		}
	}
}

func checkSame(t *testing.T, a, b []api.Part, want bool) {
	t.Helper()
	if Same(a, b) != want || Same(b, a) != want {
		t.Errorf("%v and %v: %v, the other way round %v", a, b, Same(a, b), Same(b, a))
	}
}

func TestSame(t *testing.T) {
	l := several()
	checkSame(t, l, l, true)
	checkSame(t, l, several(), true)
	checkSame(t, nil, nil, true)
	checkSame(t, nil, []api.Part{}, true)
	checkSame(t, []api.Part{}, make([]api.Part, 0, 4), true)
	checkSame(t, l, nil, false)
	checkSame(t, l, []api.Part{}, false)
	checkSame(t, nil, row(api.Part{}), false)
	checkSame(t, row(api.Part{}), row(api.Part{}), true)
	checkSame(t, row(api.Part{}), row(api.Part{}, api.Part{}), false)
	for i := range l {
		checkSame(t, l, l[:i], false)
		checkSame(t, l, l[i+1:], false)
		checkSame(t, l[:i], l[:i:i], true)
	}
	checkSame(t, row(text(0, 1), tag(1, 2)), row(tag(1, 2), text(0, 1)), false)
	checkSame(t, row(text(0, 1), text(1, 2)), row(text(0, 2)), false)
	if !slices.Equal(l, several()) {
		t.Error("the row was changed")
	}
}

func TestSameOneFieldChanged(t *testing.T) {
	for i := range several() {
		for _, to := range append(odd(), 99) {
			a := several()
			a[i].Span.From = to
			checkSame(t, a, several(), false)
			b := several()
			b[i].Span.To = to
			checkSame(t, b, several(), false)
			c := several()
			c[i].Class = to
			checkSame(t, c, several(), false)
			checkSame(t, a, b, false)
			checkSame(t, b, c, false)
			checkSame(t, c, slices.Clone(c), true)
		}
	}
}

// Rows that may not be are held against each other, too.
func TestSameOtherRows(t *testing.T) {
	const most, least = math.MaxInt, math.MinInt
	a := row(part(most, least, 0), part(-1, -1, least), part(0, 0, most))
	checkSame(t, a, slices.Clone(a), true)
	checkSame(t, a, row(part(most, least, 0), part(-1, -1, least), part(0, 0, most-1)), false)
	checkSame(t, row(part(0, 1, 2)), row(part(1, 0, 2)), false)
	checkSame(t, row(part(0, 1, 1<<32+1)), row(part(0, 1, 1)), false)
}

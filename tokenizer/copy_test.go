package tokenizer

import (
	"fmt"
	"slices"
	"strings"
	"testing"

	"taffrail/api"
	"taffrail/tokens"
)

// everything are all texts of the tables, and those that end within a state.
func everything() []said {
	l := slices.Concat(refRows(), endRows())
	for _, r := range rows() {
		l = append(l, r...)
	}
	for _, in := range starts() {
		for _, s := range unfinished() {
			l = append(l, said{in: in, s: s})
		}
	}
	return l
}

// others are texts that a copy goes on to, each of which ends something or goes on with it.
func others() []string {
	return []string{"", "x>y", "\"z'>--><b c=d e", "amp;lt;#x41;]]>]x", "-->", "</p></p x>&notin", "q=1 r='2' q s/>&lt;", "octype html y>", "CDATA[zz]]>", "é€>😀"}
}

// goOn feeds a text to m, from byte at on, and ends it.
func goOn(m *Machine, s string, at int) ([]api.Token, []api.Fault) {
	var out []api.Token
	for _, c := range chars(s) {
		out = append(out, m.Feed(api.Char{R: c.R, From: c.From + at, To: c.To + at})...)
	}
	return append(out, m.End(at+len(s))...), m.Faults()
}

func checkGoesOn(t *testing.T, what string, m *Machine, rest []api.Char, end int, want []api.Token, faults []api.Fault) {
	t.Helper()
	got := append(feed(m, rest), m.End(end)...)
	if !tokens.List(got, want) {
		t.Errorf("%s: %s, want %s", what, told(got), told(want))
	}
	checkFaults(t, what, m.Faults(), faults)
}

// A machine that is copied behind each of its characters: it and its copies go on to the same text.
func TestCopyGoesOnAlike(t *testing.T) {
	for _, x := range everything() {
		l := chars(x.s)
		want, faults := x.in.all(x.s)
		m := x.in.machine()
		n := 0
		for i := range len(l) + 1 {
			what := fmt.Sprintf("%v %q, behind %d", x.in, x.s, i)
			first := m.Copy()
			second := first.Copy()
			checkGoesOn(t, what+", a copy", first, l[i:], len(x.s), want[n:], faults)
			checkGoesOn(t, what+", a copy's copy", second, l[i:], len(x.s), want[n:], faults)
			if i < len(l) {
				n += len(m.Feed(l[i]))
			}
		}
		checkGoesOn(t, fmt.Sprintf("%v %q, itself", x.in, x.s), m, nil, len(x.s), want[n:], faults)
	}
}

// A machine and its copy go on to different texts, in turn, and neither changes the other.
func TestCopyGoesOnApart(t *testing.T) {
	t.Parallel()
	for _, x := range everything() {
		l := chars(x.s)
		at := 0
		for i := range len(l) + 1 {
			for _, k := range []int{i % len(others()), (i + 3) % len(others())} {
				s, r := others()[k], others()[(k+1)%len(others())]
				m := x.in.machine()
				feed(m, l[:i])
				c := m.Copy()
				turns(t, fmt.Sprintf("%v %q, behind %d: %q and %q", x.in, x.s, i, s, r), x.in, x.s[:at], m, c, s, r)
			}
			if i < len(l) {
				at = l[i].To
			}
		}
	}
}

// turns feeds s to m and r to c, a character each in turn, and holds both against machines that are made anew.
func turns(t *testing.T, what string, in start, ahead string, m, c *Machine, s, r string) {
	t.Helper()
	alone := func(more string) ([]api.Token, []api.Fault) {
		x := in.machine()
		feed(x, chars(ahead))
		return goOn(x, more, len(ahead))
	}
	wantM, faultsM := alone(s)
	wantC, faultsC := alone(r)
	var gotM, gotC []api.Token
	ls, lr := chars(s), chars(r)
	for i := range max(len(ls), len(lr)) {
		if i < len(ls) {
			gotM = append(gotM, m.Feed(api.Char{R: ls[i].R, From: ls[i].From + len(ahead), To: ls[i].To + len(ahead)})...)
		}
		if i < len(lr) {
			gotC = append(gotC, c.Feed(api.Char{R: lr[i].R, From: lr[i].From + len(ahead), To: lr[i].To + len(ahead)})...)
		}
	}
	gotC = append(gotC, c.End(len(ahead)+len(r))...)
	gotM = append(gotM, m.End(len(ahead)+len(s))...)
	if !tokens.List(gotM, wantM) || !slices.Equal(m.Faults(), faultsM) {
		t.Errorf("%s: the machine tells %s, %s", what, told(gotM), wrong(m.Faults()))
	}
	if !tokens.List(gotC, wantC) || !slices.Equal(c.Faults(), faultsC) {
		t.Errorf("%s: the copy tells %s, %s", what, told(gotC), wrong(c.Faults()))
	}
}

// What is set of the one is not set of the other.
func TestCopyIsSetAlone(t *testing.T) {
	m := inRaw("p").machine()
	m.Foreign(true)
	c := m.Copy()
	c.Set(api.TextData)
	c.Foreign(false)
	if got := told(feed(m, chars("<b></p><![CDATA[x]]>"))); got != "'<b>@0-3 </p>@3-7 'x@16-17" {
		t.Errorf("the machine: %s", got)
	}
	if got := told(feed(c, chars("<b></p><![CDATA[x]]>"))); got != "<b>@0-3 </p>@3-7 <!--[CDATA[x]]-->@7-20" {
		t.Errorf("the copy: %s", got)
	}
	c.End(0)
	c.Set(api.TextRaw)
	if got := told(feed(m, chars("<i>"))) + told(feed(m.Copy(), chars("<i>"))); got != "<i>@0-3<i>@0-3" {
		t.Errorf("the machine behind the copy's end: %s", got)
	}
	checkFaults(t, "the machine", m.Faults(), nil)
	checkFaults(t, "the copy", c.Faults(), []api.Fault{{Code: api.FaultCdata, At: 9}})
}

// deep gives tokens in memory of their own.
func deep(l []api.Token) []api.Token {
	out := slices.Clone(l)
	for i := range out {
		out[i].Attrs = slices.Clone(out[i].Attrs)
	}
	return out
}

// scribble writes into all that was handed out, also behind the lists' ends.
func scribble(l []api.Token, f []api.Fault) {
	for i := range l {
		a := l[i].Attrs[:cap(l[i].Attrs)]
		for k := range a {
			a[k] = api.Attr{Name: "b", Value: "scribbled"}
		}
	}
	l = l[:cap(l)]
	for i := range l {
		l[i] = api.Token{Kind: 99, R: 99, Name: "scribbled", Self: true}
	}
	f = f[:cap(f)]
	for i := range f {
		f[i] = api.Fault{Code: 99, At: 99}
	}
}

// What was handed out may be written into: nothing of what comes is changed by that.
func TestAnswersAreNewMemory(t *testing.T) {
	for _, x := range everything() {
		want, faults := x.in.all(x.s)
		m := x.in.machine()
		var got []api.Token
		take := func(l []api.Token) {
			got = append(got, deep(l)...)
			scribble(l, m.Faults())
		}
		for _, c := range chars(x.s) {
			take(m.Feed(c))
		}
		take(m.End(len(x.s)))
		if !tokens.List(got, want) || !slices.Equal(m.Faults(), faults) {
			t.Errorf("%v %q: %s, %s", x.in, x.s, told(got), wrong(m.Faults()))
		}
	}
}

// What was handed out reads as before when the machine and its copies go on.
func TestAnswersStay(t *testing.T) {
	type kept struct {
		l, was []api.Token
		f, had []api.Fault
	}
	m := New()
	var all []kept
	keep := func(m *Machine, l []api.Token) {
		f := m.Faults()
		all = append(all, kept{l, deep(l), f, slices.Clone(f)})
	}
	s := "x<a b=1 c=2 d='3' b>&lt&#0;</a b><!--x--!><a b=4 c=5 b=6>&noti&#x<!doctype a b></"
	for range 3 {
		for _, c := range chars(s) {
			copied := m.Copy()
			keep(m, m.Feed(c))
			keep(copied, copied.Feed(api.Char{R: '>', From: c.From, To: c.To}))
			keep(copied, copied.End(c.To))
		}
		keep(m, m.End(len(s)))
	}
	for _, k := range all {
		if !tokens.List(k.l, k.was) || !slices.Equal(k.f, k.had) {
			t.Errorf("%s was %s; %s was %s", told(k.l), told(k.was), wrong(k.f), wrong(k.had))
		}
	}
}

// A machine and its copy, in a tag of many attributes, read others: each finds its own alone.
func TestCopyWithinManyAttributes(t *testing.T) {
	for n := range 3 * few {
		var tag strings.Builder
		tag.WriteString("<a")
		for i := range n {
			fmt.Fprintf(&tag, " b%d=%d", i, i)
		}
		s := tag.String()
		for _, k := range []string{"", " x", " x=", " x='1", " x='1'", " b0"} {
			m := New()
			feed(m, chars(s+k))
			turns(t, fmt.Sprintf("%d attributes%s", n, k), inData(), s+k, m, m.Copy(), " y=1 z=2 y=3 b1>", " z=1 y=2 z=3 w=4 b1>")
		}
	}
}

// Two copies of one machine, both within a tag, tell lists that share nothing.
func TestCopiesShareNoAnswer(t *testing.T) {
	m := New()
	feed(m, chars("<a b=1 c=2 d=3 e"))
	c, d := m.Copy(), m.Copy()
	end := chars("=4>")
	first, second, third := feed(c, end), feed(d, end), feed(m, end)
	want := deep(third)
	scribble(first, nil)
	checkTokens(t, "a copy", second, want)
	scribble(second, nil)
	checkTokens(t, "the machine", third, want)
}

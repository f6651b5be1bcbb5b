package utf8in

import (
	"math"
	"slices"
	"strings"
	"testing"
	"unicode/utf8"

	"taffrail/api"
)

const top = 1 << 40

// oracle knows the UTF-8 bytes of every character, and every row that begins one.
type oracle struct {
	whole  map[string]int
	begins map[string]bool
}

func newOracle() oracle {
	o := oracle{map[string]int{}, map[string]bool{}}
	for r := range 0x110000 {
		if r >= 0xD800 && r <= 0xDFFF {
			continue
		}
		b := string(utf8.AppendRune(nil, rune(r)))
		o.whole[b] = r
		for n := 1; n < len(b); n++ {
			o.begins[b[:n]] = true
		}
	}
	return o
}

// next gives the first character of s (one that is not empty), its length, and whether it is a fault.
func (o oracle) next(s string) (r, n int, bad bool) {
	for n := 1; n <= min(4, len(s)); n++ {
		if r, ok := o.whole[s[:n]]; ok {
			return r, n, false
		}
	}
	for n := min(3, len(s)); n > 1; n-- {
		if o.begins[s[:n]] {
			return 0xFFFD, n, true
		}
	}
	return 0xFFFD, 1, true
}

func (o oracle) decode(s string, at int) (chars []api.Char, faults []api.Fault) {
	for len(s) > 0 {
		r, n, bad := o.next(s)
		if bad {
			faults = append(faults, api.Fault{Code: api.FaultUtf8, At: at})
		}
		chars = append(chars, api.Char{R: r, From: at, To: at + n})
		at, s = at+n, s[n:]
	}
	return chars, faults
}

func same(t *testing.T, what, s string, c, wantC []api.Char, f, wantF []api.Fault) {
	t.Helper()
	if !slices.Equal(c, wantC) || !slices.Equal(f, wantF) {
		t.Fatalf("%s % X: %v %v, want %v %v", what, s, c, f, wantC, wantF)
	}
}

// said is what a text is decoded to, written short: characters with their ends, and the places of faults.
type said struct {
	s      string
	chars  []api.Char
	faults []int
}

func bad(from, to int) api.Char { return api.Char{R: 0xFFFD, From: from, To: to} }

func faultsAt(places []int) (l []api.Fault) {
	for _, p := range places {
		l = append(l, api.Fault{Code: api.FaultUtf8, At: p})
	}
	return l
}

func examples() []said {
	return []said{
		{"\xC3\xA9", []api.Char{{R: 0xE9, From: 0, To: 2}}, nil},
		{"\xE2\x82\x41", []api.Char{bad(0, 2), {R: 'A', From: 2, To: 3}}, []int{0}},
		{"\xC0\x80", []api.Char{bad(0, 1), bad(1, 2)}, []int{0, 1}},
		{"\xF0\x9F\x98", []api.Char{bad(0, 3)}, []int{0}},
	}
}

func atTheEnds() []said {
	one := func(s string, r int) said { return said{s, []api.Char{{R: r, From: 0, To: len(s)}}, nil} }
	return []said{
		{"", nil, nil},
		one("\x00", 0), one("\x7F", 0x7F),
		one("\xC2\x80", 0x80), one("\xDF\xBF", 0x7FF),
		one("\xE0\xA0\x80", 0x800), one("\xED\x9F\xBF", 0xD7FF), one("\xEE\x80\x80", 0xE000), one("\xEF\xBF\xBF", 0xFFFF),
		one("\xEF\xBF\xBD", 0xFFFD), // written out, it is no fault
		one("\xF0\x90\x80\x80", 0x10000), one("\xF4\x8F\xBF\xBF", 0x10FFFF),
	}
}

func noCharacters() []said {
	two := said{"", []api.Char{bad(0, 1), bad(1, 2)}, []int{0, 1}}
	three := said{"", append(slices.Clone(two.chars), bad(2, 3)), []int{0, 1, 2}}
	four := said{"", append(slices.Clone(three.chars), bad(3, 4)), []int{0, 1, 2, 3}}
	l := []said{
		{"\x80", two.chars[:1], two.faults[:1]}, {"\xBF", two.chars[:1], two.faults[:1]},
		{"a\x80b", []api.Char{{R: 'a', From: 0, To: 1}, bad(1, 2), {R: 'b', From: 2, To: 3}}, []int{1}},
		{"\xC3\xA9\xA9", []api.Char{{R: 0xE9, From: 0, To: 2}, bad(2, 3)}, []int{2}},
	}
	for _, s := range []string{"\xC0\x80", "\xC1\xBF"} {
		l = append(l, said{s, two.chars, two.faults})
	}
	for _, s := range []string{"\xE0\x80\x80", "\xE0\x9F\xBF", "\xED\xA0\x80", "\xED\xBF\xBF"} {
		l = append(l, said{s, three.chars, three.faults})
	}
	for _, s := range []string{"\xF0\x80\x80\x80", "\xF0\x8F\xBF\xBF", "\xF4\x90\x80\x80"} {
		l = append(l, said{s, four.chars, four.faults})
	}
	for b := 0xF5; b <= 0xFF; b++ {
		l = append(l, said{string([]byte{byte(b), 0x80, 0x80, 0x80}), four.chars, four.faults})
	}
	return l
}

// cutOff are beginnings of characters, at the end and ahead of characters of each length.
func cutOff() (l []said) {
	behind := []said{{s: ""}, {s: "A", chars: []api.Char{{R: 'A', To: 1}}}, {s: "\xC3\xA9", chars: []api.Char{{R: 0xE9, To: 2}}},
		{s: "\xE2\x82\xAC", chars: []api.Char{{R: 0x20AC, To: 3}}}, {s: "\xF0\x9F\x98\x80", chars: []api.Char{{R: 0x1F600, To: 4}}},
		{s: "\xFF", chars: []api.Char{bad(0, 1)}, faults: []int{0}}, {s: "\xE2\x82", chars: []api.Char{bad(0, 2)}, faults: []int{0}}}
	for _, s := range []string{"\xC2", "\xDF", "\xE0", "\xE0\xA0", "\xE0\xBF", "\xE2", "\xE2\x82", "\xED", "\xED\x80", "\xED\x9F", "\xEF", "\xEF\xBF",
		"\xF0", "\xF0\x90", "\xF0\xBF", "\xF0\x90\x80", "\xF0\x9F\x98", "\xF1", "\xF3\xBF", "\xF3\xBF\xBF", "\xF4", "\xF4\x80", "\xF4\x8F", "\xF4\x8F\xBF"} {
		for _, b := range behind {
			x := said{s + b.s, []api.Char{bad(0, len(s))}, []int{0}}
			for _, c := range b.chars {
				x.chars = append(x.chars, api.Char{R: c.R, From: c.From + len(s), To: c.To + len(s)})
			}
			for _, f := range b.faults {
				x.faults = append(x.faults, f+len(s))
			}
			l = append(l, x)
		}
	}
	return l
}

func allSaid() []said {
	return slices.Concat(examples(), atTheEnds(), noCharacters(), cutOff())
}

func TestDecode(t *testing.T) {
	for _, x := range allSaid() {
		c, f := Decode(x.s)
		same(t, "Decode", x.s, c, x.chars, f, faultsAt(x.faults))
	}
}

func TestDecodeSingleBytes(t *testing.T) {
	for b := range 256 {
		s := string([]byte{byte(b)})
		want, faults := []api.Char{{R: b, From: 0, To: 1}}, []int(nil)
		if b >= 0x80 {
			want, faults = []api.Char{bad(0, 1)}, []int{0}
		}
		c, f := Decode(s)
		same(t, "Decode", s, c, want, f, faultsAt(faults))
	}
}

func TestEncode(t *testing.T) {
	for _, x := range []struct {
		r    int
		want string
	}{
		{0, "\x00"}, {1, "\x01"}, {'A', "A"}, {0x7E, "\x7E"}, {0x7F, "\x7F"},
		{0x80, "\xC2\x80"}, {0x81, "\xC2\x81"}, {0xE9, "\xC3\xA9"}, {0x7FF, "\xDF\xBF"},
		{0x800, "\xE0\xA0\x80"}, {0x801, "\xE0\xA0\x81"}, {0x20AC, "\xE2\x82\xAC"}, {0xD7FF, "\xED\x9F\xBF"},
		{0xD800, "\xEF\xBF\xBD"}, {0xD801, "\xEF\xBF\xBD"}, {0xDBFF, "\xEF\xBF\xBD"}, {0xDC00, "\xEF\xBF\xBD"}, {0xDFFF, "\xEF\xBF\xBD"},
		{0xE000, "\xEE\x80\x80"}, {0xFFFD, "\xEF\xBF\xBD"}, {0xFFFF, "\xEF\xBF\xBF"},
		{0x10000, "\xF0\x90\x80\x80"}, {0x10001, "\xF0\x90\x80\x81"}, {0x1F600, "\xF0\x9F\x98\x80"}, {0x10FFFF, "\xF4\x8F\xBF\xBF"},
		{0x110000, "\xEF\xBF\xBD"}, {-1, "\xEF\xBF\xBD"}, {-65, "\xEF\xBF\xBD"},
		{1<<32 + 'A', "\xEF\xBF\xBD"}, {-1<<32 + 'A', "\xEF\xBF\xBD"}, {1 << 31, "\xEF\xBF\xBD"}, {1 << 32, "\xEF\xBF\xBD"},
		{math.MinInt, "\xEF\xBF\xBD"}, {math.MinInt + 'A', "\xEF\xBF\xBD"}, {math.MaxInt, "\xEF\xBF\xBD"},
	} {
		if got := Encode(x.r); got != x.want {
			t.Errorf("Encode(%#x): % X, want % X", x.r, got, x.want)
		}
	}
}

func TestEncodeThenDecode(t *testing.T) {
	for r := range 0x110000 {
		s := Encode(r)
		want := api.Char{R: r, From: 0, To: utf8.RuneLen(rune(r))}
		if r >= 0xD800 && r <= 0xDFFF {
			want = bad(0, 3)
		}
		if c, f := Decode(s); len(c) != 1 || c[0] != want || len(f) != 0 {
			t.Fatalf("%#x: % X: %v %v", r, s, c, f)
		}
	}
}

// edgeBytes are those at both ends of each range that a byte of a character has.
func edgeBytes() string {
	return "\x00A\x7F\x80\x8F\x90\x9F\xA0\xBF\xC0\xC1\xC2\xDF\xE0\xE1\xEC\xED\xEE\xEF\xF0\xF1\xF3\xF4\xF5\xFF"
}

// everyText calls do for all texts of n of the bytes.
func everyText(bytes string, n int, do func(string)) {
	text := make([]byte, n)
	var lay func(int)
	lay = func(i int) {
		if i == n {
			do(string(text))
			return
		}
		for j := range len(bytes) {
			text[i] = bytes[j]
			lay(i + 1)
		}
	}
	lay(0)
}

func TestDecodeEveryText(t *testing.T) {
	o := newOracle()
	all := make([]byte, 256)
	for i := range all {
		all[i] = byte(i)
	}
	check := func(s string) {
		c, f := Decode(s)
		wantC, wantF := o.decode(s, 0)
		same(t, "Decode", s, c, wantC, f, wantF)
	}
	everyText(string(all), 2, check)
	everyText(edgeBytes(), 3, check)
	everyText(edgeBytes(), 4, check)
	everyText("A\x80\x9F\xBF\xC3\xE0\xED\xF0\xF4", 5, check)
}

// fed gives all that a decoder tells of the pieces and at the end.
func fed(d *Decoder, pieces ...string) (chars []api.Char, faults []api.Fault) {
	for _, p := range pieces {
		c, f := d.Feed(p)
		chars, faults = append(chars, c...), append(faults, f...)
	}
	c, f := d.End()
	return append(chars, c...), append(faults, f...)
}

func shifted(c []api.Char, f []api.Fault, by int) (chars []api.Char, faults []api.Fault) {
	for _, x := range c {
		chars = append(chars, api.Char{R: x.R, From: x.From + by, To: x.To + by})
	}
	for _, x := range f {
		faults = append(faults, api.Fault{Code: x.Code, At: x.At + by})
	}
	return chars, faults
}

func checkPieces(t *testing.T, s string, at int) {
	t.Helper()
	c, f := Decode(s)
	wantC, wantF := shifted(c, f, at)
	for cut := range len(s) + 1 {
		gotC, gotF := fed(New(at), s[:cut], s[cut:])
		same(t, "in two", s, gotC, wantC, gotF, wantF)
		gotC, gotF = fed(New(at), "", s[:cut], "", "", s[cut:], "")
		same(t, "in two, with empty ones", s, gotC, wantC, gotF, wantF)
	}
	var single []string
	for i := range len(s) {
		single = append(single, s[i:i+1])
	}
	gotC, gotF := fed(New(at), single...)
	same(t, "in bytes", s, gotC, wantC, gotF, wantF)
	between := []string{""}
	for _, p := range single {
		between = append(between, p, "")
	}
	gotC, gotF = fed(New(at), between...)
	same(t, "in bytes, with empty ones", s, gotC, wantC, gotF, wantF)
}

func TestPieces(t *testing.T) {
	long := ""
	for _, x := range allSaid() {
		long += x.s
		for _, at := range []int{0, 1, 10, top} {
			checkPieces(t, x.s, at)
		}
	}
	checkPieces(t, long, 7)
	everyText(edgeBytes(), 3, func(s string) { checkPieces(t, s, 3) })
	everyText("A\x80\x9F\xC3\xE2\xF0", 5, func(s string) { checkPieces(t, s, 3) })
}

func TestNew(t *testing.T) {
	for _, x := range []struct{ at, want int }{
		{0, 0}, {1, 1}, {10, 10}, {-1, 0}, {-top, 0}, {top - 1, top - 1}, {top, top}, {top + 1, 0}, {1 << 41, 0},
		{math.MinInt, 0}, {math.MaxInt, 0},
	} {
		d := New(x.at)
		if d == nil || d.Offset() != x.want {
			t.Fatalf("New(%d): %v", x.at, d)
		}
		c, f := d.Feed("a\xFF\xC3")
		same(t, "Feed", "a FF C3", c, []api.Char{{R: 'a', From: x.want, To: x.want + 1}, bad(x.want+1, x.want+2)}, f, faultsAt([]int{x.want + 1}))
		c, f = d.End()
		same(t, "End", "a FF C3", c, []api.Char{bad(x.want+2, x.want+3)}, f, faultsAt([]int{x.want + 2}))
		if d.Offset() != x.want+3 {
			t.Errorf("New(%d): at %d behind End", x.at, d.Offset())
		}
	}
}

// What Feed tells is told with the byte that makes it sure, not ahead of it and not behind it.
func TestWhatIsSure(t *testing.T) {
	type step struct {
		s      string
		chars  []api.Char
		faults []int
		offset int
	}
	e9 := api.Char{R: 0xE9, From: 0, To: 2}
	for _, steps := range [][]step{
		{{"a", []api.Char{{R: 'a', From: 0, To: 1}}, nil, 1}, {"", nil, nil, 1}},
		{{"\xC3", nil, nil, 0}, {"", nil, nil, 0}, {"\xA9", []api.Char{e9}, nil, 2}},
		{{"\xC3\xA9\xC3", []api.Char{e9}, nil, 2}, {"\xC3", []api.Char{bad(2, 3)}, []int{2}, 3}, {"a", []api.Char{bad(3, 4), {R: 'a', From: 4, To: 5}}, []int{3}, 5}},
		{{"\xE2", nil, nil, 0}, {"\x82", nil, nil, 0}, {"\xAC", []api.Char{{R: 0x20AC, From: 0, To: 3}}, nil, 3}},
		{{"\xE2\x82", nil, nil, 0}, {"\x41", []api.Char{bad(0, 2), {R: 'A', From: 2, To: 3}}, []int{0}, 3}},
		{{"\xF0", nil, nil, 0}, {"\x9F", nil, nil, 0}, {"\x98", nil, nil, 0}, {"\x80", []api.Char{{R: 0x1F600, From: 0, To: 4}}, nil, 4}},
		{{"\xF0\x9F\x98", nil, nil, 0}, {"\xF0", []api.Char{bad(0, 3)}, []int{0}, 3}, {"\x80", []api.Char{bad(3, 4), bad(4, 5)}, []int{3, 4}, 5}},
		{{"\x80", []api.Char{bad(0, 1)}, []int{0}, 1}, {"\xBF", []api.Char{bad(1, 2)}, []int{1}, 2}},
		{{"\xC0", []api.Char{bad(0, 1)}, []int{0}, 1}, {"\xC1", []api.Char{bad(1, 2)}, []int{1}, 2}, {"\xF5", []api.Char{bad(2, 3)}, []int{2}, 3}, {"\xFF", []api.Char{bad(3, 4)}, []int{3}, 4}},
		{{"\xED", nil, nil, 0}, {"\xA0", []api.Char{bad(0, 1), bad(1, 2)}, []int{0, 1}, 2}},
		{{"\xE0", nil, nil, 0}, {"\x9F", []api.Char{bad(0, 1), bad(1, 2)}, []int{0, 1}, 2}},
		{{"\xF4", nil, nil, 0}, {"\x90", []api.Char{bad(0, 1), bad(1, 2)}, []int{0, 1}, 2}},
	} {
		d := New(0)
		for _, x := range steps {
			c, f := d.Feed(x.s)
			same(t, "Feed", x.s, c, x.chars, f, faultsAt(x.faults))
			if d.Offset() != x.offset {
				t.Fatalf("% X: at %d, want %d", x.s, d.Offset(), x.offset)
			}
		}
	}
}

// Behind each byte, what was told ends where what is not told yet begins, and that can still become a character or is nothing.
func TestOffset(t *testing.T) {
	o := newOracle()
	everyText(edgeBytes(), 3, func(s string) {
		d, at := New(5), 5
		for i := range len(s) {
			c, _ := d.Feed(s[i : i+1])
			if len(c) > 0 {
				at = c[len(c)-1].To
			}
			kept := s[at-5 : i+1]
			if d.Offset() != at || kept != "" && !o.begins[kept] {
				t.Fatalf("% X behind byte %d: at %d, told up to %d", s, i, d.Offset(), at)
			}
		}
		d.End()
		if d.Offset() != 5+len(s) {
			t.Fatalf("% X: at %d behind End", s, d.Offset())
		}
	})
}

func TestEndLeavesANewOne(t *testing.T) {
	for _, s := range []string{"", "a", "\xC3", "\xE2\x82", "\xF0\x9F\x98", "\xFF", "\xC3\xA9", "\xED\xA0"} {
		d := New(3)
		d.Feed(s)
		d.End()
		at := 3 + len(s)
		if *d != *New(at) || d.Offset() != at {
			t.Errorf("% X: %v is not new", s, *d)
		}
		for range 2 {
			if c, f := d.End(); len(c) != 0 || len(f) != 0 || d.Offset() != at {
				t.Errorf("% X: a second End tells %v %v", s, c, f)
			}
		}
		// A byte that would have gone on is alone now.
		c, f := fed(d, "\x82\xC3", "\xA9\xE2")
		want := []api.Char{bad(at, at+1), {R: 0xE9, From: at + 1, To: at + 3}, bad(at+3, at+4)}
		same(t, "again", s, c, want, f, faultsAt([]int{at, at + 3}))
	}
}

// A decoder stays where its bytes are, also where New would not begin.
func TestEndBeyondTheFarthest(t *testing.T) {
	d := New(top)
	d.Feed("ab\xC3")
	d.End()
	if d.Offset() != top+3 {
		t.Fatalf("at %d", d.Offset())
	}
	if c, _ := d.Feed("x"); len(c) != 1 || c[0] != (api.Char{R: 'x', From: top + 3, To: top + 4}) {
		t.Errorf("%v", c)
	}
}

func TestCopy(t *testing.T) {
	tails := []string{"", "A", "\x82", "\x82\xAC", "\x98\x80z", "\xA9\xE2", "\xFF", "\xF0\x9F"}
	for _, x := range allSaid() {
		for cut := range len(x.s) + 1 {
			for _, tail := range tails {
				checkCopy(t, x.s[:cut], tail, "\xC3\xA9\xE2\x82")
			}
		}
	}
}

func checkCopy(t *testing.T, head, tail, other string) {
	t.Helper()
	told, toldFaults := New(9).Feed(head)
	d := New(9)
	d.Feed(head)
	c := d.Copy()
	if c == d || c.Offset() != d.Offset() {
		t.Fatalf("% X: the copy is at %d, not %d", head, c.Offset(), d.Offset())
	}
	// The copy goes another way first; d must not be moved by it, nor the copy by d.
	twin := c.Copy()
	otherC, otherF := fed(c, other)
	gotC, gotF := fed(d, tail)
	twinC, twinF := fed(twin, tail)
	same(t, "the copy of "+head, tail, twinC, gotC, twinF, gotF)
	wantC, wantF := fed(New(9), head+tail)
	same(t, "the one copied behind "+head, tail, append(slices.Clone(told), gotC...), wantC, append(slices.Clone(toldFaults), gotF...), wantF)
	wantC, wantF = fed(New(9), head+other)
	same(t, "the copy behind "+head, other, append(slices.Clone(told), otherC...), wantC, append(slices.Clone(toldFaults), otherF...), wantF)
}

func TestNil(t *testing.T) {
	var d *Decoder
	for _, s := range []string{"", "a", "\xC3", "\xFF"} {
		if c, f := d.Feed(s); len(c) != 0 || len(f) != 0 {
			t.Errorf("Feed % X: %v %v", s, c, f)
		}
	}
	if c, f := d.End(); len(c) != 0 || len(f) != 0 {
		t.Errorf("End: %v %v", c, f)
	}
	if d.Copy() != nil || d.Offset() != 0 {
		t.Errorf("%v, %d", d.Copy(), d.Offset())
	}
}

// A Decoder that New did not make is as one that it made at 0.
func TestZeroDecoder(t *testing.T) {
	var d Decoder
	if d != *New(0) {
		t.Fatalf("%v", d)
	}
	s := "a\xE2\x82\xFF"
	wantC, wantF := Decode(s)
	c, f := fed(&d, s)
	same(t, "zero", s, c, wantC, f, wantF)
}

// spoil writes over a list, and over what lies behind its end.
func spoil(c []api.Char, f []api.Fault) {
	c, f = c[:cap(c)], f[:cap(f)]
	for i := range c {
		c[i] = api.Char{R: -1, From: -1, To: -1}
	}
	for i := range f {
		f[i] = api.Fault{Code: -1, At: -1}
	}
}

func TestMemory(t *testing.T) {
	s := "a\xFFb\xE2\x82c\xC3\xA9\xF0\x9F"
	wantC, wantF := newOracle().decode(s, 0)
	first, firstF := Decode(s)
	second, secondF := Decode(s)
	spoil(first, firstF)
	same(t, "Decode", s, second, wantC, secondF, wantF)

	for cut := range len(s) + 1 {
		d := New(0)
		headC, headF := d.Feed(s[:cut])
		keptC, keptF := slices.Clone(headC), slices.Clone(headF)
		twin := d.Copy()
		twinC, twinF := twin.Feed(s[cut:])
		gotC, gotF := slices.Clone(twinC), slices.Clone(twinF)
		tailC, tailF := d.Feed(s[cut:])
		same(t, "Feed", s, headC, keptC, headF, keptF)
		spoil(headC, headF)
		spoil(tailC, tailF)
		same(t, "the copy's Feed", s, twinC, gotC, twinF, gotF)
		lastC, lastF := d.End()
		endC, endF := twin.End()
		spoil(lastC, lastF)
		same(t, "End and all ahead", s, slices.Concat(keptC, twinC, endC), wantC, slices.Concat(keptF, twinF, endF), wantF)
	}
}

func TestLongText(t *testing.T) {
	const n = 1 << 18
	s := strings.Repeat("\xF0\x9F\x98", n)
	c, f := Decode(s)
	if len(c) != n || len(f) != n || c[n-1] != bad(3*n-3, 3*n) || f[n-1] != (api.Fault{Code: api.FaultUtf8, At: 3*n - 3}) {
		t.Errorf("%d characters, %d faults", len(c), len(f))
	}
}

func BenchmarkDecode(b *testing.B) {
	s := strings.Repeat("<p>caf\xC3\xA9 \xE2\x82\xAC\xF0\x9F\x98\x80\xFF", api.MaxText/18)
	b.SetBytes(int64(len(s)))
	for range b.N {
		Decode(s)
	}
}

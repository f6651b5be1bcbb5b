package instream

import (
	"math"
	"slices"
	"strings"
	"testing"
	"unicode"

	"taffrail/api"
	"taffrail/utf8in"
)

// said is what a text is turned to.
type said struct {
	s      string
	chars  []api.Char
	faults []api.Fault
}

func ch(r, from, to int) api.Char { return api.Char{R: r, From: from, To: to} }

func utf8At(at int) api.Fault    { return api.Fault{Code: api.FaultUtf8, At: at} }
func nullAt(at int) api.Fault    { return api.Fault{Code: api.FaultNull, At: at} }
func controlAt(at int) api.Fault { return api.Fault{Code: api.FaultControl, At: at} }
func noncharAt(at int) api.Fault { return api.Fault{Code: api.FaultNonchar, At: at} }

func same(t *testing.T, what, s string, c, wantC []api.Char, f, wantF []api.Fault) {
	t.Helper()
	if !slices.Equal(c, wantC) || !slices.Equal(f, wantF) {
		t.Fatalf("%s % X: %v %v, want %v %v", what, s, c, f, wantC, wantF)
	}
}

func examples() []said {
	return []said{
		{"a\r\nb", []api.Char{ch('a', 0, 1), ch(10, 1, 3), ch('b', 3, 4)}, nil},
		{"\x00", []api.Char{ch(0xFFFD, 0, 1)}, []api.Fault{nullAt(0)}},
		{"\r\r", []api.Char{ch(10, 0, 1), ch(10, 1, 2)}, nil},
	}
}

func lineEnds() []said {
	return []said{
		{"", nil, nil},
		{"\r", []api.Char{ch(10, 0, 1)}, nil},
		{"\n", []api.Char{ch(10, 0, 1)}, nil},
		{"\ra", []api.Char{ch(10, 0, 1), ch('a', 1, 2)}, nil},
		{"a\rb", []api.Char{ch('a', 0, 1), ch(10, 1, 2), ch('b', 2, 3)}, nil},
		{"a\r", []api.Char{ch('a', 0, 1), ch(10, 1, 2)}, nil},
		{"\r\n", []api.Char{ch(10, 0, 2)}, nil},
		{"a\r\n", []api.Char{ch('a', 0, 1), ch(10, 1, 3)}, nil},
		{"\n\r", []api.Char{ch(10, 0, 1), ch(10, 1, 2)}, nil},
		{"\n\n", []api.Char{ch(10, 0, 1), ch(10, 1, 2)}, nil},
		{"\r\n\n", []api.Char{ch(10, 0, 2), ch(10, 2, 3)}, nil},
		{"\r\r\n", []api.Char{ch(10, 0, 1), ch(10, 1, 3)}, nil},
		{"\r\n\r", []api.Char{ch(10, 0, 2), ch(10, 2, 3)}, nil},
		{"\r\n\r\n", []api.Char{ch(10, 0, 2), ch(10, 2, 4)}, nil},
		{"\n\r\n", []api.Char{ch(10, 0, 1), ch(10, 1, 3)}, nil},
		{"\r\r\r", []api.Char{ch(10, 0, 1), ch(10, 1, 2), ch(10, 2, 3)}, nil},
		{"\r\t\n", []api.Char{ch(10, 0, 1), ch(9, 1, 2), ch(10, 2, 3)}, nil},
		{"\r\f\r\n", []api.Char{ch(10, 0, 1), ch(12, 1, 2), ch(10, 2, 4)}, nil},
		{"\r\x00", []api.Char{ch(10, 0, 1), ch(0xFFFD, 1, 2)}, []api.Fault{nullAt(1)}},
		{"\x00\r\n", []api.Char{ch(0xFFFD, 0, 1), ch(10, 1, 3)}, []api.Fault{nullAt(0)}},
		{"\r\x0B\n", []api.Char{ch(10, 0, 1), ch(11, 1, 2), ch(10, 2, 3)}, []api.Fault{controlAt(1)}},
		// U+0A0A, U+0D0D and U+2028 are no line ends.
		{"\r\xE0\xA8\x8A", []api.Char{ch(10, 0, 1), ch(0xA0A, 1, 4)}, nil},
		{"\xE0\xB4\x8D\n", []api.Char{ch(0xD0D, 0, 3), ch(10, 3, 4)}, nil},
		{"\r\xE2\x80\xA8\n", []api.Char{ch(10, 0, 1), ch(0x2028, 1, 4), ch(10, 4, 5)}, nil},
		{"\xC2\x85", []api.Char{ch(0x85, 0, 2)}, []api.Fault{controlAt(0)}},
	}
}

// noCharacters are bytes that are none, ahead of line ends and behind them.
func noCharacters() []said {
	return []said{
		{"\r\xFF", []api.Char{ch(10, 0, 1), ch(0xFFFD, 1, 2)}, []api.Fault{utf8At(1)}},
		{"\r\xFF\n", []api.Char{ch(10, 0, 1), ch(0xFFFD, 1, 2), ch(10, 2, 3)}, []api.Fault{utf8At(1)}},
		{"\xFF\r\n", []api.Char{ch(0xFFFD, 0, 1), ch(10, 1, 3)}, []api.Fault{utf8At(0)}},
		{"\r\xE2\x82", []api.Char{ch(10, 0, 1), ch(0xFFFD, 1, 3)}, []api.Fault{utf8At(1)}},
		{"\r\xE2\x82\n", []api.Char{ch(10, 0, 1), ch(0xFFFD, 1, 3), ch(10, 3, 4)}, []api.Fault{utf8At(1)}},
		{"\xE2\x82\r\n", []api.Char{ch(0xFFFD, 0, 2), ch(10, 2, 4)}, []api.Fault{utf8At(0)}},
		{"\xC3\r", []api.Char{ch(0xFFFD, 0, 1), ch(10, 1, 2)}, []api.Fault{utf8At(0)}},
		{"\r\xF0\x9F\x98\r", []api.Char{ch(10, 0, 1), ch(0xFFFD, 1, 4), ch(10, 4, 5)}, []api.Fault{utf8At(1)}},
		{"\r\xC0\x8D\xC0\x8A", []api.Char{ch(10, 0, 1), ch(0xFFFD, 1, 2), ch(0xFFFD, 2, 3), ch(0xFFFD, 3, 4), ch(0xFFFD, 4, 5)}, []api.Fault{utf8At(1), utf8At(2), utf8At(3), utf8At(4)}},
		{"\xC0\x80", []api.Char{ch(0xFFFD, 0, 1), ch(0xFFFD, 1, 2)}, []api.Fault{utf8At(0), utf8At(1)}},
		{"\xEF\xBF\xBD", []api.Char{ch(0xFFFD, 0, 3)}, nil}, // written out, it is no fault
		{"\xEF\xBF", []api.Char{ch(0xFFFD, 0, 2)}, []api.Fault{utf8At(0)}},
		{"\xEF\xBF\xBD\xFF\xEF\xBF\xBD", []api.Char{ch(0xFFFD, 0, 3), ch(0xFFFD, 3, 4), ch(0xFFFD, 4, 7)}, []api.Fault{utf8At(3)}},
		{"\xFF\xEF\xBF\xBD\xFF", []api.Char{ch(0xFFFD, 0, 1), ch(0xFFFD, 1, 4), ch(0xFFFD, 4, 5)}, []api.Fault{utf8At(0), utf8At(4)}},
	}
}

func oddCharacters() []said {
	return []said{
		{"a\x00b", []api.Char{ch('a', 0, 1), ch(0xFFFD, 1, 2), ch('b', 2, 3)}, []api.Fault{nullAt(1)}},
		{"\x00\x00", []api.Char{ch(0xFFFD, 0, 1), ch(0xFFFD, 1, 2)}, []api.Fault{nullAt(0), nullAt(1)}},
		{"\x00\xFF\x00", []api.Char{ch(0xFFFD, 0, 1), ch(0xFFFD, 1, 2), ch(0xFFFD, 2, 3)}, []api.Fault{nullAt(0), utf8At(1), nullAt(2)}},
		{"\x01\x7F", []api.Char{ch(1, 0, 1), ch(0x7F, 1, 2)}, []api.Fault{controlAt(0), controlAt(1)}},
		{"\xC2\x80\xC2\x9F\xC2\xA0", []api.Char{ch(0x80, 0, 2), ch(0x9F, 2, 4), ch(0xA0, 4, 6)}, []api.Fault{controlAt(0), controlAt(2)}},
		{"\xEF\xB7\x8F\xEF\xB7\x90", []api.Char{ch(0xFDCF, 0, 3), ch(0xFDD0, 3, 6)}, []api.Fault{noncharAt(3)}},
		{"\xEF\xB7\xAF\xEF\xB7\xB0", []api.Char{ch(0xFDEF, 0, 3), ch(0xFDF0, 3, 6)}, []api.Fault{noncharAt(0)}},
		{"\xEF\xBF\xBE\xEF\xBF\xBF", []api.Char{ch(0xFFFE, 0, 3), ch(0xFFFF, 3, 6)}, []api.Fault{noncharAt(0), noncharAt(3)}},
		{"\xF0\x9F\xBF\xBD\xF0\x9F\xBF\xBE", []api.Char{ch(0x1FFFD, 0, 4), ch(0x1FFFE, 4, 8)}, []api.Fault{noncharAt(4)}},
		{"\xF4\x8F\xBF\xBE\xF4\x8F\xBF\xBF", []api.Char{ch(0x10FFFE, 0, 4), ch(0x10FFFF, 4, 8)}, []api.Fault{noncharAt(0), noncharAt(4)}},
		{"\r\xC2\x80\r\xEF\xBF\xBF\r\xF4\x8F\xBF\xBF\r", []api.Char{ch(10, 0, 1), ch(0x80, 1, 3), ch(10, 3, 4), ch(0xFFFF, 4, 7), ch(10, 7, 8), ch(0x10FFFF, 8, 12), ch(10, 12, 13)}, []api.Fault{controlAt(1), noncharAt(4), noncharAt(8)}},
		{"\xFF\x01\xE2\x82\x00\xEF\xBF\xBEa\xC3", []api.Char{ch(0xFFFD, 0, 1), ch(1, 1, 2), ch(0xFFFD, 2, 4), ch(0xFFFD, 4, 5), ch(0xFFFE, 5, 8), ch('a', 8, 9), ch(0xFFFD, 9, 10)},
			[]api.Fault{utf8At(0), controlAt(1), utf8At(2), nullAt(4), noncharAt(5), utf8At(9)}},
	}
}

func allSaid() []said {
	return slices.Concat(examples(), lineEnds(), noCharacters(), oddCharacters())
}

func TestChars(t *testing.T) {
	for _, x := range allSaid() {
		c, f := Chars(x.s)
		same(t, "Chars", x.s, c, x.chars, f, x.faults)
	}
}

func TestCharsSingleBytes(t *testing.T) {
	for b := range 256 {
		s := string([]byte{byte(b)})
		want, faults := []api.Char{ch(b, 0, 1)}, []api.Fault(nil)
		switch {
		case b == 0:
			want, faults = []api.Char{ch(0xFFFD, 0, 1)}, []api.Fault{nullAt(0)}
		case b == 13:
			want = []api.Char{ch(10, 0, 1)}
		case b == 9 || b == 10 || b == 12:
		case b < 32 || b == 127:
			faults = []api.Fault{controlAt(0)}
		case b > 127:
			want, faults = []api.Char{ch(0xFFFD, 0, 1)}, []api.Fault{utf8At(0)}
		}
		c, f := Chars(s)
		same(t, "Chars", s, c, want, f, faults)
	}
}

// Each character alone: what it is turned to, and that its fault is Bad's.
func TestCharsEveryCharacter(t *testing.T) {
	for r := range 0x110000 {
		if r >= 0xD800 && r <= 0xDFFF {
			continue
		}
		s := utf8in.Encode(r)
		want, faults := ch(r, 0, len(s)), []api.Fault(nil)
		if r == 0 {
			want.R = 0xFFFD
		}
		if r == 13 {
			want.R = 10
		}
		if code := badByTables(r); code != 0 {
			faults = []api.Fault{{Code: code, At: 0}}
		}
		c, f := Chars(s)
		same(t, "Chars", s, c, []api.Char{want}, f, faults)
	}
}

// oracle makes of chapter 3's answer what chapter 4 asks for: first the faults of all characters, then the line ends.
func oracle(s string) (chars []api.Char, faults []api.Fault) {
	read, faults := utf8in.Decode(s)
	for _, c := range read {
		if code := badByTables(c.R); code != 0 {
			faults = append(faults, api.Fault{Code: code, At: c.From})
		}
	}
	slices.SortFunc(faults, func(a, b api.Fault) int { return a.At - b.At })
	for i, c := range read {
		switch {
		case c.R == 13 && i+1 < len(read) && read[i+1].R == 10:
			c = ch(10, c.From, c.To+1)
		case c.R == 10 && i > 0 && read[i-1].R == 13:
			continue
		case c.R == 13:
			c.R = 10
		case c.R == 0:
			c.R = 0xFFFD
		}
		chars = append(chars, c)
	}
	return chars, faults
}

func badByTables(r int) int {
	switch {
	case r == 0:
		return api.FaultNull
	case slices.Contains([]int{9, 10, 12, 13}, r):
		return 0
	case unicode.IsControl(rune(r)):
		return api.FaultControl
	case unicode.Is(unicode.Noncharacter_Code_Point, rune(r)):
		return api.FaultNonchar
	}
	return 0
}

// everyText calls do for all texts of n of the bytes.
func everyText(bytes string, n int, do func(string)) {
	text := make([]byte, n)
	var lay func(int)
	lay = func(i int) {
		if i == n {
			do(string(text))
			return
		}
		for j := range len(bytes) {
			text[i] = bytes[j]
			lay(i + 1)
		}
	}
	lay(0)
}

func TestCharsEveryText(t *testing.T) {
	check := func(s string) {
		c, f := Chars(s)
		wantC, wantF := oracle(s)
		same(t, "Chars", s, c, wantC, f, wantF)
		at := 0
		for _, x := range c {
			if x.From != at || x.To <= at {
				t.Fatalf("% X: %v leaves bytes out", s, c)
			}
			at = x.To
		}
		if at != len(s) || !rising(f) {
			t.Fatalf("% X: ends at %d, faults %v", s, at, f)
		}
	}
	for n := range 5 {
		everyText("\x00\n\x0B\rA\x7F\x80\xBF\xC2\xE2\xEF\xF4\xFF", n, check)
	}
	everyText("\r\nA\x82\xE2\x00", 6, check)
	everyText("\r\n", 12, check)
}

// rising is whether each fault is at a greater byte than the one ahead.
func rising(f []api.Fault) bool {
	for i := 1; i < len(f); i++ {
		if f[i].At <= f[i-1].At {
			return false
		}
	}
	return true
}

func TestBad(t *testing.T) {
	want := map[int]int{
		0: api.FaultNull,
		1: api.FaultControl, 2: api.FaultControl, 8: api.FaultControl, 9: 0, 10: 0, 11: api.FaultControl, 12: 0, 13: 0,
		14: api.FaultControl, 30: api.FaultControl, 31: api.FaultControl, 32: 0, 33: 0, 'A': 0,
		125: 0, 126: 0, 127: api.FaultControl, 128: api.FaultControl, 133: api.FaultControl, 158: api.FaultControl, 159: api.FaultControl, 160: 0, 161: 0,
		0xD800: 0, 0xDFFF: 0,
		0xFDCF: 0, 0xFDD0: api.FaultNonchar, 0xFDD1: api.FaultNonchar, 0xFDEE: api.FaultNonchar, 0xFDEF: api.FaultNonchar, 0xFDF0: 0,
		0xFEFF: 0, 0x1FDD0: 0, 0x1FDEF: 0,
	}
	for plane := range 0x11 {
		last := plane<<16 + 0xFFFF
		want[last-2], want[last-1], want[last], want[last-0xFFFF+0x1FE] = 0, api.FaultNonchar, api.FaultNonchar, 0
	}
	for r, code := range want {
		if got := Bad(r); got != code {
			t.Errorf("Bad(%#x): %d, want %d", r, got, code)
		}
	}
}

func TestBadEveryCharacter(t *testing.T) {
	for r := range 0x110000 {
		if got, want := Bad(r), badByTables(r); got != want {
			t.Fatalf("Bad(%#x): %d, want %d", r, got, want)
		}
	}
}

// What is no character is asked by its number and its last 16 bits too, as 4.1 says it of any r.
func TestBadOutsideOfCharacters(t *testing.T) {
	for _, x := range []struct{ r, want int }{
		{-1, api.FaultNonchar}, {-2, api.FaultNonchar}, {-3, 0}, {-9, 0}, {-13, 0}, {-31, 0}, {-127, 0},
		{-0x10000, 0}, {-0x10001, api.FaultNonchar}, {-0x10002, api.FaultNonchar}, {-0x10003, 0},
		{0xFDD0 - 0x10000, 0}, {0xFDEF - 0x10000, 0},
		{0x110000, 0}, {0x110001, 0}, {0x11007F, 0}, {0x11FDD0, 0}, {0x11FFFD, 0}, {0x11FFFE, api.FaultNonchar}, {0x11FFFF, api.FaultNonchar},
		{1 << 32, 0}, {1<<32 + 1, 0}, {1<<32 + 127, 0}, {1<<32 + 0xFDD0, 0}, {1<<32 - 1, api.FaultNonchar},
		{math.MinInt, 0}, {math.MinInt + 1, 0}, {math.MinInt + 31, 0}, {math.MinInt + 0xFFFE, api.FaultNonchar},
		{math.MaxInt - 2, 0}, {math.MaxInt - 1, api.FaultNonchar}, {math.MaxInt, api.FaultNonchar},
	} {
		if got := Bad(x.r); got != x.want {
			t.Errorf("Bad(%#x): %d, want %d", x.r, got, x.want)
		}
	}
}

// fed gives all that a stream tells of the pieces and of the end.
func fed(x *Stream, pieces ...string) (chars []api.Char, faults []api.Fault) {
	for _, p := range pieces {
		c, f := x.Feed(p)
		chars, faults = append(chars, c...), append(faults, f...)
	}
	c, f := x.End()
	return append(chars, c...), append(faults, f...)
}

// bytewise cuts s into single bytes, with empty pieces ahead, between and behind.
func bytewise(s string) (single, withEmpty []string) {
	withEmpty = []string{""}
	for i := range len(s) {
		single = append(single, s[i:i+1])
		withEmpty = append(withEmpty, s[i:i+1], "", "")
	}
	return single, withEmpty
}

func checkPieces(t *testing.T, s string) {
	t.Helper()
	wantC, wantF := Chars(s)
	for cut := range len(s) + 1 {
		c, f := fed(New(), s[:cut], s[cut:])
		same(t, "in two", s, c, wantC, f, wantF)
		c, f = fed(New(), "", s[:cut], "", "", s[cut:], "")
		same(t, "in two, with empty ones", s, c, wantC, f, wantF)
	}
	single, withEmpty := bytewise(s)
	c, f := fed(New(), single...)
	same(t, "in bytes", s, c, wantC, f, wantF)
	c, f = fed(New(), withEmpty...)
	same(t, "in bytes, with empty ones", s, c, wantC, f, wantF)
}

func TestPieces(t *testing.T) {
	long := ""
	for _, x := range allSaid() {
		long += x.s
		checkPieces(t, x.s)
	}
	checkPieces(t, long)
	everyText("\x00\n\rA\x7F\x82\xC3\xE2\xF0\xFF", 4, func(s string) { checkPieces(t, s) })
	everyText("\r\n\x82\xE2", 6, func(s string) { checkPieces(t, s) })
}

// step is what is fed, and what is told with it: not ahead of it and not behind it.
type step struct {
	s      string
	chars  []api.Char
	faults []api.Fault
}

func checkSteps(t *testing.T, steps []step, endC []api.Char, endF []api.Fault) {
	t.Helper()
	x, all := New(), ""
	for _, p := range steps {
		all += p.s
		c, f := x.Feed(p.s)
		same(t, "Feed, behind which there is", all, c, p.chars, f, p.faults)
	}
	c, f := x.End()
	same(t, "End of", all, c, endC, f, endF)
}

func TestWhatIsSure(t *testing.T) {
	a := []api.Char{ch('a', 0, 1)}
	checkSteps(t, []step{{"a", a, nil}, {"", nil, nil}}, nil, nil)
	checkSteps(t, []step{{"\n", []api.Char{ch(10, 0, 1)}, nil}}, nil, nil)
	checkSteps(t, []step{{"\x00", []api.Char{ch(0xFFFD, 0, 1)}, []api.Fault{nullAt(0)}}}, nil, nil)
	checkSteps(t, []step{{"\x01", []api.Char{ch(1, 0, 1)}, []api.Fault{controlAt(0)}}}, nil, nil)
	checkSteps(t, []step{{"\xFF", []api.Char{ch(0xFFFD, 0, 1)}, []api.Fault{utf8At(0)}}}, nil, nil)
	checkSteps(t, []step{{"\xC3", nil, nil}, {"\xA9", []api.Char{ch(0xE9, 0, 2)}, nil}}, nil, nil)
	checkSteps(t, []step{{"\xC2", nil, nil}, {"\x80", []api.Char{ch(0x80, 0, 2)}, []api.Fault{controlAt(0)}}}, nil, nil)
	checkSteps(t, []step{{"\xEF", nil, nil}, {"\xBF", nil, nil}, {"\xBF", []api.Char{ch(0xFFFF, 0, 3)}, []api.Fault{noncharAt(0)}}}, nil, nil)
	checkSteps(t, []step{{"\xE2", nil, nil}, {"A", []api.Char{ch(0xFFFD, 0, 1), ch('A', 1, 2)}, []api.Fault{utf8At(0)}}}, nil, nil)
	checkSteps(t, []step{{"a\xE2\x82", a, nil}}, []api.Char{ch(0xFFFD, 1, 3)}, []api.Fault{utf8At(1)})
}

// A 13 is sure with the character behind it, and with the end.
func TestWhenA13IsSure(t *testing.T) {
	a, first := []api.Char{ch('a', 0, 1)}, ch(10, 0, 1)
	checkSteps(t, []step{{"\r", nil, nil}}, []api.Char{first}, nil)
	checkSteps(t, []step{{"a\r", a, nil}, {"", nil, nil}}, []api.Char{ch(10, 1, 2)}, nil)
	checkSteps(t, []step{{"\r", nil, nil}, {"", nil, nil}, {"\n", []api.Char{ch(10, 0, 2)}, nil}}, nil, nil)
	checkSteps(t, []step{{"\r\n", []api.Char{ch(10, 0, 2)}, nil}}, nil, nil)
	checkSteps(t, []step{{"\r", nil, nil}, {"b", []api.Char{first, ch('b', 1, 2)}, nil}}, nil, nil)
	checkSteps(t, []step{{"\r\r", []api.Char{first}, nil}, {"\n", []api.Char{ch(10, 1, 3)}, nil}}, nil, nil)
	checkSteps(t, []step{{"\r", nil, nil}, {"\r", []api.Char{first}, nil}, {"\r", []api.Char{ch(10, 1, 2)}, nil}}, []api.Char{ch(10, 2, 3)}, nil)
	checkSteps(t, []step{{"\r", nil, nil}, {"\x00", []api.Char{first, ch(0xFFFD, 1, 2)}, []api.Fault{nullAt(1)}}}, nil, nil)
	checkSteps(t, []step{{"\r", nil, nil}, {"\x7F", []api.Char{first, ch(127, 1, 2)}, []api.Fault{controlAt(1)}}}, nil, nil)
	checkSteps(t, []step{{"\r", nil, nil}, {"\xFF", []api.Char{first, ch(0xFFFD, 1, 2)}, []api.Fault{utf8At(1)}}}, nil, nil)
	checkSteps(t, []step{{"\r\n", []api.Char{ch(10, 0, 2)}, nil}, {"\n", []api.Char{ch(10, 2, 3)}, nil}}, nil, nil)
	checkSteps(t, []step{{"\n\r", []api.Char{first}, nil}}, []api.Char{ch(10, 1, 2)}, nil)
}

// A part of a character behind a 13 makes neither of the two sure.
func TestA13AheadOfAPart(t *testing.T) {
	first := ch(10, 0, 1)
	checkSteps(t, []step{{"\r\xC3", nil, nil}, {"\xA9", []api.Char{first, ch(0xE9, 1, 3)}, nil}}, nil, nil)
	checkSteps(t, []step{{"\r", nil, nil}, {"\xE2", nil, nil}, {"\x82", nil, nil}, {"\xAC", []api.Char{first, ch(0x20AC, 1, 4)}, nil}}, nil, nil)
	checkSteps(t, []step{{"\r\xE2\x82", nil, nil}, {"\n", []api.Char{first, ch(0xFFFD, 1, 3), ch(10, 3, 4)}, []api.Fault{utf8At(1)}}}, nil, nil)
	checkSteps(t, []step{{"\r\xE2\x82", nil, nil}, {"\r", []api.Char{first, ch(0xFFFD, 1, 3)}, []api.Fault{utf8At(1)}}, {"\n", []api.Char{ch(10, 3, 5)}, nil}}, nil, nil)
	checkSteps(t, []step{{"\r\xF0\x9F", nil, nil}, {"\xF0", []api.Char{first, ch(0xFFFD, 1, 3)}, []api.Fault{utf8At(1)}}}, []api.Char{ch(0xFFFD, 3, 4)}, []api.Fault{utf8At(3)})
	checkSteps(t, []step{{"\r\xF0\x9F\x98", nil, nil}}, []api.Char{first, ch(0xFFFD, 1, 4)}, []api.Fault{utf8At(1)})
	checkSteps(t, []step{{"\xE2", nil, nil}, {"\r", []api.Char{ch(0xFFFD, 0, 1)}, []api.Fault{utf8At(0)}}, {"\xEF\xBF", nil, nil}, {"\xBE", []api.Char{ch(10, 1, 2), ch(0xFFFE, 2, 5)}, []api.Fault{noncharAt(2)}}}, nil, nil)
}

// shifted is what is told of a text that begins at byte by.
func shifted(c []api.Char, f []api.Fault, by int) (chars []api.Char, faults []api.Fault) {
	for _, x := range c {
		chars = append(chars, ch(x.R, x.From+by, x.To+by))
	}
	for _, x := range f {
		faults = append(faults, api.Fault{Code: x.Code, At: x.At + by})
	}
	return chars, faults
}

func TestEndLeavesANewOne(t *testing.T) {
	// Each of these, fed on without the End between, would be taken together with what is ahead of it.
	again := []string{"", "\n", "\n\r", "\x82\xAC", "\xA9\n", "\x98\x80\r\n", "\x00\r", "a\xC3"}
	for _, head := range []string{"", "a", "\r", "a\r", "\r\r", "\r\n", "\xC3", "\r\xC3", "\r\xE2", "\xE2\x82", "\xF0\x9F", "\r\xF0\x9F", "\x00", "\xFF"} {
		for _, tail := range again {
			x := New()
			x.Feed(head)
			x.End()
			if c, f := x.End(); len(c) != 0 || len(f) != 0 {
				t.Fatalf("% X: a second End tells %v %v", head, c, f)
			}
			c, f := Chars(tail)
			wantC, wantF := shifted(c, f, len(head))
			c, f = fed(x, tail)
			same(t, "again behind "+head, tail, c, wantC, f, wantF)
			c, f = fed(x, "\r")
			at := len(head) + len(tail)
			same(t, "a third time behind "+head, tail, c, []api.Char{ch(10, at, at+1)}, f, nil)
		}
	}
}

func TestNewBeginsAtByte0(t *testing.T) {
	first, second := New(), New()
	if first == nil || second == nil || first == second {
		t.Fatalf("%p %p", first, second)
	}
	first.Feed("abc\r\xC3")
	c, f := fed(second, "\n\xFF")
	same(t, "a new one", "0A FF", c, []api.Char{ch(10, 0, 1), ch(0xFFFD, 1, 2)}, f, []api.Fault{utf8At(1)})
	if c, f := New().End(); len(c) != 0 || len(f) != 0 {
		t.Errorf("the end of nothing: %v %v", c, f)
	}
}

func TestCopy(t *testing.T) {
	tails := []string{"", "A", "\n", "\r", "\r\n", "\x82", "\x82\xAC", "\x98\x80z", "\xA9\n", "\xFF", "\x00\r"}
	heads := []string{"\r", "a\r", "\r\r", "\r\xC3", "\r\xE2\x82", "\r\xF0\x9F\x98", "\xE2", "\xEF\xBF", "\r\xEF\xBF"}
	for _, x := range allSaid() {
		for cut := range len(x.s) + 1 {
			heads = append(heads, x.s[:cut])
		}
	}
	for _, head := range heads {
		for _, tail := range tails {
			for _, other := range []string{"\n\xC3\xA9\r", "\x82", "b\r\xE2"} {
				checkCopy(t, head, tail, other)
			}
		}
	}
}

func checkCopy(t *testing.T, head, tail, other string) {
	t.Helper()
	x := New()
	toldC, toldF := x.Feed(head)
	y := x.Copy()
	if y == nil || y == x {
		t.Fatalf("% X: the copy is %p, of %p", head, y, x)
	}
	// One copy goes another way first, and one is made of a copy: none of them may be moved by the others.
	z := y.Copy()
	otherC, otherF := fed(y, other)
	gotC, gotF := fed(x, tail)
	copyC, copyF := fed(z, tail)
	wantC, wantF := Chars(head + tail)
	same(t, "the one copied behind "+head, tail, slices.Concat(toldC, gotC), wantC, slices.Concat(toldF, gotF), wantF)
	same(t, "the copy behind "+head, tail, slices.Concat(toldC, copyC), wantC, slices.Concat(toldF, copyF), wantF)
	wantC, wantF = Chars(head + other)
	same(t, "the copy behind "+head, other, slices.Concat(toldC, otherC), wantC, slices.Concat(toldF, otherF), wantF)
}

// The End of a copy doesn't end the one that it was copied of, nor the other way round.
func TestCopyAndEnd(t *testing.T) {
	x := New()
	x.Feed("\r\xE2")
	y := x.Copy()
	c, f := y.End()
	same(t, "the copy's End", "0D E2", c, []api.Char{ch(10, 0, 1), ch(0xFFFD, 1, 2)}, f, []api.Fault{utf8At(1)})
	z := x.Copy()
	c, f = x.Feed("\x82\xAC")
	same(t, "behind the copy's End", "0D E2 82 AC", c, []api.Char{ch(10, 0, 1), ch(0x20AC, 1, 4)}, f, nil)
	x.End()
	c, f = z.Feed("\x82\r")
	same(t, "the copy behind the End", "0D E2 82 0D", c, []api.Char{ch(10, 0, 1), ch(0xFFFD, 1, 3)}, f, []api.Fault{utf8At(1)})
	c, f = z.Copy().End()
	same(t, "the copy's copy", "0D E2 82 0D", c, []api.Char{ch(10, 3, 4)}, f, nil)
	c, f = z.Feed("\n")
	same(t, "the copy", "0D E2 82 0D 0A", c, []api.Char{ch(10, 3, 5)}, f, nil)
}

func TestNil(t *testing.T) {
	var x *Stream
	for _, s := range []string{"", "a", "\r", "\n", "\x00", "\xC3", "\xFF"} {
		if c, f := x.Feed(s); len(c) != 0 || len(f) != 0 {
			t.Errorf("Feed % X: %v %v", s, c, f)
		}
		if c, f := x.End(); len(c) != 0 || len(f) != 0 {
			t.Errorf("End: %v %v", c, f)
		}
		if x.Copy() != nil {
			t.Errorf("Copy: %v", x.Copy())
		}
	}
}

// spoil writes over a list, and over what lies behind its end.
func spoil(c []api.Char, f []api.Fault) {
	c, f = c[:cap(c)], f[:cap(f)]
	for i := range c {
		c[i] = ch(-1, -1, -1)
	}
	for i := range f {
		f[i] = api.Fault{Code: -1, At: -1}
	}
}

func TestMemory(t *testing.T) {
	s := "a\r\n\xFFb\r\xE2\x82\r\rc\xC3\xA9\x00\x7F\xEF\xBF\xBF\n\r\xF0\x9F"
	wantC, wantF := oracle(s)
	first, firstF := Chars(s)
	second, secondF := Chars(s)
	spoil(first, firstF)
	same(t, "Chars", s, second, wantC, secondF, wantF)

	for cut := range len(s) + 1 {
		x := New()
		headC, headF := x.Feed(s[:cut])
		keptC, keptF := slices.Clone(headC), slices.Clone(headF)
		y := x.Copy()
		spoil(headC, headF)
		yC, yF := y.Feed(s[cut:])
		xC, xF := x.Feed(s[cut:])
		spoil(xC, xF)
		lastC, lastF := x.End()
		endC, endF := y.End()
		spoil(lastC, lastF)
		same(t, "Feed and End", s, slices.Concat(keptC, yC, endC), wantC, slices.Concat(keptF, yF, endF), wantF)
	}
}

// What was told ahead stays as it was told, whatever is fed behind it.
func TestWhatWasToldStays(t *testing.T) {
	s := "a\r\xFF\x00\r\nb\r\r\xE2\x82\x01c"
	x := New()
	var heldC, wantC [][]api.Char
	var heldF, wantF [][]api.Fault
	hold := func(c []api.Char, f []api.Fault) {
		heldC, heldF = append(heldC, c), append(heldF, f)
		wantC, wantF = append(wantC, slices.Clone(c)), append(wantF, slices.Clone(f))
	}
	for range 3 {
		for i := range len(s) {
			hold(x.Feed(s[i : i+1]))
		}
		hold(x.Feed(s))
		hold(x.End())
	}
	for i := range heldC {
		same(t, "told", s, heldC[i], wantC[i], heldF[i], wantF[i])
	}
}

func TestLongText(t *testing.T) {
	const n = 1 << 18
	s := strings.Repeat("\r\n\r\x00\xFF", n)
	c, f := Chars(s)
	if len(c) != 4*n || len(f) != 2*n || c[4*n-4] != ch(10, 5*n-5, 5*n-3) || c[4*n-1] != ch(0xFFFD, 5*n-1, 5*n) || f[2*n-1] != utf8At(5*n-1) {
		t.Fatalf("%d characters, %d faults", len(c), len(f))
	}
	single, _ := bytewise(s)
	gotC, gotF := fed(New(), single...)
	if !slices.Equal(gotC, c) || !slices.Equal(gotF, f) {
		t.Errorf("in bytes: %d characters, %d faults", len(gotC), len(gotF))
	}
}

func BenchmarkChars(b *testing.B) {
	s := strings.Repeat("<p>caf\xC3\xA9 \xE2\x82\xAC\xF0\x9F\x98\x80\xFF\r\n", api.MaxText/20)
	b.SetBytes(int64(len(s)))
	for range b.N {
		Chars(s)
	}
}

package charref

import (
	"math"
	"math/big"
	"slices"
	"strconv"
	"strings"
	"testing"
	"unicode/utf8"

	"taffrail/api"
)

const (
	semi = api.FaultRefSemi
	name = api.FaultRefName
	num  = api.FaultRefNum
)

var both = []bool{false, true}

// answer is what One answers.
type answer struct {
	r, n  int
	codes []int
}

func (a answer) is(b answer) bool { return a.r == b.r && a.n == b.n && slices.Equal(a.codes, b.codes) }

func one(s string, attr bool) answer {
	r, n, codes := One(s, attr)
	return answer{r, n, codes}
}

func checkOne(t *testing.T, s string, attr bool, want answer) {
	t.Helper()
	if a := one(s, attr); !a.is(want) {
		t.Fatalf("One(%q, %v) is %v, want %v", s, attr, a, want)
	}
}

// highs is the chapter's list of 128 to 159.
func highs() map[int]int {
	return map[int]int{
		128: 0x20AC, 130: 0x201A, 131: 0x192, 132: 0x201E, 133: 0x2026, 134: 0x2020, 135: 0x2021, 136: 0x2C6, 137: 0x2030,
		138: 0x160, 139: 0x2039, 140: 0x152, 142: 0x17D, 145: 0x2018, 146: 0x2019, 147: 0x201C, 148: 0x201D, 149: 0x2022,
		150: 0x2013, 151: 0x2014, 152: 0x2DC, 153: 0x2122, 154: 0x161, 155: 0x203A, 156: 0x153, 158: 0x17E, 159: 0x178,
	}
}

// numberOf is 6.1 in other words: a list of what is odd, asked one by one.
func numberOf(n int) (int, int) {
	if n < 1 || n > 0x10FFFF || n > 0xD7FF && n < 0xE000 {
		return 0xFFFD, num
	}
	if n > 127 && n < 160 {
		if r, ok := highs()[n]; ok {
			return r, num
		}
		return n, num
	}
	if n < 32 && !strings.Contains("\t\n\f", string(rune(n))) || n == 127 {
		return n, num
	}
	if last := n % 0x10000; n >= 0xFDD0 && n < 0xFDF0 || last >= 0xFFFE {
		return n, num
	}
	return n, 0
}

func isDigit(b byte) bool { return strings.IndexByte("0123456789", b) >= 0 }

func isWord(b byte) bool {
	return isDigit(b) || strings.IndexByte("abcdefghijklmnopqrstuvwxyz", b|0x20) >= 0 && b < 0x80 && b >= 'A'
}

// oneOf is 6.2 in other words: no trie, and numbers without an end.
func oneOf(s string, attr bool) answer {
	if !strings.HasPrefix(s, "&") {
		return answer{}
	}
	if rest, ok := strings.CutPrefix(s, "&#"); ok {
		return numberedOf(s, rest)
	}
	return namedOf(s[1:], attr)
}

func numberedOf(s, rest string) answer {
	base, digits := 10, "0123456789"
	if rest != "" && strings.Contains("xX", rest[:1]) {
		rest, base, digits = rest[1:], 16, digits+"abcdefABCDEF"
	}
	row := rest[:len(rest)-len(strings.TrimLeft(rest, digits))]
	if row == "" {
		return answer{codes: []int{num}}
	}
	n, _ := new(big.Int).SetString(row, base)
	if most := big.NewInt(1 << 24); n.Cmp(most) > 0 {
		n = most
	}
	a := answer{n: len(s) - len(rest) + len(row)}
	r, code := numberOf(int(n.Int64()))
	a.r = r
	if code != 0 {
		a.codes = append(a.codes, code)
	}
	if strings.HasPrefix(rest[len(row):], ";") {
		a.n++
	} else {
		a.codes = append(a.codes, semi)
	}
	return a
}

func namedOf(behind string, attr bool) answer {
	best := api.Ref{}
	for _, x := range api.Refs() {
		if strings.HasPrefix(behind, x.Name) && len(x.Name) > len(best.Name) {
			best = x
		}
	}
	found := answer{r: best.R, n: 1 + len(best.Name)}
	switch next := behind[len(best.Name):]; {
	case best.Name == "":
		return noneOf(behind)
	case strings.HasSuffix(best.Name, ";"):
		return found
	case attr && next != "" && (next[0] == '=' || isWord(next[0])):
		return answer{}
	}
	found.codes = []int{semi}
	return found
}

func noneOf(behind string) answer {
	row, _, has := strings.Cut(behind, ";")
	if !has || row == "" {
		return answer{}
	}
	for i := range len(row) {
		if !isWord(row[i]) {
			return answer{}
		}
	}
	for _, x := range api.Refs() {
		if strings.HasPrefix(x.Name, row) {
			return answer{codes: []int{name}}
		}
	}
	return answer{}
}

// textOf and escapeOf are 6.3 in other words.
func textOf(s string, attr bool) string {
	told := ""
	for s != "" {
		if a := oneOf(s, attr); a.n > 0 {
			told, s = told+string(rune(a.r)), s[a.n:]
			continue
		}
		told, s = told+s[:1], s[1:]
	}
	return told
}

func escapeOf(s string, attr bool) string {
	s = strings.ReplaceAll(s, "&", "&amp;")
	s = strings.ReplaceAll(s, "\xC2\xA0", "&nbsp;")
	if attr {
		return strings.ReplaceAll(s, `"`, "&quot;")
	}
	return strings.ReplaceAll(strings.ReplaceAll(s, "<", "&lt;"), ">", "&gt;")
}

// checkBoth holds One of a text against the chapter in other words, with attr and without.
func checkBoth(t *testing.T, s string) {
	t.Helper()
	for _, attr := range both {
		checkOne(t, s, attr, oneOf(s, attr))
	}
}

// check holds all that is said of a text against the chapter in other words.
func check(t *testing.T, s string) {
	t.Helper()
	checkBoth(t, s)
	for _, attr := range both {
		if x, want := Text(s, attr), textOf(s, attr); x != want {
			t.Fatalf("Text(%q, %v) is %q, want %q", s, attr, x, want)
		}
		checkEscape(t, s, attr, escapeOf(s, attr))
	}
}

// checkEscape holds that Text takes back what Escape did: of any text, so of UTF-8 too.
func checkEscape(t *testing.T, s string, attr bool, want string) {
	t.Helper()
	e := Escape(s, attr)
	if e != want {
		t.Fatalf("Escape(%q, %v) is %q, want %q", s, attr, e, want)
	}
	for _, back := range both {
		if x := Text(e, back); x != s {
			t.Fatalf("Text(%q, %v), of Escape(%q, %v), is %q", e, back, s, attr, x)
		}
	}
}

// everyText gives all texts of at most n of some parts.
func everyText(n int, parts ...string) []string {
	all, last := []string{""}, []string{""}
	for range n {
		var next []string
		for _, s := range last {
			for _, p := range parts {
				next = append(next, s+p)
			}
		}
		all, last = append(all, next...), next
	}
	return all
}

func everyByte() []string {
	var all []string
	for b := range 256 {
		all = append(all, string([]byte{byte(b)}))
	}
	return all
}

func TestExamples(t *testing.T) {
	for _, e := range []struct {
		s    string
		attr bool
		want answer
	}{
		{"&amp;x", false, answer{38, 5, nil}},
		{"&amp;x", true, answer{38, 5, nil}},
		{"&ampx", false, answer{38, 4, []int{semi}}},
		{"&ampx", true, answer{}},
		{"&#x80;", false, answer{0x20AC, 6, []int{num}}},
		{"&#;", false, answer{0, 0, []int{num}}},
		{"&am;", false, answer{0, 0, []int{name}}},
		{"&notin;", false, answer{8713, 7, nil}},
	} {
		checkOne(t, e.s, e.attr, e.want)
		check(t, e.s)
	}
}

// Each number up to 161, said by hand.
func TestNumberUpTo161(t *testing.T) {
	list := highs()
	if len(list) != 27 {
		t.Fatalf("the list has %d rows", len(list))
	}
	for n := 1; n <= 161; n++ {
		r, code := n, 0
		switch {
		case n == 9 || n == 10 || n == 12: // blanks, as 32 is
		case n <= 31 || n == 127:
			code = num
		case n >= 128 && n <= 159:
			code = num
			if list[n] != 0 {
				r = list[n]
			}
		}
		if gr, gcode := Number(n); gr != r || gcode != code {
			t.Errorf("Number(%d) is %#x, %d, want %#x, %d", n, gr, gcode, r, code)
		}
	}
	for _, n := range []int{129, 141, 143, 144, 157, 13, 127} {
		if r, code := Number(n); r != n || code != num {
			t.Errorf("Number(%d) is %d, %d", n, r, code)
		}
	}
}

func TestNumberEdges(t *testing.T) {
	lost := [2]int{0xFFFD, num}
	odd := func(n int) [2]int { return [2]int{n, num} }
	good := func(n int) [2]int { return [2]int{n, 0} }
	want := map[int][2]int{
		0: lost, -1: lost, -65: lost, math.MinInt: lost, math.MinInt + 65: lost, math.MinInt32: lost, math.MaxInt: lost, math.MaxInt32: lost,
		1: odd(1), 8: odd(8), 9: good(9), 10: good(10), 11: odd(11), 12: good(12), 13: odd(13), 14: odd(14), 31: odd(31), 32: good(32), 126: good(126), 127: odd(127), 160: good(160),
		0xD7FF: good(0xD7FF), 0xD800: lost, 0xDBFF: lost, 0xDC00: lost, 0xDFFF: lost, 0xE000: good(0xE000),
		0xFDCF: good(0xFDCF), 0xFDD0: odd(0xFDD0), 0xFDE0: odd(0xFDE0), 0xFDEF: odd(0xFDEF), 0xFDF0: good(0xFDF0), 0x1FDD0: good(0x1FDD0),
		0xFFFC: good(0xFFFC), 0xFFFD: good(0xFFFD), 0x10FFFD: good(0x10FFFD), 0x110000: lost, 0x110041: lost, 0x11FFFE: lost, 1 << 24: lost, 1<<24 + 65: lost,
	}
	for plane := range 0x11 {
		at := plane << 16
		want[at+0xFFFD] = good(at + 0xFFFD)
		want[at+0xFFFE] = odd(at + 0xFFFE)
		want[at+0xFFFF] = odd(at + 0xFFFF)
		if plane > 0 {
			want[at] = good(at)
		}
	}
	for shift := 32; shift < 63; shift++ { // what would come round to 65, or to 128, in fewer bits
		n := 1
		for range shift {
			n <<= 1
		}
		want[n+65], want[n+128], want[-n+65] = lost, lost, lost
	}
	for n, w := range want {
		if r, code := Number(n); r != w[0] || code != w[1] {
			t.Errorf("Number(%#x) is %#x, %d, want %#x, %d", n, r, code, w[0], w[1])
		}
	}
}

func TestNumberAll(t *testing.T) {
	for n := -0x200; n <= 0x110200; n++ {
		r, code := Number(n)
		if wr, wcode := numberOf(n); r != wr || code != wcode {
			t.Fatalf("Number(%#x) is %#x, %d, want %#x, %d", n, r, code, wr, wcode)
		}
	}
}

// Texts without a reference, and without a fault.
func TestNoReference(t *testing.T) {
	for _, s := range []string{
		"", "x", "amp;", " &amp;", "x&amp;", "#65;", ";", "\x00&amp;", "\xFF&amp;", "\xE2&amp;", "\u00a0", "\uFF06amp;",
		"&", "& ", "&&", "&&amp;", "&;", "&;amp;", "& amp;", "&=", "&-", "&\x00", "&\x00amp;", "&\x80", "&\x80;", "&\xFF", "&\xFF;", "&\u00e9;", "&\u017Ft;",
		"&a", "&am", "&am ", "&am=", "&am-;", "&am\x00;", "&am\xFF;", "&a&", "&pi", "&piv", "&pi ", "&no", "&no:", "&0;", "&9;", "&1;", "&z", "&zz;", "&amq;", "&Amp;", "&aMP;", "&x;", "&Z;", "&zwjj;", "&zwj", "&zwjx;", "&alphaa;", "&euro", "&in", "&inn;",
	} {
		for _, attr := range both {
			checkOne(t, s, attr, answer{})
		}
		check(t, s)
	}
}

// One of & ahead of each byte, alone, with ; behind and with amp; behind.
func TestEachByteBehind(t *testing.T) {
	for _, b := range everyByte() {
		for _, s := range []string{b, "&" + b, "&" + b + ";", "&" + b + "amp;", "&" + b + "65;", b + "&amp;", "&#" + b, "&#" + b + ";", "&#" + b + "1;", "&#x" + b, "&#X" + b + ";", "&#x" + b + "1;", "&#1" + b, "&#65" + b, "&#x41" + b, "&#X0" + b + ";", "&a" + b, "&a" + b + ";", "&am" + b + ";", "&no" + b, "&not" + b + "n;", "&" + b + "\xA0"} {
			check(t, s)
		}
	}
	for _, b := range everyByte() {
		want := answer{}
		if b == "#" {
			want.codes = []int{num}
		}
		checkOne(t, "&"+b, false, want)
		checkOne(t, "&"+b, true, want)
	}
}

func TestNumbered(t *testing.T) {
	for _, e := range []struct {
		s    string
		want answer
	}{
		{"&#", answer{0, 0, []int{num}}}, {"&#;", answer{0, 0, []int{num}}}, {"&# 65;", answer{0, 0, []int{num}}}, {"&#a;", answer{0, 0, []int{num}}}, {"&#-65;", answer{0, 0, []int{num}}}, {"&#+65;", answer{0, 0, []int{num}}}, {"&##65;", answer{0, 0, []int{num}}}, {"&#&#65;", answer{0, 0, []int{num}}}, {"&#\x00", answer{0, 0, []int{num}}}, {"&#\xFF", answer{0, 0, []int{num}}}, {"&#\u0661;", answer{0, 0, []int{num}}},
		{"&#x", answer{0, 0, []int{num}}}, {"&#X", answer{0, 0, []int{num}}}, {"&#x;", answer{0, 0, []int{num}}}, {"&#X;", answer{0, 0, []int{num}}}, {"&#xg;", answer{0, 0, []int{num}}}, {"&#XG;", answer{0, 0, []int{num}}}, {"&#xx41;", answer{0, 0, []int{num}}}, {"&#x 41;", answer{0, 0, []int{num}}}, {"&#y41;", answer{0, 0, []int{num}}},
		{"&#65;", answer{65, 5, nil}}, {"&#65;;", answer{65, 5, nil}}, {"&#65", answer{65, 4, []int{semi}}}, {"&#65x", answer{65, 4, []int{semi}}}, {"&#65=", answer{65, 4, []int{semi}}}, {"&#65a;", answer{65, 4, []int{semi}}}, {"&#65 ;", answer{65, 4, []int{semi}}}, {"&#65&#66;", answer{65, 4, []int{semi}}}, {"&#6\xFF", answer{6, 3, []int{num, semi}}}, {"&#9", answer{9, 3, []int{semi}}}, {"&#6x41;", answer{6, 3, []int{num, semi}}},
		{"&#x41;", answer{65, 6, nil}}, {"&#X41;", answer{65, 6, nil}}, {"&#x41", answer{65, 5, []int{semi}}}, {"&#x4ag", answer{74, 5, []int{semi}}}, {"&#x4G;", answer{4, 4, []int{num, semi}}}, {"&#xabcdef;", answer{0xFFFD, 10, []int{num}}}, {"&#xabcd;", answer{0xABCD, 8, nil}}, {"&#XABCD;", answer{0xABCD, 8, nil}}, {"&#xAbCd;", answer{0xABCD, 8, nil}}, {"&#xefE;", answer{0xEFE, 7, nil}}, {"&#XFFe;", answer{0xFFE, 7, nil}}, {"&#x65;", answer{0x65, 6, nil}},
		{"&#0065;", answer{65, 7, nil}}, {"&#x00000000000000000000000041;", answer{65, 30, nil}}, {"&#00000000000000000000000000000065x", answer{65, 34, []int{semi}}},
		{"&#0;", answer{0xFFFD, 4, []int{num}}}, {"&#0", answer{0xFFFD, 3, []int{num, semi}}}, {"&#00000;", answer{0xFFFD, 8, []int{num}}}, {"&#x0;", answer{0xFFFD, 5, []int{num}}}, {"&#x0", answer{0xFFFD, 4, []int{num, semi}}},
		{"&#13;", answer{13, 5, []int{num}}}, {"&#13", answer{13, 4, []int{num, semi}}}, {"&#10;", answer{10, 5, nil}}, {"&#128;", answer{0x20AC, 6, []int{num}}}, {"&#128", answer{0x20AC, 5, []int{num, semi}}}, {"&#x9f", answer{0x178, 5, []int{num, semi}}}, {"&#x81;", answer{0x81, 6, []int{num}}},
		{"&#xD7FF;", answer{0xD7FF, 8, nil}}, {"&#xD800;", answer{0xFFFD, 8, []int{num}}}, {"&#xDFFF", answer{0xFFFD, 7, []int{num, semi}}}, {"&#xE000;", answer{0xE000, 8, nil}}, {"&#xFFFE;", answer{0xFFFE, 8, []int{num}}}, {"&#xFFFD;", answer{0xFFFD, 8, nil}},
		{"&#1114109;", answer{0x10FFFD, 10, nil}}, {"&#1114110;", answer{0x10FFFE, 10, []int{num}}}, {"&#1114111;", answer{0x10FFFF, 10, []int{num}}}, {"&#1114112;", answer{0xFFFD, 10, []int{num}}}, {"&#x10FFFF", answer{0x10FFFF, 9, []int{num, semi}}}, {"&#x10ffff;", answer{0x10FFFF, 10, []int{num}}}, {"&#x10FFFD;", answer{0x10FFFD, 10, nil}}, {"&#x110000;", answer{0xFFFD, 10, []int{num}}}, {"&#x110041", answer{0xFFFD, 9, []int{num, semi}}},
		{"&#16777215;", answer{0xFFFD, 11, []int{num}}}, {"&#16777216;", answer{0xFFFD, 11, []int{num}}}, {"&#16777217;", answer{0xFFFD, 11, []int{num}}}, {"&#x1000000;", answer{0xFFFD, 11, []int{num}}}, {"&#x1000041;", answer{0xFFFD, 11, []int{num}}}, {"&#xffffff", answer{0xFFFD, 9, []int{num, semi}}},
		{"&#x100000041;", answer{0xFFFD, 13, []int{num}}}, {"&#4294967361;", answer{0xFFFD, 13, []int{num}}}, {"&#x10000000000000041;", answer{0xFFFD, 21, []int{num}}}, {"&#18446744073709551681;", answer{0xFFFD, 23, []int{num}}}, {"&#9223372036854775873;", answer{0xFFFD, 22, []int{num}}}, {"&#99999999999999999999", answer{0xFFFD, 22, []int{num, semi}}},
	} {
		checkOne(t, e.s, false, e.want)
		checkOne(t, e.s, true, e.want)
		check(t, e.s)
	}
}

// Each number by its digits: of both bases, of both cases, with zeros ahead, with and without ;.
func TestNumberedAll(t *testing.T) {
	var ns []int
	for n := range 1024 {
		ns = append(ns, n)
	}
	for _, at := range []int{0xD800, 0xE000, 0xFDD0, 0xFDF0, 0xFFFE, 0x10000, 0x1FFFE, 0x10FFFE, 0x110000, 1 << 24, 1 << 31, 1 << 32, 1 << 48} {
		for n := at - 3; n <= at+3; n++ {
			ns = append(ns, n)
		}
	}
	for shift := range 63 {
		ns = append(ns, 1<<shift, 1<<shift+65, math.MaxInt>>shift)
	}
	for _, n := range ns {
		hex := strconv.FormatInt(int64(n), 16)
		for _, digits := range []string{"&#" + strconv.Itoa(n), "&#000" + strconv.Itoa(n), "&#x" + hex, "&#X" + strings.ToUpper(hex), "&#x00" + strings.ToUpper(hex), "&#X0" + hex} {
			r, code := numberOf(n)
			want := answer{r, len(digits) + 1, nil}
			if code != 0 {
				want.codes = []int{code}
			}
			bare := answer{r, len(digits), append(slices.Clone(want.codes), semi)}
			for _, attr := range both {
				checkOne(t, digits+";", attr, want)
				checkOne(t, digits+";1", attr, want)
				checkOne(t, digits, attr, bare)
				checkOne(t, digits+"=", attr, bare)
				checkOne(t, digits+"g;", attr, bare)
			}
		}
	}
}

// So many digits that no int has them.
func TestManyDigits(t *testing.T) {
	for _, zeros := range []int{10, 19, 20, 64, 1000, 1 << 16} {
		long := strings.Repeat("0", zeros)
		for _, attr := range both {
			checkOne(t, "&#"+long+"65;", attr, answer{65, zeros + 5, nil})
			checkOne(t, "&#x"+long+"41", attr, answer{65, zeros + 5, []int{semi}})
			checkOne(t, "&#1"+long+"65;", attr, answer{0xFFFD, zeros + 6, []int{num}})
			checkOne(t, "&#x1"+long+"41", attr, answer{0xFFFD, zeros + 6, []int{num, semi}})
			checkOne(t, "&#"+strings.Repeat("9", zeros), attr, answer{0xFFFD, zeros + 2, []int{num, semi}})
			checkOne(t, "&#X"+strings.Repeat("f", zeros)+";", attr, answer{0xFFFD, zeros + 4, []int{num}})
		}
	}
}

func TestNamed(t *testing.T) {
	missing, bare := []int{name}, []int{semi}
	for _, e := range []struct {
		s           string
		text, value answer
	}{
		{"&amp", answer{38, 4, bare}, answer{38, 4, bare}},
		{"&amp;", answer{38, 5, nil}, answer{38, 5, nil}},
		{"&amp;;", answer{38, 5, nil}, answer{38, 5, nil}},
		{"&amp;=", answer{38, 5, nil}, answer{38, 5, nil}},
		{"&AMP", answer{38, 4, bare}, answer{38, 4, bare}},
		{"&amp ", answer{38, 4, bare}, answer{38, 4, bare}},
		{"&amp&", answer{38, 4, bare}, answer{38, 4, bare}},
		{"&amp\x00", answer{38, 4, bare}, answer{38, 4, bare}},
		{"&amp\x80", answer{38, 4, bare}, answer{38, 4, bare}},
		{"&amp\xFF", answer{38, 4, bare}, answer{38, 4, bare}},
		{"&amp\u00e9", answer{38, 4, bare}, answer{38, 4, bare}},
		{"&amp=", answer{38, 4, bare}, answer{}},
		{"&amp=;", answer{38, 4, bare}, answer{}},
		{"&amp0", answer{38, 4, bare}, answer{}},
		{"&amp9;", answer{38, 4, bare}, answer{}},
		{"&ampa", answer{38, 4, bare}, answer{}},
		{"&ampz;", answer{38, 4, bare}, answer{}},
		{"&ampA", answer{38, 4, bare}, answer{}},
		{"&ampZ", answer{38, 4, bare}, answer{}},
		{"&amp/", answer{38, 4, bare}, answer{38, 4, bare}},
		{"&amp:", answer{38, 4, bare}, answer{38, 4, bare}},
		{"&amp@", answer{38, 4, bare}, answer{38, 4, bare}},
		{"&amp[", answer{38, 4, bare}, answer{38, 4, bare}},
		{"&amp`", answer{38, 4, bare}, answer{38, 4, bare}},
		{"&amp{", answer{38, 4, bare}, answer{38, 4, bare}},
		{"&amp<", answer{38, 4, bare}, answer{38, 4, bare}},
		{"&amp>", answer{38, 4, bare}, answer{38, 4, bare}},
		{"&not", answer{172, 4, bare}, answer{172, 4, bare}},
		{"&not;", answer{172, 5, nil}, answer{172, 5, nil}},
		{"&not;in;", answer{172, 5, nil}, answer{172, 5, nil}},
		{"&noti", answer{172, 4, bare}, answer{}},
		{"&notin", answer{172, 4, bare}, answer{}},
		{"&notit;", answer{172, 4, bare}, answer{}},
		{"&notin;", answer{8713, 7, nil}, answer{8713, 7, nil}},
		{"&notin;x", answer{8713, 7, nil}, answer{8713, 7, nil}},
		{"&notin=", answer{172, 4, bare}, answer{}},
		{"&not in;", answer{172, 4, bare}, answer{172, 4, bare}},
		{"&pi;", answer{960, 4, nil}, answer{960, 4, nil}},
		{"&piv;", answer{982, 5, nil}, answer{982, 5, nil}},
		{"&in;", answer{8712, 4, nil}, answer{8712, 4, nil}},
		{"&int;", answer{8747, 5, nil}, answer{8747, 5, nil}},
		{"&lt", answer{60, 3, bare}, answer{60, 3, bare}},
		{"&ltx", answer{60, 3, bare}, answer{}},
		{"&eacutee", answer{233, 7, bare}, answer{}},
		{"&a;", answer{0, 0, missing}, answer{0, 0, missing}},
		{"&am;", answer{0, 0, missing}, answer{0, 0, missing}},
		{"&am;p;", answer{0, 0, missing}, answer{0, 0, missing}},
		{"&no;", answer{0, 0, missing}, answer{0, 0, missing}},
		{"&n;", answer{0, 0, missing}, answer{0, 0, missing}},
		{"&Q;", answer{0, 0, missing}, answer{0, 0, missing}},
		{"&QUO;", answer{0, 0, missing}, answer{0, 0, missing}},
		{"&hellipp;", answer{}, answer{}},
		{"&helli;", answer{0, 0, missing}, answer{0, 0, missing}},
		{"&p;", answer{0, 0, missing}, answer{0, 0, missing}},
		{"&alpha", answer{}, answer{}},
		{"&alp-;", answer{}, answer{}},
		{"&alp", answer{}, answer{}},
		{"&alpa;", answer{}, answer{}},
		{"&b2;", answer{}, answer{}},
	} {
		checkOne(t, e.s, false, e.text)
		checkOne(t, e.s, true, e.value)
		check(t, e.s)
	}
}

// Each of api's names alone, without its ;, and with each byte behind.
func TestEachName(t *testing.T) {
	for _, x := range api.Refs() {
		whole, open := strings.TrimSuffix(x.Name, ";"), !strings.HasSuffix(x.Name, ";")
		want := answer{x.R, 1 + len(x.Name), nil}
		if open {
			want.codes = []int{semi}
		}
		for _, attr := range both {
			checkOne(t, "&"+x.Name, attr, want)
			checkOne(t, "&"+whole+";", attr, answer{x.R, 2 + len(whole), nil})
		}
		for _, b := range everyByte() {
			for _, s := range []string{x.Name + b, whole + b, x.Name + b + ";", whole + b + "x", strings.ToUpper(whole) + b, whole[:len(whole)-1] + b} {
				checkBoth(t, "&"+s)
			}
			if !open || b == ";" {
				continue
			}
			if isWord(b[0]) || b == "=" {
				checkOne(t, "&"+x.Name+b, true, answer{})
			} else {
				checkOne(t, "&"+x.Name+b, true, want)
			}
			checkOne(t, "&"+x.Name+b, false, want)
		}
	}
}

// Each beginning of each name, with ; behind it and with something else.
func TestEachBeginning(t *testing.T) {
	known := func(s string) bool {
		return slices.ContainsFunc(api.Refs(), func(x api.Ref) bool { return strings.HasPrefix(s, x.Name) })
	}
	for _, x := range api.Refs() {
		for i := 1; i < len(x.Name); i++ {
			begin := x.Name[:i]
			for _, tail := range append(everyByte(), "", ";;", ";x", "x;", "0;", " ;", "\x00;", "\u00e9;", "&;", "#;") {
				checkBoth(t, "&"+begin+tail)
			}
			if known(begin) || known(begin+";") {
				continue
			}
			for _, attr := range both {
				checkOne(t, "&"+begin+";", attr, answer{0, 0, []int{name}})
				checkOne(t, "&"+begin, attr, answer{})
				checkOne(t, "&"+begin+" ;", attr, answer{})
				checkOne(t, "&"+begin+"_;", attr, answer{})
			}
		}
	}
}

// Every short text of what references are made of.
func TestEveryShortText(t *testing.T) {
	for _, s := range everyText(4, "#", "x", "X", ";", "1", "a", "=", "g", "not", "in", "mp", "&") {
		checkBoth(t, "&"+s)
	}
	for _, s := range everyText(3, "&", "&#", "not", "in", ";", "a", "mp", "\xC2", "\xA0", "<", `"`, "#8", "0", "x4") {
		check(t, s)
	}
	for _, s := range everyText(3, "&", "\x00", "\x80", "\xFF", "\u00e9", "\u20ac", "\U0001F600", "\u00a0", "\xE2\x82", "gt", "lt;", ">", "&#xD800;", "&#65", "&nbsp", "&am;") {
		check(t, s)
	}
}

func TestText(t *testing.T) {
	for _, e := range []struct{ s, text, value string }{
		{"", "", ""},
		{"abc", "abc", "abc"},
		{"a\x00b\xFF\xC2", "a\x00b\xFF\xC2", "a\x00b\xFF\xC2"},
		{"&", "&", "&"}, {"&&", "&&", "&&"}, {"a&", "a&", "a&"}, {"a&b", "a&b", "a&b"}, {"a & b", "a & b", "a & b"},
		{"&lt;", "<", "<"}, {"x&lt;", "x<", "x<"}, {"&lt;x", "<x", "<x"},
		{"&lt;&gt;", "<>", "<>"}, {"&lt&gt", "<>", "<>"}, {"&ltgt;", "<gt;", "&ltgt;"}, {"&#65&#66", "AB", "AB"}, {"&#65&#x42;c", "ABc", "ABc"},
		{"a&lt;b&#65c&x", "a<bAc&x", "a<bAc&x"},
		{"&amp;amp;", "&amp;", "&amp;"}, {"&ampamp;", "&amp;", "&ampamp;"}, {"&amp;lt;", "&lt;", "&lt;"}, {"&#38;#65;", "&#65;", "&#65;"}, {"&#38;amp;", "&amp;", "&amp;"}, {"&amp;amp;amp;", "&amp;amp;", "&amp;amp;"},
		{"&&amp;", "&&", "&&"}, {"&#&amp;", "&#&", "&#&"}, {"&am&amp;", "&am&", "&am&"}, {"&#x&#65;", "&#xA", "&#xA"}, {"&am;&amp;", "&am;&", "&am;&"}, {"&;&;", "&;&;", "&;&;"},
		{"?a=b&copy=c&lt;", "?a=b\u00a9=c<", "?a=b&copy=c<"}, {"&copy c", "\u00a9 c", "\u00a9 c"},
		{"&notit;&notin;", "\u00acit;\u2209", "&notit;\u2209"},
		{"&#x41;&#xE9;&#x20AC;&#x1F600;", "A\u00e9\u20ac\U0001F600", "A\u00e9\u20ac\U0001F600"},
		{"\u00e9&eacute;\u20ac&euro;\U0001F600&#128512;", "\u00e9\u00e9\u20ac\u20ac\U0001F600\U0001F600", "\u00e9\u00e9\u20ac\u20ac\U0001F600\U0001F600"},
		{"&#0;&#xD800;&#x110000;", "\uFFFD\uFFFD\uFFFD", "\uFFFD\uFFFD\uFFFD"}, {"&#128;&#129;&#13;&#xFFFF;", "\u20ac\u0081\r\uFFFF", "\u20ac\u0081\r\uFFFF"},
		{"\xFF&amp;\x80", "\xFF&\x80", "\xFF&\x80"}, {"\xE2&lt;\x82\xAC", "\xE2<\x82\xAC", "\xE2<\x82\xAC"}, {"\xF0\x9F&#65;", "\xF0\x9FA", "\xF0\x9FA"}, {"&#195;\xA9", "\u00c3\xA9", "\u00c3\xA9"}, {"&amp\xFF", "&\xFF", "&\xFF"}, {"&\xFFamp;", "&\xFFamp;", "&\xFFamp;"},
		{"\uFFFD&#xFFFD;", "\uFFFD\uFFFD", "\uFFFD\uFFFD"}, {"\r\n&#13;\n", "\r\n\r\n", "\r\n\r\n"},
	} {
		if x := Text(e.s, false); x != e.text {
			t.Errorf("Text(%q, false) is %q, want %q", e.s, x, e.text)
		}
		if x := Text(e.s, true); x != e.value {
			t.Errorf("Text(%q, true) is %q, want %q", e.s, x, e.value)
		}
		check(t, e.s)
	}
}

func TestEscape(t *testing.T) {
	for _, e := range []struct{ s, text, value string }{
		{"", "", ""}, {"abc", "abc", "abc"}, {"'`;#=/ \t\n\x00\u00e9\u20ac\U0001F600", "'`;#=/ \t\n\x00\u00e9\u20ac\U0001F600", "'`;#=/ \t\n\x00\u00e9\u20ac\U0001F600"},
		{"&", "&amp;", "&amp;"}, {`"`, `"`, "&quot;"}, {"<", "&lt;", "<"}, {">", "&gt;", ">"}, {"\u00a0", "&nbsp;", "&nbsp;"}, {"'", "'", "'"},
		{"\xC2", "\xC2", "\xC2"}, {"\xA0", "\xA0", "\xA0"}, {"\xA0\xC2", "\xA0\xC2", "\xA0\xC2"}, {"\xC2 \xA0", "\xC2 \xA0", "\xC2 \xA0"}, {"\xC2\xC2\xA0\xA0", "\xC2&nbsp;\xA0", "\xC2&nbsp;\xA0"},
		{"\u00a1\u009f\u00e0", "\u00a1\u009f\u00e0", "\u00a1\u009f\u00e0"}, {"\u0820\u2020\U000200A0", "\u0820\u2020\U000200A0", "\u0820\u2020\U000200A0"}, {"\xE2\xC2\xA0", "\xE2&nbsp;", "\xE2&nbsp;"}, {"\xE0\xA0\xA0\xE2\x82\xA0", "\xE0\xA0\xA0\xE2\x82\xA0", "\xE0\xA0\xA0\xE2\x82\xA0"},
		{"&&", "&amp;&amp;", "&amp;&amp;"}, {"&amp;", "&amp;amp;", "&amp;amp;"}, {"&#65;", "&amp;#65;", "&amp;#65;"}, {"&nbsp;\u00a0", "&amp;nbsp;&nbsp;", "&amp;nbsp;&nbsp;"},
		{"<a & \"b\"\u00a0>", "&lt;a &amp; \"b\"&nbsp;&gt;", "<a &amp; &quot;b&quot;&nbsp;>"}, {`<">`, `&lt;"&gt;`, "<&quot;>"},
		{"\xFF<\xFE>\x80&\xC0\"", "\xFF&lt;\xFE&gt;\x80&amp;\xC0\"", "\xFF<\xFE>\x80&amp;\xC0&quot;"}, {"\uFFFD\xFF<", "\uFFFD\xFF&lt;", "\uFFFD\xFF<"}, {"\xED\xA0\x80&", "\xED\xA0\x80&amp;", "\xED\xA0\x80&amp;"},
	} {
		checkEscape(t, e.s, false, e.text)
		checkEscape(t, e.s, true, e.value)
		check(t, e.s)
	}
	for _, a := range everyByte() {
		for _, b := range everyByte() {
			for _, attr := range both {
				checkEscape(t, a+b, attr, escapeOf(a+b, attr))
			}
		}
	}
}

// Text of Escape(s) is s: of each character, and of texts that look like references.
func TestTextOfEscape(t *testing.T) {
	for r := range rune(utf8.MaxRune + 1) {
		s := string(r)
		for _, attr := range both {
			e := Escape(s, attr)
			if e == s && (r == '&' || r == 0xA0) || e != s && !strings.ContainsRune("&\"<>\u00a0", r) {
				t.Fatalf("Escape(%q, %v) is %q", s, attr, e)
			}
		}
	}
	for at := rune(0); at < utf8.MaxRune; at += 1 << 10 {
		var b strings.Builder
		for i := range rune(1 << 10) {
			b.WriteRune(at + i)
			b.WriteByte("&<>\"#;a"[i%7])
		}
		for _, attr := range both {
			checkEscape(t, b.String(), attr, escapeOf(b.String(), attr))
		}
	}
	for _, x := range api.Refs() {
		for _, s := range []string{"&" + x.Name, "&" + x.Name + "=", "&" + x.Name + "x", "&amp;" + x.Name, "&&" + x.Name, "&#" + strconv.Itoa(x.R) + ";", "&#x" + strconv.FormatInt(int64(x.R), 16), string(rune(x.R)), string(rune(x.R)) + ";" + string(rune(x.R))} {
			for _, attr := range both {
				checkEscape(t, s, attr, escapeOf(s, attr))
			}
		}
	}
}

// spoil writes over all that a list has, up to its capacity.
func spoil(l []int) {
	for i := range l[:cap(l)] {
		l[:cap(l)][i] = 99
	}
	_ = append(l, 98)
}

// No list that was handed out shares memory with another answer.
func TestAnswersShareNothing(t *testing.T) {
	for _, s := range []string{"&#;", "&#0", "&#0;", "&#65", "&#65;", "&amp", "&amp;", "&ampx", "&am;", "&", "", "&#x80;", "&#x110000"} {
		for _, attr := range both {
			want := oneOf(s, attr)
			a, b := one(s, attr), one(s, attr)
			spoil(a.codes)
			if !b.is(want) {
				t.Errorf("One(%q, %v): another answer is %v now, want %v", s, attr, b, want)
			}
			checkOne(t, s, attr, want)
		}
	}
	for n := -1; n < 200; n++ {
		r, code := Number(n)
		if wr, wcode := numberOf(n); r != wr || code != wcode {
			t.Errorf("Number(%d) is %d, %d behind it", n, r, code)
		}
	}
}

// An answer hangs on the arguments alone, not on what was asked ahead, nor on a map's order.
func TestManyTimes(t *testing.T) {
	for range 20 {
		for _, s := range []string{"&notin;", "&notit;", "&am;", "&#128", "x&lt;&gt&", "&zz;", "\u00a0&"} {
			check(t, s)
		}
	}
}

// Long texts end, and in a time that grows as they do.
func TestLongTexts(t *testing.T) {
	const n = 1 << 18
	for _, e := range []struct{ s, text, value string }{
		{"&", "&", "&"}, {"a", "a", "a"}, {"&#", "&#", "&#"}, {"&a", "&a", "&a"}, {"&am;", "&am;", "&am;"}, {"&amp;", "&", "&"}, {"&amp", "&", "&"}, {"&#65;", "A", "A"}, {"&#65", "A", "A"}, {"&not\xFF", "\u00ac\xFF", "\u00ac\xFF"}, {"&noti", "\u00aci", "&noti"},
	} {
		long := strings.Repeat(e.s, n)
		if Text(long, false) != strings.Repeat(e.text, n) || Text(long, true) != strings.Repeat(e.value, n) {
			t.Errorf("Text of many %q is wrong", e.s)
		}
		for _, attr := range both {
			checkEscape(t, long, attr, escapeOf(long, attr))
		}
	}
	letters := "&" + strings.Repeat("n", 1<<20) + ";"
	for _, attr := range both {
		checkOne(t, letters, attr, answer{})
		checkOne(t, "&amp;"+letters, attr, answer{38, 5, nil})
	}
}

func BenchmarkOne(b *testing.B) {
	for b.Loop() {
		One("&notin;x", false)
	}
}

func BenchmarkText(b *testing.B) {
	s := strings.Repeat("a&lt;b&#65c&x", 1000)
	for b.Loop() {
		Text(s, false)
	}
}

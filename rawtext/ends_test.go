package rawtext

import (
	"strings"
	"testing"

	"taffrail/api"
	"taffrail/vocab"
)

// found is where an end tag stands; at -1, if there is none.
type found struct {
	s, last string
	at      int
}

func checkEnds(t *testing.T, l []found) {
	t.Helper()
	for _, x := range l {
		at, ok := Ends(x.s, x.last)
		if x.at < 0 && (at != 0 || ok) || x.at >= 0 && (at != x.at || !ok) {
			t.Errorf("Ends(%q, %q): %d %v, want %d", x.s, x.last, at, ok, x.at)
		}
	}
}

func TestEndsWithout(t *testing.T) {
	checkEnds(t, []found{
		{"", "i", -1}, {"x", "i", -1}, {"i", "i", -1}, {"<", "i", -1}, {"</", "i", -1}, {"</i", "i", -1}, {"</i ", "i", -1}, {"</i/", "i", -1}, {"</i b", "i", -1}, {"</i b=", "i", -1}, {"</i b='>", "i", -1}, {"</i b=\"></i>", "i", -1},
		{"<i>", "i", -1}, {"<i/>", "i", -1}, {"/i>", "i", -1}, {"</>", "i", -1}, {"</ i>", "i", -1}, {"< /i>", "i", -1}, {"<//i>", "i", -1}, {"</b></j></h>", "i", -1}, {"</ii></ij></ji>", "i", -1}, {"</i></i", "ii", -1},
		{"</i1>", "i", -1}, {"</i-></i=></i&></i'></i\"></i:></i!>", "i", -1}, {"</ié></i\x00></i\xFF></i\v></i\u00A0>", "i", -1}, {"</і>", "i", -1}, {"</ı></İ>", "i", -1}, {"&lt;/i>", "i", -1},
	})
}

func TestEndsFound(t *testing.T) {
	checkEnds(t, []found{
		{"</i>", "i", 0}, {"</I>", "i", 0}, {"x</i>", "i", 1}, {"</b></i>", "i", 4}, {"a</b></i>", "i", 5}, {"</ii></i >", "i", 5}, {"</I/>", "i", 0}, {"</script></i></script>", "i", 9}, {"</i></i>", "i", 0},
		{"</i\t>", "i", 0}, {"</i\n>", "i", 0}, {"</i\f>", "i", 0}, {"</i\r>", "i", 0}, {"</i\r\n>", "i", 0}, {"</i \t\n >", "i", 0}, {"</i//>", "i", 0}, {"</i / >", "i", 0}, {"</i/b>", "i", 0},
		{"x</i b>", "i", 1}, {"x</i b=1 c='>' d=\">\">", "i", 1}, {"x</i <b></i>", "i", 1}, {"x</i </i>", "i", 1}, {"</i b='>'></i>", "i", 0}, {"</i b=&gt;>", "i", 0}, {"</i\n=>", "i", 0}, {"</i b=>", "i", 0},
		{"<</i>", "i", 1}, {"</</i>", "i", 2}, {"</i</i>", "i", 3}, {"</ii</i>", "i", 4}, {"</b</i>", "i", 3}, {"<<</i>", "i", 2}, {"<i</i>", "i", 2}, {"<i></i>", "i", 3}, {"<!--</i>-->", "i", 4}, {"<a b='</i>'>", "i", 6}, {"&</i>", "i", 1}, {"&lt</i>", "i", 3}, {"</ </i>", "i", 3}, {"</></i>", "i", 3},
		{"</scripts></SCRIPT >", "script", 10}, {"</scrip></sCrIpT>", "script", 8}, {"<script></script></script>", "script", 8}, {"</titLE/>", "title", 0}, {"</plaintext>", "plaintext", 0}, {"</Az>", "az", 0}, {"</aaa></aa></a>", "aa", 6},
	})
}

// The place is that of a byte, whatever characters stand ahead.
func TestEndsBehindBytes(t *testing.T) {
	for _, ahead := range []string{
		"é", "€", "😀", "é€😀", "\u0000", "\xFF", "\xC3", "\xE2", "\xE2\x82", "\xF0\x9F\x98", "\xC0\x80", "\xED\xA0\x80", "\xF5", "\r", "\r\n", "\n", "\r\r\n", "\x01\x7F", "\uFFFD", "\uFFFE", "\U0010FFFF", "\uFEFF",
		"</é></€></\xFF>", "</i\xE2\x82", "<é", "</\xF0\x9F", "&am;é&#0;", "<\r\n/i>",
	} {
		for n := range 4 {
			s := strings.Repeat(ahead, n)
			checkEnds(t, []found{{s + "</i>", "i", len(s)}, {s + "</I\r\n😀=\xFF>x</i>", "i", len(s)}, {s + "</i", "i", -1}, {s, "i", -1}})
		}
	}
}

func TestEndsWithoutName(t *testing.T) {
	for _, last := range append(wrongNames(), "") {
		checkEnds(t, []found{
			{"", last, -1}, {"x", last, -1}, {"</>", last, -1}, {"</ >", last, -1}, {"</i>", last, -1}, {"</I>", last, -1}, {"</" + last + ">", last, -1}, {"</" + vocab.Lower(last) + ">", last, -1}, {"<" + last + "></" + last + ">", last, -1},
		})
	}
}

// byEye looks for the end tag in the bytes themselves.
func byEye(s, last string) int {
	for i := range len(s) {
		name, rest := i+2, i+2+len(last)
		if last == "" || rest >= len(s) || s[i:name] != "</" || !strings.EqualFold(s[name:rest], last) || !strings.ContainsRune(blanks+"/>", rune(s[rest])) {
			continue
		}
		if closes(s[rest:]) {
			return i
		}
		return -1 // the tag goes on to the end
	}
	return -1
}

const blanks = "\t\n\f\r "

// over gives s behind the bytes of set that it begins with, till gives it from the first of them on.
func over(s, set string) string { return strings.TrimLeft(s, set) }

func till(s, set string) string {
	if i := strings.IndexAny(s, set); i >= 0 {
		return s[i:]
	}
	return ""
}

// closes tells whether a tag, of which s is what stands behind its name, has its >.
func closes(s string) bool {
	for {
		s = over(s, blanks+"/")
		if s == "" || s[0] == '>' {
			return s != ""
		}
		s = till(s[1:], blanks+"/>=")
		v := over(s, blanks)
		if v == "" || v[0] != '=' {
			continue
		}
		v = over(v[1:], blanks)
		if v == "" || v[0] != '"' && v[0] != '\'' {
			s = till(v, blanks+">")
			continue
		}
		s = till(v[1:], v[:1])
		if s == "" {
			return false
		}
		s = s[1:]
	}
}

func TestEndsOfAllShortTexts(t *testing.T) {
	t.Parallel()
	for _, x := range []struct {
		ahead, set, last string
		n                int
	}{
		{"", "</iI> x", "i", 6}, {"", "</i>\n", "i", 7}, {"", "</iJ>", "ij", 7}, {"", "</i>", "ii", 8}, {"</i", "/> \"b=", "i", 6}, {"</i b=", "\"'> i/&", "i", 5}, {"</i b='", "'></i \r", "i", 5}, {"</", "ab>/ ", "ab", 6}, {"", "</i>", "", 5},
	} {
		each(x.set, x.n, func(s string) { checkEye(t, x.ahead+s, x.last) })
	}
}

// each calls f with all texts of up to n bytes of set.
func each(set string, n int, f func(string)) {
	var grow func(s string, n int)
	grow = func(s string, n int) {
		f(s)
		if n == 0 {
			return
		}
		for i := range len(set) {
			grow(s+set[i:i+1], n-1)
		}
	}
	grow("", n)
}

// checkEye holds Ends against byEye, and against the first end tag that Tokens tells.
func checkEye(t *testing.T, s, last string) {
	t.Helper()
	want := byEye(s, last)
	at, ok := Ends(s, last)
	if ok != (want >= 0) || ok && at != want || !ok && at != 0 {
		t.Fatalf("Ends(%q, %q): %d %v, want %d", s, last, at, ok, want)
	}
	first := -1
	l, _ := Tokens(s, api.TextRaw, last)
	for _, x := range l {
		if x.Kind == api.TokEnd {
			first = x.Span.From
			break
		}
	}
	if first != want {
		t.Fatalf("Tokens(%q, TextRaw, %q): the first end tag at %d, want %d", s, last, first, want)
	}
}

func TestEndsOfMadeTexts(t *testing.T) {
	t.Parallel()
	pieces := []string{"<", "</", "</i", "</I", "i", "ii", ">", " ", "/", "/>", "\r\n", "b", "=", "'", "\"", "b='>'", "&", "&lt;", "é", "€", "😀", "\x00", "\xFF", "\xE2", "</b>", "<i>", "<!--", "-->"}
	lasts := []string{"i", "ii", "b", ""}
	made(pieces, 40000, 16, func(i int, s string) { checkEye(t, s, lasts[i%len(lasts)]) })
}

// Long texts and names are read in a time that goes with their length.
func TestLongTexts(t *testing.T) {
	t.Parallel()
	const n = 200000
	long := strings.Repeat("a", n)
	checkEnds(t, []found{
		{long + "</i>", "i", n}, {strings.Repeat("</", n) + "</i>", "i", 2 * n}, {strings.Repeat("<", n) + "/i>", "i", n - 1}, {strings.Repeat("</i", n) + ">", "i", 3*n - 3}, {strings.Repeat("</b>", n), "i", -1},
		{"</" + long + ">", "a", -1}, {"</" + long + ">", long, 0}, {"</a" + long + ">", long, -1}, {"</" + long[1:] + "></" + strings.ToUpper(long) + "\n>", long, n + 2}, {"</i>" + long, "i", 0}, {"</i " + strings.Repeat("/", n) + ">", "i", 0},
	})
	lay().skip("<!--"+long).checkLong(t, api.TextData, 2, 1)
	lay().skip(long).checkLong(t, api.TextRc, n+1, 0)
	lay().skip(strings.Repeat("\x00", n)).checkLong(t, api.TextPlain, n+1, n)
	lay().skip("<a"+strings.Repeat("/", n)+">").checkLong(t, api.TextData, 2, n-1)
	lay().skip(strings.Repeat("<\x00", n/2)).checkLong(t, api.TextData, n+1, n)
	lay().skip(strings.Repeat("</i b>", n/4)).checkLong(t, api.TextRaw, n/4+1, n/4)
}

func (r *row) checkLong(t *testing.T, text, count, faults int) {
	t.Helper()
	got, f := Tokens(r.s, text, "i")
	if len(got) != count || len(f) != faults {
		t.Errorf("%d tokens and %d faults, want %d and %d", len(got), len(f), count, faults)
	}
	if at := got[len(got)-1]; at.Kind != api.TokEof || at.Span != (api.Span{From: len(r.s), To: len(r.s)}) {
		t.Errorf("the last is %+v", at)
	}
}

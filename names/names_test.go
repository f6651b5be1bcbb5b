package names

import (
	"cmp"
	"math"
	"slices"
	"strings"
	"testing"

	"taffrail/api"
)

func ref(name string, r int) api.Ref { return api.Ref{Name: name, R: r} }

// kept gives what New keeps of l, in the order of All, without a trie.
func kept(l []api.Ref) []api.Ref {
	var k []api.Ref
	for _, x := range l {
		like := func(y api.Ref) bool { return y.Name == x.Name }
		if len(x.Name) >= 1 && len(x.Name) <= 8 && !slices.ContainsFunc(k, like) {
			k = append(k, x)
		}
	}
	slices.SortFunc(k, func(x, y api.Ref) int { return cmp.Compare(x.Name, y.Name) })
	return k
}

// longestOf and goesOf ask each name of a list that New keeps all of.
func longestOf(k []api.Ref, s string) (int, int) {
	best := api.Ref{}
	for _, x := range k {
		if strings.HasPrefix(s, x.Name) && len(x.Name) > len(best.Name) {
			best = x
		}
	}
	return best.R, len(best.Name)
}

func goesOf(k []api.Ref, s string) bool {
	return slices.ContainsFunc(k, func(x api.Ref) bool { return strings.HasPrefix(x.Name, s) })
}

// lists are those that the tests below go through, whole.
func lists() map[string][]api.Ref {
	eight := "12345678"
	return map[string][]api.Ref{
		"no list":            nil,
		"an empty list":      {},
		"one":                {ref("a", 1)},
		"like, one behind":   {ref("ab", 1), ref("ab", 2)},
		"like, apart":        {ref("ab", 1), ref("a", 3), ref("b", 4), ref("ab", 2)},
		"like, three":        {ref("b", 3), ref("b", 2), ref("a", 9), ref("b", 1)},
		"like, wholly":       {ref("a", 1), ref("a", 1)},
		"like, the first 0":  {ref("a", 0), ref("a", 1), ref("ab", 0), ref("ab", 2)},
		"the empty name":     {ref("", 7)},
		"empty ahead":        {ref("", 7), ref("a", 1)},
		"empty behind":       {ref("a", 1), ref("", 7), ref("", 8)},
		"1 byte":             {ref("1", 5)},
		"7 bytes":            {ref(eight[:7], 5)},
		"8 bytes":            {ref(eight, 5)},
		"9 bytes":            {ref(eight+"9", 5)},
		"6 to 10 bytes":      {ref(eight+"90", 1), ref(eight+"9", 2), ref(eight, 3), ref(eight[:7], 4), ref(eight[:6], 5)},
		"9 bytes ahead of 8": {ref(eight+"9", 1), ref(eight, 2)},
		"9 bytes alike":      {ref("a", 2), ref(eight+"a", 1), ref(eight+"a", 3)},
		"long":               {ref(strings.Repeat("a", 1000), 1), ref("aa", 2)},
		"8 bytes, 4 letters": {ref("ääää", 5), ref("ääääa", 6)},
		"odd bytes":          {ref("\x00", 1), ref("\x80", 2), ref("\xFF", 3), ref("\x00\x00", 4), ref("\xFF\x00", 5), ref("\x00\xFF", 6), ref("a\x80", 7), ref("a\x7F", 8), ref("a\xFF\xFF", 9)},
		"cases":              {ref("gt", 1), ref("GT", 2), ref("Gt", 3), ref("gT;", 4), ref("g", 5)},
		"one case":           {ref("Amp;", 1)},
		"a beginning ahead":  {ref("a", 1), ref("ab", 2), ref("abcd", 4)},
		"a beginning behind": {ref("abcd", 4), ref("ab", 2), ref("a", 1)},
		"a gap":              {ref("a", 1), ref("abcdef", 6), ref("abd", 3)},
		"one character":      {ref("b", 5), ref("a", 5), ref("ab", 5), ref("ba;", 5)},
		"characters":         {ref("zero", 0), ref("z", -1), ref("least", math.MinInt), ref("le", math.MaxInt), ref("far;", 0x110000), ref("farther", -2)},
		"all 0":              {ref("a", 0), ref("ab", 0), ref("c", 0)},
		"falling":            {ref("d", 1), ref("cc", 2), ref("c", 3), ref("b", 4), ref("aa", 5), ref("a", 6)},
		"api's":              api.Refs(),
	}
}

// texts gives every beginning of every name of l, each with each byte more, and longer ones.
func texts(l []api.Ref) []string {
	all := []string{"", "x", ";", "\x00", "\xFF", strings.Repeat("a", 100), strings.Repeat("\x00", 9), "12345678", "123456789", "1234567890"}
	for _, x := range l {
		for i := range len(x.Name) + 1 {
			all = append(all, x.Name[:i])
		}
		for b := range 256 {
			all = append(all, x.Name+string([]byte{byte(b)}))
		}
		all = append(all, x.Name+x.Name, x.Name+strings.Repeat(";", 20), strings.ToUpper(x.Name), strings.ToLower(x.Name), x.Name[len(x.Name)/2:], "&"+x.Name)
	}
	return all
}

// checkAsks holds the answers of t against the list k, which New keeps all of.
func checkAsks(t *testing.T, what string, x *Trie, k []api.Ref, texts []string) {
	t.Helper()
	for _, s := range texts {
		r, n := x.Longest(s)
		if wr, wn := longestOf(k, s); r != wr || n != wn {
			t.Fatalf("%s: Longest(%q) is %d, %d, want %d, %d", what, s, r, n, wr, wn)
		}
		if g := x.Goes(s); g != goesOf(k, s) {
			t.Fatalf("%s: Goes(%q) is %v", what, s, g)
		}
	}
}

func checkAll(t *testing.T, what string, x *Trie, k []api.Ref) {
	t.Helper()
	if x.Count() != len(k) {
		t.Fatalf("%s: Count is %d, want %d", what, x.Count(), len(k))
	}
	if l := x.All(); !slices.Equal(l, k) {
		t.Fatalf("%s: All is %#v, want %#v", what, l, k)
	}
}

func TestExamples(t *testing.T) {
	x := New(api.Refs())
	for _, e := range []struct {
		s    string
		r, n int
	}{
		{"notit", 172, 3}, {"notin;x", 8713, 6}, // the chapter's
		{"amp;", 38, 4}, {"amp", 38, 3}, {"ampx", 38, 3}, {"am", 0, 0}, {"AMP;", 38, 4}, {"Amp;", 0, 0},
		{"notin", 172, 3}, {"noti", 172, 3}, {"not;in;", 172, 4}, {"nothing", 172, 3}, {"no", 0, 0},
		{"pi", 0, 0}, {"pi;", 960, 3}, {"piv", 0, 0}, {"piv;", 982, 4}, {"pix;", 0, 0},
		{"eacute;;", 233, 7}, {"eacute", 233, 6}, {"", 0, 0}, {"&amp;", 0, 0}, {" amp;", 0, 0},
	} {
		if r, n := x.Longest(e.s); r != e.r || n != e.n {
			t.Errorf("Longest(%q) is %d, %d, want %d, %d", e.s, r, n, e.r, e.n)
		}
	}
	for _, s := range []string{"", "noti", "not", "notin;", "n", "zwj;", "am", "amp", "AMP"} {
		if !x.Goes(s) {
			t.Errorf("Goes(%q) is false", s)
		}
	}
	for _, s := range []string{"notx", "notin;x", "notin;;", "N", "Amp", "amp; ", "\x00", "\xFF"} {
		if x.Goes(s) {
			t.Errorf("Goes(%q) is true", s)
		}
	}
	if x.Count() != len(api.Refs()) {
		t.Errorf("Count is %d", x.Count())
	}
}

func TestLists(t *testing.T) {
	for what, l := range lists() {
		x, k := New(l), kept(l)
		checkAll(t, what, x, k)
		checkAsks(t, what, x, k, texts(l))
	}
}

// What New keeps is said here by hand, not by kept.
func TestWhatCounts(t *testing.T) {
	for _, e := range []struct{ l, want []api.Ref }{
		{nil, nil},
		{[]api.Ref{ref("", 1)}, nil},
		{[]api.Ref{ref("123456789", 1)}, nil},
		{[]api.Ref{ref("12345678", 1), ref("1234567", 2)}, []api.Ref{ref("1234567", 2), ref("12345678", 1)}},
		{[]api.Ref{ref("b", 1), ref("a", 2), ref("b", 3), ref("", 4), ref("123456789", 5)}, []api.Ref{ref("a", 2), ref("b", 1)}},
		{[]api.Ref{ref("a", 0), ref("a", 5)}, []api.Ref{ref("a", 0)}},
		{[]api.Ref{ref("a", math.MinInt), ref("A", math.MaxInt)}, []api.Ref{ref("A", math.MaxInt), ref("a", math.MinInt)}},
		{[]api.Ref{ref("\xFF", 1), ref("\x80", 2), ref("a", 3), ref("\x00", 4), ref("a;", 5), ref("aa", 6)}, []api.Ref{ref("\x00", 4), ref("a", 3), ref("a;", 5), ref("aa", 6), ref("\x80", 2), ref("\xFF", 1)}},
	} {
		checkAll(t, "by hand", New(e.l), e.want)
	}
}

// A text may begin with a name and go through beginnings of longer ones.
func TestLongestIsNotTheLastGoneThrough(t *testing.T) {
	x := New([]api.Ref{ref("a", 1), ref("abc", 3), ref("abcdefgh", 8), ref("b", 0), ref("bcd", 4), ref("cd", -5)})
	for _, e := range []struct {
		s    string
		r, n int
	}{
		{"a", 1, 1}, {"ab", 1, 1}, {"abx", 1, 1}, {"abc", 3, 3}, {"abcd", 3, 3}, {"abcdefg", 3, 3}, {"abcdefgx", 3, 3}, {"abcdefgH", 3, 3},
		{"abcdefgh", 8, 8}, {"abcdefghi", 8, 8}, {"b", 0, 1}, {"bc", 0, 1}, {"bcx", 0, 1}, {"bcd", 4, 3}, {"c", 0, 0}, {"cx", 0, 0}, {"cdcd", -5, 2}, {"d", 0, 0},
	} {
		if r, n := x.Longest(e.s); r != e.r || n != e.n {
			t.Errorf("Longest(%q) is %d, %d, want %d, %d", e.s, r, n, e.r, e.n)
		}
	}
}

func TestEmpty(t *testing.T) {
	for what, x := range map[string]*Trie{
		"nil": nil, "none": New(nil), "empty": New([]api.Ref{}), "all left out": New([]api.Ref{ref("", 1), ref("123456789", 2), ref("", 3)}),
	} {
		checkAll(t, what, x, nil)
		checkAsks(t, what, x, nil, []string{"", "a", "1", "123456789", "\x00", strings.Repeat("1", 1000)})
	}
	if New(nil) == nil || New([]api.Ref{}) == nil {
		t.Error("New of nothing is nil")
	}
}

// everyText gives all texts of at most n bytes of a few.
func everyText(bytes string, n int) []string {
	all, last := []string{""}, []string{""}
	for range n {
		var next []string
		for _, s := range last {
			for i := range len(bytes) {
				next = append(next, s+bytes[i:i+1])
			}
		}
		all, last = append(all, next...), next
	}
	return all
}

// Every list of at most three names of at most two bytes of two, asked by every text of at most three.
func TestEveryShortList(t *testing.T) {
	names, asked := everyText("\x00a", 2), everyText("\x00a", 3)
	for _, a := range names {
		for _, b := range names {
			for _, c := range names {
				l := []api.Ref{ref(a, 1), ref(b, 0), ref(c, -1)}
				for i := range len(l) + 1 {
					checkAll(t, "short", New(l[:i]), kept(l[:i]))
					checkAsks(t, "short", New(l[:i]), kept(l[:i]), asked)
				}
			}
		}
	}
}

// The order of a list's names, if none are alike, changes no answer.
func TestOrder(t *testing.T) {
	l := api.Refs()
	want := kept(l)
	for step := range len(l) {
		turned := slices.Concat(l[step:], l[:step])
		checkAll(t, "turned", New(turned), want)
		slices.Reverse(turned)
		checkAll(t, "reversed", New(turned), want)
	}
}

// Names of every length by every byte at every place.
func TestEveryByteAtEveryPlace(t *testing.T) {
	for at := range api.MaxRef {
		var l []api.Ref
		for b := range 256 {
			name := []byte(strings.Repeat("m", at))
			l = append(l, ref(string(append(name, byte(255-b))), b))
		}
		x, k := New(l), kept(l)
		checkAll(t, "every byte", x, k)
		checkAsks(t, "every byte", x, k, []string{"", "m", "mmmm", "mmmmmmmm", "mmmmmmmmm", "mmmn", "\x00", "m\xFF"})
		for _, y := range l {
			if r, n := x.Longest(y.Name + "z"); r != y.R || n != at+1 {
				t.Fatalf("Longest(%qz) is %d, %d, want %d, %d", y.Name, r, n, y.R, at+1)
			}
		}
	}
}

func TestTrieOfAll(t *testing.T) {
	for what, l := range lists() {
		x := New(l)
		y := New(x.All())
		checkAll(t, what+", again", y, x.All())
		checkAsks(t, what+", again", y, kept(l), texts(l))
	}
}

// The list that is handed in is not changed and not kept, nor is what lies behind its end.
func TestListIsNotKept(t *testing.T) {
	whole := []api.Ref{ref("b", 1), ref("a", 2), ref("b", 3), ref("", 4), ref("123456789", 5), ref("c", 6), ref("d", 7)}
	given := slices.Clone(whole)
	x := New(given[:5])
	x.All()
	x.Longest("b")
	if !slices.Equal(given, whole) {
		t.Fatalf("New changed its list to %v", given)
	}
	for i := range given {
		given[i] = ref("z", 99)
	}
	k := []api.Ref{ref("a", 2), ref("b", 1)}
	checkAll(t, "spoilt", x, k)
	checkAsks(t, "spoilt", x, k, texts(whole))
	if x.Goes("z") {
		t.Error("z goes")
	}
}

// What All gave is new memory, up to its capacity.
func TestAnswersShareNothing(t *testing.T) {
	want := kept(api.Refs())
	x := New(api.Refs())
	a, b := x.All(), x.All()
	for i := range a {
		a[i] = ref("z", 99)
	}
	for i := range a[:cap(a)] {
		a[:cap(a)][i] = ref("y", 98)
	}
	_ = append(a, ref("x", 97))
	if !slices.Equal(b, want) {
		t.Fatalf("another answer is %v now", b)
	}
	checkAll(t, "spoilt", x, want)
	checkAsks(t, "spoilt", x, want, []string{"z", "y", "x", "amp;", ""})
	given := x.All()
	y := New(given)
	clear(y.All())
	if !slices.Equal(given, want) {
		t.Fatalf("what was handed in is %v now", given)
	}
}

// Two tries of one list, and of others, don't know of each other.
func TestTriesStandApart(t *testing.T) {
	x := New([]api.Ref{ref("ab", 1)})
	y := New([]api.Ref{ref("ac", 2), ref("a", 3)})
	checkAll(t, "x", x, []api.Ref{ref("ab", 1)})
	checkAll(t, "y", y, []api.Ref{ref("a", 3), ref("ac", 2)})
	if x.Goes("ac") || y.Goes("ab") {
		t.Error("a name of one goes in the other")
	}
}

// Nothing hangs on a map's order, nor on what was asked ahead.
func TestManyTimes(t *testing.T) {
	l := api.Refs()
	want, asked := kept(l), texts(l[:20])
	x := New(l)
	for range 50 {
		checkAll(t, "again", x, want)
		checkAll(t, "anew", New(l), want)
	}
	for range 5 {
		checkAsks(t, "again", x, want, asked)
	}
}

// Many names of one trie, and a text that is much longer than any.
func TestGreatList(t *testing.T) {
	var l []api.Ref
	for i := range 1 << 16 {
		name := strings.Repeat("n", i%5) + string([]byte{byte(i), byte(i >> 8), ';'})
		l = append(l, ref(name, i))
	}
	x := New(l)
	k := x.All()
	if len(k) != 1<<16 || x.Count() != len(k) {
		t.Fatalf("Count is %d, All has %d", x.Count(), len(k))
	}
	for i := range len(k) - 1 {
		if k[i].Name >= k[i+1].Name {
			t.Fatalf("%q stands ahead of %q", k[i].Name, k[i+1].Name)
		}
	}
	tail := strings.Repeat("n", 1<<20)
	for _, y := range l {
		if r, n := x.Longest(y.Name + tail[:10]); r != y.R || n != len(y.Name) {
			t.Fatalf("Longest(%q) is %d, %d", y.Name, r, n)
		}
	}
	if r, n := x.Longest(tail); r != 0 || n != 0 || x.Goes(tail) {
		t.Errorf("the long text: %d, %d, %v", r, n, x.Goes(tail))
	}
}

func BenchmarkLongest(b *testing.B) {
	x := New(api.Refs())
	for b.Loop() {
		x.Longest("notin;x")
	}
}

func BenchmarkNew(b *testing.B) {
	l := api.Refs()
	for b.Loop() {
		New(l)
	}
}

package rawtext

import (
	"slices"
	"strings"
	"testing"

	"taffrail/api"
	"taffrail/instream"
	"taffrail/tokenizer"
	"taffrail/tokens"
	"taffrail/vocab"
)

// Of one byte the characters' fault comes first, though the machine's is made by the same character.
func TestFaultsOfOneByte(t *testing.T) {
	lay().chars("<").char("\x00", 0xFFFD).fault(api.FaultNull, 1).fault(api.FaultTagOpen, 1).checkData(t)
	lay().comment("</\xFF>", "\uFFFD").fault(api.FaultUtf8, 2).fault(api.FaultBogus, 2).checkData(t)
	lay().comment("<!\x7F>", "\x7F").fault(api.FaultControl, 2).fault(api.FaultBogus, 2).checkData(t)
	lay().ref("&lt", '<').char("\x01", 1).fault(api.FaultControl, 3).fault(api.FaultRefSemi, 3).checkData(t)
	lay().start("<a b=''\uFFFF>", "a", attr("b", ""), attr("\uFFFF", "")).fault(api.FaultNonchar, 7).fault(api.FaultBetween, 7).checkTokens(t, api.TextData, "i")
	lay().start("<a \x00/\x00>", "a", attr("\uFFFD", "")).fault(api.FaultNull, 3).fault(api.FaultNull, 5).fault(api.FaultSlash, 5).fault(api.FaultDouble, 5).checkTokens(t, api.TextData, "")
	// Of the machine's, the one that came first, whatever its number.
	lay().start("<a b/b>", "a", attr("b", "")).fault(api.FaultSlash, 5).fault(api.FaultDouble, 5).checkData(t)
	lay().start("<a/=b>", "a", attr("=b", "")).fault(api.FaultSlash, 3).fault(api.FaultAttrChar, 3).checkData(t)
	lay().skip("<a b=&lt").fault(api.FaultRefSemi, 8).fault(api.FaultTagEof, 8).checkData(t)
}

// A fault that the machine tells late stands where its byte is.
func TestFaultsByTheirBytes(t *testing.T) {
	lay().chars("x").end("</a b b>", "a").fault(api.FaultEndAttr, 1).fault(api.FaultDouble, 7).checkData(t)
	lay().end("</a \x00 \x00>", "a").fault(api.FaultEndAttr, 0).fault(api.FaultNull, 4).fault(api.FaultNull, 6).fault(api.FaultDouble, 6).checkData(t)
	lay().start("<a b\" b\">", "a", attr("b\"", "")).fault(api.FaultAttrChar, 4).fault(api.FaultDouble, 6).fault(api.FaultAttrChar, 7).checkData(t)
	lay().chars("\t").skip("</i/\xFF=\"/>").fault(api.FaultUtf8, 5).fault(api.FaultSlash, 5).fault(api.FaultTagEof, 10).checkTokens(t, api.TextRaw, "i")
	lay().ref("&#0", 0xFFFD).char("\x00", 0xFFFD).fault(api.FaultRefNum, 0).fault(api.FaultNull, 3).fault(api.FaultRefSemi, 3).checkTokens(t, api.TextRc, "i")
	lay().chars("&am;").char("\x00", 0xFFFD).fault(api.FaultRefName, 0).fault(api.FaultNull, 4).checkTokens(t, api.TextRc, "i")
	lay().chars("a").end("</i b='\x00' b>", "i").chars("<").fault(api.FaultEndAttr, 1).fault(api.FaultNull, 8).fault(api.FaultDouble, 11).fault(api.FaultTagOpen, 14).checkTokens(t, api.TextRaw, "i")
	_, faults := Data("\x00<a")
	if want := []api.Fault{{Code: api.FaultNull, At: 0}, {Code: api.FaultTagEof, At: 3}}; !slices.Equal(faults, want) {
		t.Errorf("got %v, want %v", faults, want)
	}
}

// together makes of Chars and a machine, each asked whole, what Tokens and Data are to answer.
func together(s string, text int, last string, turns bool) ([]api.Token, []api.Fault) {
	m := tokenizer.New()
	if strings.Trim(last, "abcdefghijklmnopqrstuvwxyz") == "" && last != "" {
		at := -len(last) - 2
		for _, c := range "<" + last + ">" {
			m.Feed(api.Char{R: int(c), From: at, To: at + 1})
			at++
		}
	}
	m.Set(text)
	chars, odd := instream.Chars(s)
	var out []api.Token
	for _, c := range chars {
		out = append(out, m.Feed(c)...)
		if n := len(out); turns && n > 0 && out[n-1].Kind == api.TokStart && out[n-1].Span.To == c.To {
			m.Set(vocab.TextOf(out[n-1].Name))
		}
	}
	out = append(out, m.End(len(s))...)
	return out, merged(odd, m.Faults(), len(s))
}

// merged goes from byte to byte, and takes the faults of each out of both lists.
func merged(odd, wrong []api.Fault, n int) []api.Fault {
	places := make([][]api.Fault, n+1)
	for _, f := range append(slices.Clone(odd), wrong...) {
		places[f.At] = append(places[f.At], f)
	}
	return slices.Concat(places...)
}

func checkTogether(t *testing.T, s string, text int, last string) {
	t.Helper()
	want, wantFaults := together(s, text, last, false)
	got, faults := Tokens(s, text, last)
	if !tokens.List(got, want) || !slices.Equal(faults, wantFaults) {
		t.Fatalf("Tokens(%q, %d, %q):\n got %+v %v\nwant %+v %v", s, text, last, got, faults, want, wantFaults)
	}
	want, wantFaults = together(s, api.TextData, "", true)
	got, faults = Data(s)
	if !tokens.List(got, want) || !slices.Equal(faults, wantFaults) {
		t.Fatalf("Data(%q):\n got %+v %v\nwant %+v %v", s, got, faults, want, wantFaults)
	}
}

// So many faults of the same bytes that a sort which does not keep their order shows.
func TestManyFaults(t *testing.T) {
	for _, piece := range []string{"<a/=b>", "<a b/b>", "<\x00", "</\xFF>", "<a \x00/\x00 /\x00/\x00>", "</a b/b b/=>", "&lt\x01&#0\x00", "<a b=''\x01/\x01=\"\x00\"\x00>", "</script/b=\x00 b>"} {
		for _, n := range []int{1, 5, 13, 40, 300} {
			s := strings.Repeat(piece, n)
			for text := api.TextData; text <= api.TextPlain; text++ {
				checkTogether(t, s, text, "script")
			}
			checkTogether(t, s+"<a b=&lt", api.TextData, "")
			checkTogether(t, "<script>"+s, api.TextData, "")
		}
	}
}

// made gives texts of pieces by a row of numbers that is always the same.
func made(pieces []string, count, size int, f func(i int, s string)) {
	seed := uint64(7)
	draw := func(n int) int {
		seed = seed*6364136223846793005 + 1442695040888963407
		return int(seed>>33) % n
	}
	for i := range count {
		var b strings.Builder
		for range 1 + draw(size) {
			b.WriteString(pieces[draw(len(pieces))])
		}
		f(i, b.String())
	}
}

func TestMadeTexts(t *testing.T) {
	t.Parallel()
	pieces := []string{
		"<", ">", "/", "</", "/>", "<a", "</a>", "<i ", "</i", "</I>", "</i >", "<title>", "</title>", "</TITLE ", "<script>", "</script>", "<ScRiPt ", "<textarea/>", "</textarea>", "<style>", "</style/>", "<plaintext>", "<xmp>", "</xmp>",
		" ", "\n", "\r", "\r\n", "=", "\"", "'", "`", "a", "B", "b=1", "c='", "&", "&lt", "&lt;", "&noti", "n;", "&#", "&#x80", ";", "&am;", "é", "€", "😀", "\x00", "\x01", "\x7F", "\xFF", "\xE2", "\x82", "\uFFFE",
		"<!", "<!--", "--", "-->", "--!>", "<!doctype", "<!DOCTYPE html>", "<![CDATA[", "]]>", "<?",
	}
	lasts := []string{"i", "", "title", "I", "script", "a"}
	made(pieces, 20000, 24, func(i int, s string) {
		checkTogether(t, s, i%5, lasts[i%len(lasts)])
	})
}

// Texts of the tables of names, cut off at each byte.
func TestBeginningsOfTexts(t *testing.T) {
	for _, s := range []string{
		"é<title a='1'>€&amp;<b></titl></TITLE x=😀/>\r\n<script/>\x00&lt;</script\r>\xFF</p b b>", "<!doctype html><style></styl\xE2\x82></style><plaintext></plaintext>&lt;\r",
		"a</b>\xF0\x9F</I\x00></i \x01=\x01/\x01 i></i>&#x80", "\uFFFF</i/></i b='>' b></b/b>",
	} {
		for n := range len(s) + 1 {
			for text := api.TextData; text <= api.TextPlain; text++ {
				checkTogether(t, s[:n], text, "i")
			}
		}
	}
}

// What is handed out is new: no list shares memory with another one of the same answer, or of another.
func TestAnswersAreNew(t *testing.T) {
	const s = "\x00<a b=1 c=2><a d=3 e=4 d>&lt\x01</a/><title f=5>&amp;</title>"
	for _, call := range []func() ([]api.Token, []api.Fault){
		func() ([]api.Token, []api.Fault) { return Data(s) },
		func() ([]api.Token, []api.Fault) { return Tokens(s, api.TextData, "i") },
		func() ([]api.Token, []api.Fault) { return Tokens("</i>"+s, api.TextRaw, "i") },
	} {
		kept, keptFaults := call()
		whole, wholeFaults := slices.Clone(kept), slices.Clone(keptFaults)
		for i := range whole {
			whole[i].Attrs = slices.Clone(kept[i].Attrs)
		}
		spoilt, spoiltFaults := call()
		for i := range spoilt {
			l := spoilt[i].Attrs
			spoil(l[:cap(l)], attr("spoilt", "spoilt"))
			for k := i + 1; k < len(spoilt); k++ {
				if !slices.Equal(spoilt[k].Attrs, whole[k].Attrs) {
					t.Fatalf("token %d shares its attributes with token %d", k, i)
				}
			}
		}
		spoil(spoilt[:cap(spoilt)], api.Token{Kind: 99})
		spoil(spoiltFaults[:cap(spoiltFaults)], api.Fault{Code: 99})
		again, againFaults := call()
		for _, x := range [][]api.Token{kept, again} {
			if !tokens.List(x, whole) {
				t.Errorf("got %+v, want %+v", x, whole)
			}
		}
		if !slices.Equal(keptFaults, wholeFaults) || !slices.Equal(againFaults, wholeFaults) {
			t.Errorf("got %v and %v, want %v", keptFaults, againFaults, wholeFaults)
		}
	}
}

func spoil[T any](l []T, x T) {
	for i := range l {
		l[i] = x
	}
}

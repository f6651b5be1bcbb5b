package tokenizer

import (
	"fmt"
	"strings"
	"testing"

	"taffrail/api"
)

func dataRow() []said {
	return []said{
		{inData(), "ab", "'ab@0-2 [eof]@2-2", ""},
		{inData(), "a\r\nb\r\x00", "'a@0-1 '\n@1-3 'b\n@3-5 '\uFFFD@5-6 [eof]@6-6", ""},
		{inData(), "é€😀", "'é€😀@0-9 [eof]@9-9", ""},
		{inData(), "&lt;<b>]]>\"'=/!-", "&<@0-4 <b>@4-7 ']]>\"'=/!-@7-16 [eof]@16-16", ""},
		{inRc("p"), "x&lt;<b>&#65;", "'x@0-1 &<@1-5 '<b>@5-8 &A@8-13 [eof]@13-13", ""},
		{inRaw("p"), "x&lt;<b>&#65;&", "'x&lt;<b>&#65;&@0-14 [eof]@14-14", ""},
		{inPlain("p"), "x&lt;<b></p><!-- --><![CDATA[]]>&", "'x&lt;<b></p><!-- --><![CDATA[]]>&@0-33 [eof]@33-33", ""},
		{inPlain("p"), "<", "'<@0-1 [eof]@1-1", ""},
		{inPlain("p"), "</p", "'</p@0-3 [eof]@3-3", ""},
	}
}

func tagOpenRow() []said {
	return []said{
		{inData(), "<!--x-->", "<!--x-->@0-8 [eof]@8-8", ""},
		{inData(), "</a>", "</a>@0-4 [eof]@4-4", ""},
		{inData(), "<a>", "<a>@0-3 [eof]@3-3", ""},
		{inData(), "<z><A><Z>", "<z>@0-3 <a>@3-6 <z>@6-9 [eof]@9-9", ""},
		{inData(), "x<?>", "'x@0-1 <!--?-->@1-4 [eof]@4-4", "Bogus@2"},
		{inData(), "<?xml a=\"b\"?>y", "<!--?xml a=\"b\"?-->@0-13 'y@13-14 [eof]@14-14", "Bogus@1"},
		{inData(), "<1>", "'<1>@0-3 [eof]@3-3", "TagOpen@1"},
		{inData(), "a< b>", "'a< b>@0-5 [eof]@5-5", "TagOpen@2"},
		{inData(), "<>", "'<>@0-2 [eof]@2-2", "TagOpen@1"},
		{inData(), "<<a>", "'<@0-1 <a>@1-4 [eof]@4-4", "TagOpen@1"},
		{inData(), "<<<", "'<<<@0-3 [eof]@3-3", "TagOpen@1 TagOpen@2 TagOpen@3"},
		{inData(), "<&lt;", "'<@0-1 &<@1-5 [eof]@5-5", "TagOpen@1"},
		{inData(), "<é>", "'<é>@0-4 [eof]@4-4", "TagOpen@1"},
		{inData(), "<\r\n", "'<@0-1 '\n@1-3 [eof]@3-3", "TagOpen@1"},
		{inData(), "<@<[<`<{", "'<@<[<`<{@0-8 [eof]@8-8", "TagOpen@1 TagOpen@3 TagOpen@5 TagOpen@7"},
		{inData(), "<=<\"<-<_", "'<=<\"<-<_@0-8 [eof]@8-8", "TagOpen@1 TagOpen@3 TagOpen@5 TagOpen@7"},
	}
}

func endOpenRow() []said {
	return []said{
		{inData(), "</a></Z>", "</a>@0-4 </z>@4-8 [eof]@8-8", ""},
		{inData(), "a</>b", "'a@0-1 'b@4-5 [eof]@5-5", "EndOpen@3"},
		{inData(), "</ a>", "<!-- a-->@0-5 [eof]@5-5", "Bogus@2"},
		{inData(), "</1>", "<!--1-->@0-4 [eof]@4-4", "Bogus@2"},
		{inData(), "</!--x-->", "<!--!--x---->@0-9 [eof]@9-9", "Bogus@2"},
		{inData(), "</?></</><//>", "<!--?-->@0-4 <!--</-->@4-9 <!--/-->@9-13 [eof]@13-13", "Bogus@2 Bogus@6 Bogus@11"},
		{inData(), "</é>", "<!--é-->@0-5 [eof]@5-5", "Bogus@2"},
		{inData(), "</&lt;>", "<!--&lt;-->@0-7 [eof]@7-7", "Bogus@2"},
		{inData(), "</@></[></`></{>", "<!--@-->@0-4 <!--[-->@4-8 <!--`-->@8-12 <!--{-->@12-16 [eof]@16-16", "Bogus@2 Bogus@6 Bogus@10 Bogus@14"},
	}
}

func tagNameRow() []said {
	return []said{
		{inData(), "<a\t><a\n><a\f><a ><a\r\n><a\r>", "<a>@0-4 <a>@4-8 <a>@8-12 <a>@12-16 <a>@16-21 <a>@21-25 [eof]@25-25", ""},
		{inData(), "</a\t></a\n></a\f></a >", "</a>@0-5 </a>@5-10 </a>@10-15 </a>@15-20 [eof]@20-20", ""},
		{inData(), "<a/>", "<a/>@0-4 [eof]@4-4", ""},
		{inData(), "<A-b:C1_>", "<a-b:c1_>@0-9 [eof]@9-9", ""},
		{inData(), "<a\"b'c<d=e&lt;f`!?>", "<a\"b'c<d=e&lt;f`!?>@0-19 [eof]@19-19", ""},
		{inData(), "<aÉ€😀\u212A\u00A0\v>", "<aÉ€😀\u212A\u00A0\v>@0-18 [eof]@18-18", ""},
		{inData(), "<a\U0010FFFF\U0010FFFE\uFFFF>", "<a\U0010FFFF\U0010FFFE\uFFFF>@0-14 [eof]@14-14", ""},
		{inData(), "<a\x00\xFF>", "<a\uFFFD\uFFFD>@0-5 [eof]@5-5", ""},
		{inData(), "<a@[`{Z>", "<a@[`{z>@0-8 [eof]@8-8", ""},
		{inData(), "</A-b:C1\"<=&lt;É>", "</a-b:c1\"<=&lt;É>@0-18 [eof]@18-18", ""},
	}
}

func attrRows() []said {
	return []said{
		// BeforeName
		{inData(), "<a \t\n\f\r\nb>", "<a b=\"\">@0-10 [eof]@10-10", ""},
		{inData(), "<a >", "<a>@0-4 [eof]@4-4", ""},
		{inData(), "<a />", "<a/>@0-5 [eof]@5-5", ""},
		{inData(), "<a =>", "<a ==\"\">@0-5 [eof]@5-5", "AttrChar@3"},
		{inData(), "<a =b>", "<a =b=\"\">@0-6 [eof]@6-6", "AttrChar@3"},
		{inData(), "<a =b=c>", "<a =b=\"c\">@0-8 [eof]@8-8", "AttrChar@3"},
		{inData(), "<a ==b>", "<a ==\"b\">@0-7 [eof]@7-7", "AttrChar@3"},
		{inData(), "<a ===>", "<a ==\"=\">@0-7 [eof]@7-7", "AttrChar@3 AttrChar@5"},
		{inData(), "<a = b>", "<a ==\"\" b=\"\">@0-7 [eof]@7-7", "AttrChar@3"},
		{inData(), "<a = = ==>", "<a ==\"==\">@0-10 [eof]@10-10", "AttrChar@3 AttrChar@7 AttrChar@8"},
		{inData(), "<a = =b>", "<a ==\"b\">@0-8 [eof]@8-8", "AttrChar@3"},
		{inData(), "<a \">", "<a \"=\"\">@0-5 [eof]@5-5", "AttrChar@3"},
		{inData(), "<a &lt;>", "<a &lt;=\"\">@0-8 [eof]@8-8", ""},
		// Name
		{inData(), "<a b\t><a b\n><a b\f><a b >", "<a b=\"\">@0-6 <a b=\"\">@6-12 <a b=\"\">@12-18 <a b=\"\">@18-24 [eof]@24-24", ""},
		{inData(), "<a b/>", "<a b=\"\"/>@0-6 [eof]@6-6", ""},
		{inData(), "<a b=c>", "<a b=\"c\">@0-7 [eof]@7-7", ""},
		{inData(), "<a b\"c'd<e>", "<a b\"c'd<e=\"\">@0-11 [eof]@11-11", "AttrChar@4 AttrChar@6 AttrChar@8"},
		{inData(), "<a b`c&lt;!-?>", "<a b`c&lt;!-?=\"\">@0-14 [eof]@14-14", ""},
		{inData(), "<a BÉ€😀\u212A@[Z>", "<a bÉ€😀\u212A@[z=\"\">@0-20 [eof]@20-20", ""},
		{inData(), "<a <b>", "<a <b=\"\">@0-6 [eof]@6-6", "AttrChar@3"},
		// AfterName
		{inData(), "<a b  \t\n\f>", "<a b=\"\">@0-10 [eof]@10-10", ""},
		{inData(), "<a b />", "<a b=\"\"/>@0-7 [eof]@7-7", ""},
		{inData(), "<a b =c>", "<a b=\"c\">@0-8 [eof]@8-8", ""},
		{inData(), "<a b c>", "<a b=\"\" c=\"\">@0-7 [eof]@7-7", ""},
		{inData(), "<a b \"c>", "<a b=\"\" \"c=\"\">@0-8 [eof]@8-8", "AttrChar@5"},
		{inData(), "<a b É =c>", "<a b=\"\" É=\"c\">@0-11 [eof]@11-11", ""},
	}
}

func valueRows() []said {
	return []said{
		// BeforeValue
		{inData(), "<a b= \t\n\f\r\nc>", "<a b=\"c\">@0-13 [eof]@13-13", ""},
		{inData(), "<a b = c>", "<a b=\"c\">@0-9 [eof]@9-9", ""},
		{inData(), "<a b=\"c\">", "<a b=\"c\">@0-9 [eof]@9-9", ""},
		{inData(), "<a b= 'c'>", "<a b=\"c\">@0-10 [eof]@10-10", ""},
		{inData(), "<a b=>", "<a b=\"\">@0-6 [eof]@6-6", "Value@5"},
		{inData(), "<a b= >", "<a b=\"\">@0-7 [eof]@7-7", "Value@6"},
		{inData(), "<a b=/>", "<a b=\"/\">@0-7 [eof]@7-7", ""},
		{inData(), "<a b==>", "<a b=\"=\">@0-7 [eof]@7-7", "AttrChar@5"},
		{inData(), "<a b=`>", "<a b=\"`\">@0-7 [eof]@7-7", "AttrChar@5"},
		{inData(), "<a b=&lt;>", "<a b=\"<\">@0-10 [eof]@10-10", ""},
		// Double, Single
		{inData(), "<a b=\"\">", "<a b=\"\">@0-8 [eof]@8-8", ""},
		{inData(), "<a b=''>", "<a b=\"\">@0-8 [eof]@8-8", ""},
		{inData(), "<a b=\"C'd =/>É€😀<`\">", "<a b=\"C'd =/>É€😀<`\">@0-26 [eof]@26-26", ""},
		{inData(), "<a b='C\"d =/>É€😀<`'>", "<a b=\"C\"d =/>É€😀<`\">@0-26 [eof]@26-26", ""},
		{inData(), "<a b=\"&lt;\" c='&gt;'>", "<a b=\"<\" c=\">\">@0-21 [eof]@21-21", ""},
		{inData(), "<a b=\"\r\n\t\x00\">", "<a b=\"\n\t\uFFFD\">@0-12 [eof]@12-12", ""},
		// Bare
		{inData(), "<a b=c\t><a b=c\n><a b=c\f><a b=c >", "<a b=\"c\">@0-8 <a b=\"c\">@8-16 <a b=\"c\">@16-24 <a b=\"c\">@24-32 [eof]@32-32", ""},
		{inData(), "<a b=C/É€😀>", "<a b=\"C/É€😀\">@0-17 [eof]@17-17", ""},
		{inData(), "<a b=c\"d'e<f=g`h>", "<a b=\"c\"d'e<f=g`h\">@0-17 [eof]@17-17", "AttrChar@6 AttrChar@8 AttrChar@10 AttrChar@12 AttrChar@14"},
		{inData(), "<a b=<>", "<a b=\"<\">@0-7 [eof]@7-7", "AttrChar@5"},
		{inData(), "<a b=c =d>", "<a b=\"c\" =d=\"\">@0-10 [eof]@10-10", "AttrChar@7"},
		{inData(), "<a b=c/ d>", "<a b=\"c/\" d=\"\">@0-10 [eof]@10-10", ""},
		// AfterValue
		{inData(), "<a b=''\t><a b=''\n><a b=''\f><a b='' >", "<a b=\"\">@0-9 <a b=\"\">@9-18 <a b=\"\">@18-27 <a b=\"\">@27-36 [eof]@36-36", ""},
		{inData(), "<a b=\"c\"/>", "<a b=\"c\"/>@0-10 [eof]@10-10", ""},
		{inData(), "<a b=\"c\"d='e'f>", "<a b=\"c\" d=\"e\" f=\"\">@0-15 [eof]@15-15", "Between@8 Between@13"},
		{inData(), "<a b=''=c>", "<a b=\"\" =c=\"\">@0-10 [eof]@10-10", "Between@7 AttrChar@7"},
		{inData(), "<a b='''>", "<a b=\"\" '=\"\">@0-9 [eof]@9-9", "Between@7 AttrChar@7"},
		{inData(), "<a b='' =c>", "<a b=\"\" =c=\"\">@0-11 [eof]@11-11", "AttrChar@8"},
		// Slash
		{inData(), "<a/b>", "<a b=\"\">@0-5 [eof]@5-5", "Slash@3"},
		{inData(), "<a/ >", "<a>@0-5 [eof]@5-5", "Slash@3"},
		{inData(), "<a//>", "<a/>@0-5 [eof]@5-5", "Slash@3"},
		{inData(), "<a///b/>", "<a b=\"\"/>@0-8 [eof]@8-8", "Slash@3 Slash@4 Slash@5"},
		{inData(), "<a/=b>", "<a =b=\"\">@0-6 [eof]@6-6", "Slash@3 AttrChar@3"},
		{inData(), "<a b/=c>", "<a b=\"\" =c=\"\">@0-8 [eof]@8-8", "Slash@5 AttrChar@5"},
		{inData(), "<a b /c>", "<a b=\"\" c=\"\">@0-8 [eof]@8-8", "Slash@6"},
		{inData(), "<a b=''/c>", "<a b=\"\" c=\"\">@0-10 [eof]@10-10", "Slash@8"},
		{inData(), "<a/\"/>", "<a \"=\"\"/>@0-6 [eof]@6-6", "Slash@3 AttrChar@3"},
	}
}

// An attribute that comes twice is left out with its value.
func doubles() []said {
	return []said{
		{inData(), "<a href=1 href=2>", "<a href=\"1\">@0-17 [eof]@17-17", "Double@10"},
		{inData(), "<a b=1 B='2' c=3 b>", "<a b=\"1\" c=\"3\">@0-19 [eof]@19-19", "Double@7 Double@17"},
		{inData(), "<a b b=2 c>", "<a b=\"\" c=\"\">@0-11 [eof]@11-11", "Double@5"},
		{inData(), "<a b=1 b = \"&lt;&x&#0\" c=2>", "<a b=\"1\" c=\"2\">@0-27 [eof]@27-27", "Double@7 RefNum@18 RefSemi@21"},
		{inData(), "<a b=1 b=<>", "<a b=\"1\">@0-11 [eof]@11-11", "Double@7 AttrChar@9"},
		{inData(), "<a b=1 b/>", "<a b=\"1\"/>@0-10 [eof]@10-10", "Double@7"},
		{inData(), "<a b=1 b>", "<a b=\"1\">@0-9 [eof]@9-9", "Double@7"},
		{inData(), "<a b=1 b =>", "<a b=\"1\">@0-11 [eof]@11-11", "Double@7 Value@10"},
		{inData(), "<a É=1 É=2 é=3>", "<a É=\"1\" é=\"3\">@0-18 [eof]@18-18", "Double@8"},
		{inData(), "<a =/ ==1>", "<a ==\"\">@0-10 [eof]@10-10", "AttrChar@3 Slash@5 AttrChar@6 Double@6"},
		{inData(), "<a b=1 bb=2 =b=3>", "<a b=\"1\" bb=\"2\" =b=\"3\">@0-17 [eof]@17-17", "AttrChar@12"},
		{inData(), "</a b=1 b=2>", "</a>@0-12 [eof]@12-12", "Double@8 EndAttr@0"},
		{inData(), "<a b=1></a b=2><a b=3>", "<a b=\"1\">@0-7 </a>@7-15 <a b=\"3\">@15-22 [eof]@22-22", "EndAttr@7"},
	}
}

func endTags() []said {
	return []said{
		{inData(), "x</a b>", "'x@0-1 </a>@1-7 [eof]@7-7", "EndAttr@1"},
		{inData(), "</a/>", "</a>@0-5 [eof]@5-5", "EndAttr@0"},
		{inData(), "</a b=c/>", "</a>@0-9 [eof]@9-9", "EndAttr@0"},
		{inData(), "</a b='c'/>", "</a>@0-11 [eof]@11-11", "EndAttr@0"},
		{inData(), "</a/b>", "</a>@0-6 [eof]@6-6", "Slash@4 EndAttr@0"},
		{inData(), "</a/ >", "</a>@0-6 [eof]@6-6", "Slash@4"},
		{inData(), "</a />", "</a>@0-6 [eof]@6-6", "EndAttr@0"},
		{inData(), "</a =>", "</a>@0-6 [eof]@6-6", "AttrChar@4 EndAttr@0"},
		// The last start tag is one that was told, and no end tag changes it.
		{inRc("p"), "</b></p>", "'</b>@0-4 </p>@4-8 [eof]@8-8", ""},
		{inRaw("p"), "</P/></p>", "</p>@0-5 </p>@5-9 [eof]@9-9", "EndAttr@0"},
	}
}

func bogusRow() []said {
	return []said{
		{inData(), "<?a-->b", "<!--?a---->@0-6 'b@6-7 [eof]@7-7", "Bogus@1"},
		{inData(), "<?É€😀&lt;<a\r\n\x00>", "<!--?É€😀&lt;<a\n\uFFFD-->@0-21 [eof]@21-21", "Bogus@1"},
	}
}

func markupRow() []said {
	return []said{
		{inData(), "<!>", "<!---->@0-3 [eof]@3-3", "Bogus@2"},
		{inData(), "<!x>y", "<!--x-->@0-4 'y@4-5 [eof]@5-5", "Bogus@2"},
		{inData(), "<!->", "<!----->@0-4 [eof]@4-4", "Bogus@2"},
		{inData(), "<!-x>", "<!---x-->@0-5 [eof]@5-5", "Bogus@2"},
		{inData(), "<!-d-->", "<!---d---->@0-7 [eof]@7-7", "Bogus@2"},
		{inData(), "<!->-->", "<!----->@0-4 '-->@4-7 [eof]@7-7", "Bogus@2"},
		{inData(), "<! -->", "<!-- ---->@0-6 [eof]@6-6", "Bogus@2"},
		{inData(), "<!d>", "<!--d-->@0-4 [eof]@4-4", "Bogus@2"},
		{inData(), "<!dx>", "<!--dx-->@0-5 [eof]@5-5", "Bogus@2"},
		{inData(), "<!DocTyp>", "<!--DocTyp-->@0-9 [eof]@9-9", "Bogus@2"},
		{inData(), "<!doctyp e>", "<!--doctyp e-->@0-11 [eof]@11-11", "Bogus@2"},
		{inData(), "<!dOctypé>", "<!--dOctypé-->@0-11 [eof]@11-11", "Bogus@2"},
		{inData(), "<!doctypE x>", "<!doctype x>@0-12 [eof]@12-12", ""},
		{inData(), "<!DOCTYPE x>", "<!doctype x>@0-12 [eof]@12-12", ""},
		{inData(), "<!dOcTyPe x>", "<!doctype x>@0-12 [eof]@12-12", ""},
		{inData(), "<![CDATA[x]]>", "<!--[CDATA[x]]-->@0-13 [eof]@13-13", "Cdata@2"},
		{inData(), "<![CDATA[>x]]>", "<!--[CDATA[-->@0-10 'x]]>@10-14 [eof]@14-14", "Cdata@2"},
		{inForeign(), "<![CDATA[x]]>", "'x@9-10 [eof]@13-13", ""},
		{inForeign(), "<![cdata[x]]>", "<!--[cdata[x]]-->@0-13 [eof]@13-13", "Bogus@2"},
		{inForeign(), "<![CDATa[x]]>", "<!--[CDATa[x]]-->@0-13 [eof]@13-13", "Bogus@2"},
		{inData(), "<![Cdata[x]]>", "<!--[Cdata[x]]-->@0-13 [eof]@13-13", "Bogus@2"},
		{inForeign(), "<![CDATA x>", "<!--[CDATA x-->@0-11 [eof]@11-11", "Bogus@2"},
		{inForeign(), "<![CDATA>", "<!--[CDATA-->@0-9 [eof]@9-9", "Bogus@2"},
		{inData(), "<![CDAT>", "<!--[CDAT-->@0-8 [eof]@8-8", "Bogus@2"},
		{inForeign(), "<![CDATA-->", "<!--[CDATA---->@0-11 [eof]@11-11", "Bogus@2"},
		{inForeign(), "<![>", "<!--[-->@0-4 [eof]@4-4", "Bogus@2"},
		{inData(), "<!É😀>", "<!--É😀-->@0-9 [eof]@9-9", "Bogus@2"},
		{inData(), "<!\r\n>", "<!--\n-->@0-5 [eof]@5-5", "Bogus@2"},
	}
}

func commentRows() []said {
	return []said{
		{inData(), "<!---->", "<!---->@0-7 [eof]@7-7", ""},
		{inData(), "<!-->", "<!---->@0-5 [eof]@5-5", "Abrupt@4"},
		{inData(), "<!--->x", "<!---->@0-6 'x@6-7 [eof]@7-7", "Abrupt@5"},
		{inData(), "<!---x-->", "<!---x-->@0-9 [eof]@9-9", ""},
		{inData(), "<!---!>-->", "<!---!>-->@0-10 [eof]@10-10", ""},
		{inData(), "<!--x-->y", "<!--x-->@0-8 'y@8-9 [eof]@9-9", ""},
		{inData(), "<!--É€😀\r\n\x00&lt;<b>-->", "<!--É€😀\n\uFFFD&lt;<b>-->@0-26 [eof]@26-26", ""},
		{inData(), "<!-->-->", "<!---->@0-5 '-->@5-8 [eof]@8-8", "Abrupt@4"},
		{inData(), "<!--x>-->", "<!--x>-->@0-9 [eof]@9-9", ""},
		// ComDash
		{inData(), "<!--x-y-->", "<!--x-y-->@0-10 [eof]@10-10", ""},
		{inData(), "<!--x->-->", "<!--x->-->@0-10 [eof]@10-10", ""},
		{inData(), "<!--x-!-->", "<!--x-!-->@0-10 [eof]@10-10", ""},
		// ComEnd
		{inData(), "<!--x--->", "<!--x--->@0-9 [eof]@9-9", ""},
		{inData(), "<!--x----->", "<!--x----->@0-11 [eof]@11-11", ""},
		{inData(), "<!----->", "<!----->@0-8 [eof]@8-8", ""},
		{inData(), "<!--x--y-->", "<!--x--y-->@0-11 [eof]@11-11", ""},
		{inData(), "<!--x-- >-->", "<!--x-- >-->@0-12 [eof]@12-12", ""},
		{inData(), "<!----x-->", "<!----x-->@0-10 [eof]@10-10", ""},
		{inData(), "<!--x---y-->", "<!--x---y-->@0-12 [eof]@12-12", ""},
		// ComBang
		{inData(), "<!--x--!>y", "<!--x-->@0-9 'y@9-10 [eof]@10-10", "Abrupt@8"},
		{inData(), "<!----!>", "<!---->@0-8 [eof]@8-8", "Abrupt@7"},
		{inData(), "<!--x--!-->", "<!--x--!-->@0-11 [eof]@11-11", ""},
		{inData(), "<!--x--!->-->", "<!--x--!->-->@0-13 [eof]@13-13", ""},
		{inData(), "<!--x--!y-->", "<!--x--!y-->@0-12 [eof]@12-12", ""},
		{inData(), "<!--x--!!>-->", "<!--x--!!>-->@0-13 [eof]@13-13", ""},
		{inData(), "<!--x--!--!>", "<!--x--!-->@0-12 [eof]@12-12", "Abrupt@11"},
		{inData(), "<!--x---!>", "<!--x--->@0-10 [eof]@10-10", "Abrupt@9"},
	}
}

func doctypeRows() []said {
	return []said{
		{inData(), "<!doctype html>", "<!doctype html>@0-15 [eof]@15-15", ""},
		{inData(), "<!doctype>", "<!doctype !>@0-10 [eof]@10-10", "Doctype@9"},
		{inData(), "<!doctype \t\n\f>", "<!doctype !>@0-14 [eof]@14-14", "Doctype@13"},
		{inData(), "<!doctype \t\n\f\r\nx>", "<!doctype x>@0-17 [eof]@17-17", ""},
		{inData(), "<!doctypeX>", "<!doctype x>@0-11 [eof]@11-11", ""},
		{inData(), "<!doctype AbÉ€😀@[<\"&lt;>", "<!doctype abÉ€😀@[<\"&lt;>@0-30 [eof]@30-30", ""},
		{inData(), "<!doctype x\t><!doctype x\n><!doctype x\f><!doctype x >", "<!doctype x>@0-13 <!doctype x>@13-26 <!doctype x>@26-39 <!doctype x>@39-52 [eof]@52-52", ""},
		{inData(), "<!doctype x  \n >y", "<!doctype x>@0-16 'y@16-17 [eof]@17-17", ""},
		{inData(), "<!doctype x y>", "<!doctype x!>@0-14 [eof]@14-14", "Doctype@12"},
		{inData(), "<!doctype x \"<É y&lt;' >z", "<!doctype x!>@0-25 'z@25-26 [eof]@26-26", "Doctype@12"},
		{inData(), "<!doctype x/>", "<!doctype x/>@0-13 [eof]@13-13", ""},
		{inData(), "<!doctype x />", "<!doctype x!>@0-14 [eof]@14-14", "Doctype@12"},
		{inData(), "<!doctype\x00>", "<!doctype \uFFFD>@0-11 [eof]@11-11", ""},
	}
}

func rawRows() []said {
	var l []said
	for _, in := range []func(string) start{inRc, inRaw} {
		l = append(l,
			// RawOpen
			said{in("p"), "<a></p>", "'<a>@0-3 </p>@3-7 [eof]@7-7", ""},
			said{in("p"), "<<</p>", "'<<@0-2 </p>@2-6 [eof]@6-6", ""},
			said{in("p"), "<!-- --></p>", "'<!-- -->@0-8 </p>@8-12 [eof]@12-12", ""},
			said{in("p"), "<?<1< <é", "'<?<1< <é@0-9 [eof]@9-9", ""},
			// RawSlash
			said{in("p"), "</></ p></1</p>", "'</></ p></1@0-11 </p>@11-15 [eof]@15-15", ""},
			said{in("p"), "<//p></</p>", "'<//p></@0-7 </p>@7-11 [eof]@11-11", ""},
			said{in("p"), "</é</@</[</`</{", "'</é</@</[</`</{@0-16 [eof]@16-16", ""},
			// RawName
			said{in("p"), "x</p>&lt;<b>", "'x@0-1 </p>@1-5 &<@5-9 <b>@9-12 [eof]@12-12", ""},
			said{in("p"), "</P>", "</p>@0-4 [eof]@4-4", ""},
			said{in("p"), "</p\t></p>", "</p>@0-5 </p>@5-9 [eof]@9-9", ""},
			said{in("p"), "</p\n>", "</p>@0-5 [eof]@5-5", ""},
			said{in("p"), "</p\f>", "</p>@0-5 [eof]@5-5", ""},
			said{in("p"), "</p b=1 b>x", "</p>@0-10 'x@10-11 [eof]@11-11", "Double@8 EndAttr@0"},
			said{in("p"), "</p/>", "</p>@0-5 [eof]@5-5", "EndAttr@0"},
			said{in("p"), "</p/ >", "</p>@0-6 [eof]@6-6", "Slash@4"},
			said{in("p"), "</pp></pq></p1></p-></q>", "'</pp></pq></p1></p-></q>@0-24 [eof]@24-24", ""},
			said{in("p"), "</p<</p=</pé</p\v</p\"", "'</p<</p=</pé</p\v</p\"@0-21 [eof]@21-21", ""},
			said{in("p"), "</p</p>", "'</p@0-3 </p>@3-7 [eof]@7-7", ""},
			said{in("title"), "</t></titl></titles></ title>x</TiTlE\r\n>", "'</t></titl></titles></ title>x@0-30 </title>@30-40 [eof]@40-40", ""},
			said{in("Title"), "</title/>", "</title>@0-9 [eof]@9-9", "EndAttr@0"},
			// A name that has more than letters is never gathered whole.
			said{in("h1"), "</h1></h>", "'</h1></h>@0-9 [eof]@9-9", ""},
			said{in("a-b"), "</a-b></a>", "'</a-b></a>@0-10 [eof]@10-10", ""},
			said{in(""), "</p></></ >", "'</p></></ >@0-11 [eof]@11-11", ""},
		)
	}
	return append(l,
		said{inRc("p"), "</p&lt;", "'</p@0-3 &<@3-7 [eof]@7-7", ""},
		said{inRc("p"), "<&lt;</&lt;", "'<@0-1 &<@1-5 '</@5-7 &<@7-11 [eof]@11-11", ""},
		said{inRaw("p"), "</p&lt;<&lt;</&lt;", "'</p&lt;<&lt;</&lt;@0-18 [eof]@18-18", ""},
	)
}

func cdataRows() []said {
	return []said{
		{inForeign(), "<![CDATA[]]>", "[eof]@12-12", ""},
		{inForeign(), "<![CDATA[a&lt;<b></b>\"É€😀]]>c<b>", "'a&lt;<b></b>\"É€😀@9-31 'c@34-35 <b>@35-38 [eof]@38-38", ""},
		{inForeign(), "<![CDATA[\r\n\x00]]>", "'\n@9-11 '\uFFFD@11-12 [eof]@15-15", ""},
		{inForeign(), "<![CDATA[]x]]>", "']x@9-11 [eof]@14-14", ""},
		{inForeign(), "<![CDATA[]>]]>", "']>@9-11 [eof]@14-14", ""},
		{inForeign(), "<![CDATA[]]x]]>", "']]x@9-12 [eof]@15-15", ""},
		{inForeign(), "<![CDATA[]]]>", "']@9-10 [eof]@13-13", ""},
		{inForeign(), "<![CDATA[]]]]]>", "']]]@9-12 [eof]@15-15", ""},
		{inForeign(), "<![CDATA[]]]x]]>", "']]]x@9-13 [eof]@16-16", ""},
		{inForeign(), "<![CDATA[a]&lt;]]&lt;]]>&lt;", "'a]&lt;]]&lt;@9-21 &<@24-28 [eof]@28-28", ""},
		{inForeign(), "<![CDATA[>]]>]]>", "'>@9-10 ']]>@13-16 [eof]@16-16", ""},
	}
}

// rows are texts that go through each row of the table of states.
func rows() map[string][]said {
	return map[string][]said{
		"Data": dataRow(), "TagOpen": tagOpenRow(), "EndOpen": endOpenRow(), "TagName": tagNameRow(), "attributes": attrRows(), "values": valueRows(),
		"doubles": doubles(), "end tags": endTags(), "Bogus": bogusRow(), "Markup": markupRow(), "comments": commentRows(), "doctypes": doctypeRows(),
		"raw texts": rawRows(), "Cdata": cdataRows(),
	}
}

func TestRows(t *testing.T) {
	for name, l := range rows() {
		t.Run(name, func(t *testing.T) { checkSaid(t, l) })
	}
}

// A start tag makes itself the last one, also if it has none of the texts behind it; an end tag, or one that is not told, does not.
func TestLastStartTag(t *testing.T) {
	for _, x := range []struct{ s, want string }{
		{"<p>", "</p>@0-4 '</q>@4-8"},
		{"<p/>", "</p>@0-4 '</q>@4-8"},
		{"<q><p b=1>", "</p>@0-4 '</q>@4-8"},
		{"<P>", "</p>@0-4 '</q>@4-8"},
		{"<p></q>", "</p>@0-4 '</q>@4-8"},
		{"<p>x&lt;<!--q--><!doctype q>", "</p>@0-4 '</q>@4-8"},
		{"</p>", "'</p></q>@0-8"},
		{"", "'</p></q>@0-8"},
		{"<p><q>", "'</p>@0-4 </q>@4-8"},
	} {
		m := New()
		feed(m, chars(x.s))
		m.Set(api.TextRaw)
		got := feed(m, chars("</p>"))
		m.Set(api.TextRaw)
		for _, c := range chars("    </q>")[4:] {
			got = append(got, m.Feed(c)...)
		}
		if told(got) != x.want {
			t.Errorf("%s: %s, want %s", x.s, told(got), x.want)
		}
	}
}

// Each tag that is told leaves its text, whatever it was.
func TestTextBehindTags(t *testing.T) {
	for _, s := range []string{"<p>", "<p/>", "<script>", "<title>", "<plaintext>", "</p>", "</p b>"} {
		for text := range 4 {
			m := New()
			l := chars(s)
			feed(m, l[:len(l)-1])
			m.Set(text)
			m.Feed(l[len(l)-1])
			if got := told(feed(m, chars("<b>&lt;"))); got != "<b>@0-3 &<@3-7" {
				t.Errorf("%s, text %d: %s", s, text, got)
			}
		}
	}
}

// Comments and doctypes leave the text as it is.
func TestTextBehindOthers(t *testing.T) {
	for _, s := range []string{"<!--x-->", "<!-->", "<!doctype x>", "<?x>", "</>", "</ >", "<!x>"} {
		m := New()
		l := chars(s)
		feed(m, l[:len(l)-1])
		m.Set(api.TextPlain)
		m.Feed(l[len(l)-1])
		if got := told(feed(m, chars("<b>&lt;"))); got != "'<b>&lt;@0-7" {
			t.Errorf("%s: %s", s, got)
		}
	}
}

// Many attributes are told apart as few are.
func TestManyAttributes(t *testing.T) {
	for _, n := range []int{few - 1, few, few + 1, few + 2, 3 * few, 1000} {
		var s, want strings.Builder
		var faults []api.Fault
		s.WriteString("<a")
		want.WriteString("<a")
		for round := range 2 {
			for i := range n {
				s.WriteByte(' ')
				if round > 0 {
					faults = append(faults, api.Fault{Code: api.FaultDouble, At: s.Len()})
				} else {
					fmt.Fprintf(&want, " x%d=\"%d\"", i, round)
				}
				fmt.Fprintf(&s, "X%d=%d", i, round)
			}
		}
		s.WriteString(">")
		fmt.Fprintf(&want, ">@0-%d [eof]@%d-%d", s.Len(), s.Len(), s.Len())
		got, f := inData().all(s.String())
		if told(got) != want.String() {
			t.Errorf("%d attributes: %s", n, told(got))
		}
		checkFaults(t, fmt.Sprintf("%d attributes", n), f, faults)
	}
}

// What each character of a text makes, one by one: nothing is told late or early.
func TestWhenTokensAreTold(t *testing.T) {
	for _, x := range []struct {
		in   start
		s    string
		want []string
	}{
		{inData(), "a<b>", []string{"'a@0-1", "", "", "<b>@1-4"}},
		{inData(), "< a", []string{"", "'< @0-2", "'a@2-3"}},
		{inData(), "<<b>", []string{"", "'<@0-1", "", "<b>@1-4"}},
		{inData(), "</></ >", []string{"", "", "", "", "", "", "<!-- -->@3-7"}},
		{inData(), "<!>", []string{"", "", "<!---->@0-3"}},
		{inData(), "<!->", []string{"", "", "", "<!----->@0-4"}},
		{inData(), "<!-->a", []string{"", "", "", "", "<!---->@0-5", "'a@5-6"}},
		{inData(), "<a b=c>", []string{"", "", "", "", "", "", "<a b=\"c\">@0-7"}},
		{inData(), "<a b=&>", []string{"", "", "", "", "", "", "<a b=\"&\">@0-7"}},
		{inRaw("p"), "</pq>x", []string{"", "", "", "", "'</pq>@0-5", "'x@5-6"}},
		{inRaw("p"), "<</p>", []string{"", "'<@0-1", "", "", "</p>@1-5"}},
		{inRaw("p"), "</<a", []string{"", "", "'</@0-2", "'<a@2-4"}},
		{inForeign(), "<![CDATA[a]b]]c]]]>", []string{"", "", "", "", "", "", "", "", "", "'a@9-10", "", "']b@10-12", "", "", "']]c@12-15", "", "", "']@15-16", ""}},
	} {
		m := x.in.machine()
		for i, c := range chars(x.s) {
			if got := told(m.Feed(c)); got != x.want[i] {
				t.Errorf("%s, character %d: %s, want %s", x.s, i, got, x.want[i])
			}
		}
	}
}

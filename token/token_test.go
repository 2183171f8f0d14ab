package token

import (
	"math"
	"math/big"
	"reflect"
	"regexp"
	"strconv"
	"strings"
	"testing"
	"unicode/utf8"
	"unsafe"

	"bracken/api"
)

// What a name begins with, and what it goes on with, by 1.1, but the colon and 0xFFFD: a regexp takes bytes that are no UTF-8 for that one.
const (
	starts  = `A-Z_a-z\x{C0}-\x{D6}\x{D8}-\x{F6}\x{F8}-\x{2FF}\x{370}-\x{37D}\x{37F}-\x{1FFF}\x{200C}\x{200D}\x{2070}-\x{218F}\x{2C00}-\x{2FEF}\x{3001}-\x{D7FF}\x{F900}-\x{FDCF}\x{FDF0}-\x{FFFC}\x{10000}-\x{EFFFF}`
	parts   = starts + `\-.0-9\x{B7}\x{300}-\x{36F}\x{203F}\x{2040}`
	ncname  = `[` + starts + `][` + parts + `]*`
	name    = `[:` + starts + `][:` + parts + `]*`
	space   = `[ \t\r\n]+`
	maybe   = `[ \t\r\n]*`
	attr    = `(` + name + `)` + maybe + `=` + maybe + `(?:"([^"<]*)"|'([^'<]*)')`
	charRef = `&#(?:([0-9]+)|x([0-9A-Fa-f]+));`
)

// forms are the tokens of 10.2, but for what a regexp doesn't tell.
var forms = []struct {
	kind int
	form *regexp.Regexp
}{
	{api.TComment, regexp.MustCompile(`^<!--((?:[^-]|-[^-])*)-->`)},
	{api.TCData, regexp.MustCompile(`(?s)^<!\[CDATA\[(.*?)\]\]>`)},
	{api.TPI, regexp.MustCompile(`(?s)^<\?(` + ncname + `)(?:` + space + `(.*?))?\?>`)},
	{api.TEnd, regexp.MustCompile(`^</(` + name + `)` + maybe + `>`)},
	{api.TStart, regexp.MustCompile(`^<(` + name + `)((?:` + space + attr + `)*)` + maybe + `(/?)>`)},
	{api.TChar, regexp.MustCompile(`^` + charRef)},
	{api.TRef, regexp.MustCompile(`^&(` + ncname + `);`)},
	{api.TText, regexp.MustCompile(`^([^<&]+)`)},
}

var (
	oneAttr    = regexp.MustCompile(attr)
	oneCharRef = regexp.MustCompile(`^` + charRef + `$`)
	oneNCName  = regexp.MustCompile(`^` + ncname + `$`)
)

func isChar(n int64) bool {
	return n == 9 || n == 10 || n == 13 || n >= 0x20 && n <= 0xD7FF || n >= 0xE000 && n <= 0xFFFD || n >= 0x10000 && n <= 0x10FFFF
}

// modelCharRef is CharRef by a form and a number of any size.
func modelCharRef(s string) (rune, bool) {
	m := oneCharRef.FindStringSubmatch(s)
	if m == nil {
		return 0, false
	}
	n := new(big.Int)
	if m[1] != "" {
		n.SetString(m[1], 10)
	} else {
		n.SetString(m[2], 16)
	}
	if !n.IsInt64() || !isChar(n.Int64()) {
		return 0, false
	}
	return rune(n.Int64()), true
}

func modelTarget(s string) bool {
	return oneNCName.MatchString(s) && strings.ToLower(s) != "xml"
}

// modelToken is the token that s begins with, by the forms, and its length: 0, if there is none.
func modelToken(s string) (api.Token, int) {
	for _, f := range forms {
		m := f.form.FindStringSubmatch(s)
		if m == nil {
			continue
		}
		t, is := api.Token{Kind: f.kind}, true
		switch f.kind {
		case api.TComment, api.TCData:
			t.Text = m[1]
		case api.TPI:
			t.Name, t.Text, is = m[1], m[2], modelTarget(m[1])
		case api.TEnd, api.TRef:
			t.Name = m[1]
		case api.TStart:
			t.Name, t.Empty = m[1], m[len(m)-1] == "/"
			for _, a := range oneAttr.FindAllStringSubmatch(m[2], -1) {
				t.Attrs = append(t.Attrs, api.Raw{Name: a[1], Value: a[2] + a[3]})
			}
		case api.TChar:
			var c rune
			c, is = modelCharRef(m[0])
			t.Text = string(c)
		case api.TText:
			t.Text, is = m[1], !strings.Contains(m[1], "]]>")
		}
		if is {
			return t, len(m[0])
		}
	}
	return api.Token{}, 0
}

func alike(a, b api.Token) bool {
	if a.Kind != b.Kind || a.Name != b.Name || a.Text != b.Text || a.Empty != b.Empty || len(a.Attrs) != len(b.Attrs) {
		return false
	}
	for k := range a.Attrs {
		if a.Attrs[k] != b.Attrs[k] {
			return false
		}
	}
	return true
}

// next checks Next against the forms.
func next(t *testing.T, s string, at int) {
	t.Helper()
	want, long := modelToken(s[at:])
	code := api.OK
	if at == len(s) {
		code = api.ErrNone
	} else if long == 0 {
		code = api.ErrSyntax
	}
	if got, end, c := Next(s, at); !alike(got, want) || end != at+long || c != code {
		t.Fatalf("Next(%.200q, %d) = %+v, %d, %d, not %+v, %d, %d", s, at, got, end, c, want, at+long, code)
	}
}

// all checks All against the forms.
func all(t *testing.T, s string) {
	t.Helper()
	got, where, code := All(s)
	at, k := 0, 0
	for at < len(s) {
		want, long := modelToken(s[at:])
		if long == 0 {
			break
		}
		if k >= len(got) || !alike(got[k], want) {
			t.Fatalf("All(%.200q): %+v: at %d stands %+v", s, got, k, want)
		}
		k, at = k+1, at+long
	}
	wrong := api.OK
	if at < len(s) {
		wrong = api.ErrSyntax
	}
	if len(got) != k || where != at || code != wrong {
		t.Fatalf("All(%.200q): %d tokens, %d, %d, not %d, %d, %d", s, len(got), where, code, k, at, wrong)
	}
}

// rows calls do with start, and with it and all rows of at most n pieces behind it.
func rows(start string, n int, pieces []string, do func(string)) {
	do(start)
	if n == 0 {
		return
	}
	for _, p := range pieces {
		rows(start+p, n-1, pieces, do)
	}
}

// row is pieces of one byte, and others.
func row(letters string, others ...string) []string {
	return append(strings.Split(letters, ""), others...)
}

// Promise 10.1, CharRef: each number, as digits and as digits of base 16.
func TestCharRefOfEach(t *testing.T) {
	for n := int64(0); n < 0x110200; n++ {
		want, is := rune(0), isChar(n)
		if is {
			want = rune(n)
		}
		hex := strconv.FormatInt(n, 16)
		for _, s := range []string{"&#" + strconv.FormatInt(n, 10) + ";", "&#x" + hex + ";", "&#x" + strings.ToUpper(hex) + ";", "&#x000" + hex + ";"} {
			if c, got := CharRef(s); c != want || got != is {
				t.Fatalf("CharRef(%q) = %#x, %t", s, c, got)
			}
		}
	}
}

// Promise 10.1, CharRef: numbers that would be a Char if they were cut to fewer bits, or had a sign, and very long ones.
func TestCharRefOfMore(t *testing.T) {
	for _, bits := range []uint{16, 20, 21, 24, 31, 32, 33, 53, 63, 64, 65, 128, 4096} {
		for _, add := range []int64{-0x41, 0, 9, 0x41, 0x10FFFF} {
			n := new(big.Int).Lsh(big.NewInt(1), bits)
			n.Add(n, big.NewInt(add))
			for _, s := range []string{"&#" + n.Text(10) + ";", "&#x" + n.Text(16) + ";"} {
				want, is := modelCharRef(s)
				if c, got := CharRef(s); c != want || got != is {
					t.Fatalf("CharRef(%.100q) = %#x, %t, not %#x, %t", s, c, got, want, is)
				}
			}
		}
	}
	noughts := strings.Repeat("0", 1<<20)
	for _, s := range []string{"&#" + noughts + "65;", "&#x" + noughts + "41;"} {
		if c, is := CharRef(s); c != 'A' || !is {
			t.Errorf("of many noughts: %#x, %t", c, is)
		}
	}
	for _, s := range []string{"&#" + noughts + ";", "&#1" + noughts + ";", "&#65" + noughts + ";", "&#x" + strings.Repeat("f", 1<<20) + ";"} {
		if c, is := CharRef(s); c != 0 || is {
			t.Errorf("of many digits: %#x, %t", c, is)
		}
	}
}

// Promise 10.1, CharRef: all short rows of what a reference has, and of what is like it.
func TestCharRefOfAllShort(t *testing.T) {
	check := func(s string) {
		want, is := modelCharRef(s)
		if c, got := CharRef(s); c != want || got != is {
			t.Fatalf("CharRef(%q) = %#x, %t, not %#x, %t", s, c, got, want, is)
		}
	}
	rows("", 5, row("&#xX;09aF "), check)
	rows("&#", 4, row("&#xX;0159afgAFG -+._", "\xff", "é"), check)
	rows("&#x", 4, row("&#xX;0159afgAFG -+._", "\xff", "é"), check)
	// Digits that are none of 0 to 9, and of none of A to F and a to f.
	for _, digit := range []string{"/", ":", "@", "G", "`", "g", "\u0661", "\u0967", "\uFF11", "\uFF21", "\uFF41", "\u00B2", "\U0001D7D8", "\x00", "\xB1", "\uFFFD"} {
		for _, s := range []string{digit, "6" + digit, digit + "5", "x" + digit, "x4" + digit, "x" + digit + "1"} {
			if c, is := CharRef("&#" + s + ";"); c != 0 || is {
				t.Errorf("CharRef of %q = %#x, %t", s, c, is)
			}
		}
	}
}

// Promise 10.1, Target: all short rows of the letters of xml and others.
func TestTarget(t *testing.T) {
	rows("", 5, row("xmlXMLa:1-"), func(s string) {
		if got := Target(s); got != modelTarget(s) {
			t.Fatalf("Target(%q) = %t", s, got)
		}
	})
	for s, want := range map[string]bool{
		"a": true, "_": true, "é": true, "xml-stylesheet": true, "xmls": true, "axml": true, "xm": true, "xml.": true, "xmlns": true,
		"\uFFFD": true, "\uFF58\uFF4D\uFF4C": true, "\u2179ml": true, "xm\u2113": true, // none of these is an x, m or l
		"": false, "xml": false, "XML": false, "xMl": false, "Xml": false, "xmL": false, "a:b": false, ":": false, "xml:a": false,
		"1a": false, "-": false, ".a": false, " a": false, "a ": false, "xml ": false, "a?": false, "a\xff": false, "\xff": false, "\u0300": false,
	} {
		if Target(s) != want {
			t.Errorf("Target(%q) = %t", s, !want)
		}
	}
}

// mixes are rows of pieces behind a start, of all that a token is made of.
func mixes() []struct {
	start  string
	n      int
	pieces []string
} {
	return []struct {
		start  string
		n      int
		pieces []string
	}{
		{"", 5, row("<>!-[]?/&#;a", "CDATA[")},
		{"", 4, row("a ", "<!--", "-->", "<![CDATA[", "]]>", "<?a", "?>", "</a", "<a", " b='", "'", "/>", "&#", "x41;", "&a;")},
		{"", 6, row("]>a&<", "é", "\xff")},
		{"<!-", 4, row("-><a!")},
		{"<!--", 7, row("-><a!")},
		{"<!--", 5, row("-> \n&]?\x00", "é", "\xff")},
		{"<![", 4, row("CDAT[", "CDATA", "CDATA[", "cdata[", "]]>")},
		{"<![CDATA[", 7, row("]>a<&")},
		{"<![CDATA[", 5, row("]>-? \n\x00", "é", "\xff")},
		{"<?", 6, row("?>a: ")},
		{"<?", 5, row("?>xML1<\n")},
		{"<?a", 6, row("?> \tb<")},
		{"<?é ", 5, row("?>-]\x00", "é", "\xff")},
		{"</", 6, row("a:> /")},
		{"</", 5, row("a1-.<&>\t", "é", "\xff")},
		{"<", 6, row("a =\"'/>")},
		{"<", 5, row("a1:-.!?<&>", "é", "\xff")},
		{"<a ", 6, row("b='\"> /")},
		{"<a\n", 5, row("b='<&\t:1", "é", "\xff")},
		{"<a b=", 6, row("'\"c> /")},
		{"<a", 5, row("/> \t", " b='c'", " d=\"\"", "\te = 'x>\"'", "f='")},
		{"&", 6, row("a:#x;1 ")},
		{"&", 5, row("ab-.&<;\n", "é", "\xff")},
		{"&#", 5, row("x;019aF<& ")},
		{"&#x", 5, row("x;0149dfDF")},
	}
}

// Promise 10.2: all short rows, by the forms, alone and behind others; 10.3, likewise.
func TestAllShort(t *testing.T) {
	for _, m := range mixes() {
		rows(m.start, m.n, m.pieces, func(s string) {
			next(t, s, 0)
			all(t, s)
		})
		rows("é<"+m.start, m.n-2, m.pieces, func(s string) {
			next(t, s, len("é<"))
			all(t, s[1:])
		})
	}
}

// Promise 10.2: at each place of what holds all kinds of tokens, within characters, too.
func TestEachPlace(t *testing.T) {
	for _, s := range samples() {
		for at := range len(s) + 1 {
			next(t, s, at)
		}
	}
}

func samples() []string {
	return []string{
		"", "a", "<a/>", "<a>x&lt;</a>", "x<a><", "<a>]]</a>]]>",
		"<p:é\n名='&e;>\"' \r\nx:y = \"'/>\"\t>té😀xt&#x1F600;&#65;&a.b;<!-- - \xE9 --><?t ?x? > ?><![CDATA[ ]]]]><c b='' b=\"\"/></p:é >",
		"<!----><![CDATA[]]><?a?><?b ?></a><a>&x;t", "a\xFF\xC3<é é='\xFF\uFFFD'/>\xFF",
		strings.Repeat("<a b='c'>d&#10;&e;<!--f--></a>", 20) + "&",
	}
}

// Promise 10.2: what each token holds, written out; "with an error the zero Token, at".
func TestNext(t *testing.T) {
	raw := func(l ...string) (a []api.Raw) {
		for k := 0; k < len(l); k += 2 {
			a = append(a, api.Raw{Name: l[k], Value: l[k+1]})
		}
		return a
	}
	for s, want := range map[string]api.Token{
		"<!---->":                           {Kind: api.TComment},
		"<!-- <a> & &x; -\xff- >-->":        {Kind: api.TComment, Text: " <a> & &x; -\xff- >"},
		"<!---a-->":                         {Kind: api.TComment, Text: "-a"},
		"<![CDATA[]]>":                      {Kind: api.TCData},
		"<![CDATA[]]]]>":                    {Kind: api.TCData, Text: "]]"},
		"<![CDATA[ <![CDATA[ & -- ?> > ]]>": {Kind: api.TCData, Text: " <![CDATA[ & -- ?> > "},
		"<?a?>":                             {Kind: api.TPI, Name: "a"},
		"<?a \t\r\n?>":                      {Kind: api.TPI, Name: "a"},
		"<?a \t\r\n b<&--]]> \n?>":          {Kind: api.TPI, Name: "a", Text: "b<&--]]> \n"},
		"<?a ??>":                           {Kind: api.TPI, Name: "a", Text: "?"},
		"<?xml-a xml?>":                     {Kind: api.TPI, Name: "xml-a", Text: "xml"},
		"<?\uFFFD \uFFFD\xff?>":             {Kind: api.TPI, Name: "\uFFFD", Text: "\uFFFD\xff"},
		"</a>":                              {Kind: api.TEnd, Name: "a"},
		"</:a:b:\r\n\t >":                   {Kind: api.TEnd, Name: ":a:b:"},
		"<a>":                               {Kind: api.TStart, Name: "a"},
		"<xml \n>":                          {Kind: api.TStart, Name: "xml"},
		"<é/>":                              {Kind: api.TStart, Name: "é", Empty: true},
		"<::\t/>":                           {Kind: api.TStart, Name: "::", Empty: true},
		"<a b='c'/>":                        {Kind: api.TStart, Name: "a", Attrs: raw("b", "c"), Empty: true},
		"<a b='c'>":                         {Kind: api.TStart, Name: "a", Attrs: raw("b", "c")},
		"<a b=''  b=\"\"\nc:d:e='/>'>":      {Kind: api.TStart, Name: "a", Attrs: raw("b", "", "b", "", "c:d:e", "/>")},
		"<a\tb \r\n=\n\t' \r\n\t&lt;&#9;&\xff\"' >": {Kind: api.TStart, Name: "a", Attrs: raw("b", " \r\n\t&lt;&#9;&\xff\"")},
		"<a b=\"'\" />":    {Kind: api.TStart, Name: "a", Attrs: raw("b", "'"), Empty: true},
		"<\uFFFD>":         {Kind: api.TStart, Name: "\uFFFD"},
		"&#x41;":           {Kind: api.TChar, Text: "A"},
		"&#13;":            {Kind: api.TChar, Text: "\r"},
		"&#60;":            {Kind: api.TChar, Text: "<"},
		"&#x10fffF;":       {Kind: api.TChar, Text: "\U0010FFFF"},
		"&#65533;":         {Kind: api.TChar, Text: "\uFFFD"},
		"&amp;":            {Kind: api.TRef, Name: "amp"},
		"&xml;":            {Kind: api.TRef, Name: "xml"},
		"&é.-1\uFFFD;":     {Kind: api.TRef, Name: "é.-1\uFFFD"},
		" ":                {Kind: api.TText, Text: " "},
		"]] > ]> ;#/a\x00": {Kind: api.TText, Text: "]] > ]> ;#/a\x00"},
		"é\xff\x80\uFFFD":  {Kind: api.TText, Text: "é\xff\x80\uFFFD"},
		"--> ?> />\r\n'\"": {Kind: api.TText, Text: "--> ?> />\r\n'\""},
	} {
		for _, ahead := range []string{"", "x", "<a b='", "]]", "\xff"} {
			for _, behind := range []string{"", "<", "&", "<a>", "&x;"} {
				at, end := len(ahead), len(ahead)+len(s)
				if got, to, code := Next(ahead+s+behind, at); !alike(got, want) || to != end || code != api.OK {
					t.Errorf("Next(%q, %d) = %+v, %d, %d", ahead+s+behind, at, got, to, code)
				}
			}
		}
	}
}

// Promise 10.2: what is no token.
func TestNoToken(t *testing.T) {
	for _, s := range []string{
		"<", "<>", "<<a>", "< a>", "<\ta>", "<1>", "<-a>", "<.>", "<\u0300>", "<a", "<a ", "<a/", "<a/ >", "<a / >", "<a//>", "<a\u00D7>", "<a\u00A0/>", "<=>",
		"<a b>", "<a b/>", "<a b=>", "<a b=/>", "<a b=c>", "<a ='c'>", "<a b'c'>", "<a b=='c'>", "<a 1='c'>", "<a b='c>", "<a b=\"c'>", "<a b='c\">", "<a b=`c`>", "<a b=='c'/>",
		"<a b='<'>", "<a b=\"a<b\">", "<a b='c'd='e'>", "<a b='c'\"d\">", "<a b='c' d>", "<a b='c',d='e'>", "<ab='c'>", "<a b='c'", "<a b='c' ", "<a b='c'/", "<a b='c' <",
		"</", "</>", "</ >", "</ a>", "</1>", "</a", "</a ", "</a b>", "</a b='c'>", "</a/>", "</a<", "<//>", "<\\a>",
		"<!", "<!>", "<!a>", "<!-", "<!->", "<!--", "<!-->", "<!--->", "<!-- --", "<!-- -- -->", "<!--a--->", "<!------>", "<! -- -->", "<!DOCTYPE a>", "<!ELEMENT a ANY>",
		"<![", "<![]]>", "<![CDATA", "<![CDATA[", "<![CDATA]]>", "<![CDATA[]>", "<![CDATA[]] >", "<![CDATA []]>", "<![cdata[]]>", "<!CDATA[]]>", "<![CDATA[a]]",
		"<?", "<?>", "<??>", "<? ?>", "<? a?>", "<?1?>", "<?a", "<?a>", "<?a ", "<?a?", "<?a ?", "<?a ? >", "<?a:b?>", "<?:?>", "<?a/?>", "<?a??>", "<?a\u00A0b?>", "<?xml?>", "<?xml version='1.0'?>", "<?XML ?>", "<?xMl a?>",
		"&", "&&", "&;", "& a;", "&a", "&a ;", "&a b;", "&a&b;", "&a<b;", "&1;", "&-;", "&a:b;", "&:;", "&a:;", "&%a;", "&\u0300;", "&lt", "&LT&",
		"&#", "&#;", "&#x;", "&#65", "&#65 ;", "&# 65;", "&#+65;", "&#-65;", "&#X41;", "&#x41", "&#4a;", "&#xg;", "&#0;", "&#8;", "&#x1F;", "&#xD800;", "&#xDFFF;", "&#xFFFE;", "&#xFFFF;", "&#x110000;", "&#4294967361;", "&#65&#65;", "&#6<5;",
		"]]>", "a]]>", "]]>b", "a]]]>b", ">]]>", "a b]]>c d",
		"<a\xff>", "<\xffa>", "</a\xff>", "<?a\xff?>", "<?a\xff ?>", "&a\xff;", "<a b\xff='c'>", "<a\xc3 />", "<\xed\xa0\x80>", "<a\xff b='c'>", "<a\xffb='c'>",
	} {
		for _, ahead := range []string{"", "x", "<a>", "\xff"} {
			at := len(ahead)
			if got, to, code := Next(ahead+s, at); !alike(got, api.Token{}) || to != at || code != api.ErrSyntax {
				t.Errorf("Next(%q, %d) = %+v, %d, %d", ahead+s, at, got, to, code)
			}
		}
	}
}

// Promise 10.2: places that are none, and the end.
func TestPlaces(t *testing.T) {
	for _, s := range []string{"", "a", "<a/>", "<", "é", "]]>"} {
		for _, at := range []int{-1, -2, math.MinInt, math.MinInt32, len(s) + 1, len(s) + 2, math.MaxInt32, math.MaxInt} {
			if got, to, code := Next(s, at); !alike(got, api.Token{}) || to != at || code != api.ErrRange {
				t.Errorf("Next(%q, %d) = %+v, %d, %d", s, at, got, to, code)
			}
		}
		if got, to, code := Next(s, len(s)); !alike(got, api.Token{}) || to != len(s) || code != api.ErrNone {
			t.Errorf("Next(%q, %d) = %+v, %d, %d", s, len(s), got, to, code)
		}
	}
}

// Promise 10.2: a character at the beginning of a name and within one, wherever a name stands: each below 0x3200, and around the ends of all ranges of 1.1; few of those far within the two widest ranges.
func TestCharactersOfNames(t *testing.T) {
	for c := rune(1); c <= utf8.MaxRune; c++ {
		if !utf8.ValidRune(c) || c == 0xFFFD || c > 0x3200 && c < 0xD700 && c%0x100 > 1 || c > 0x10100 && c%0x1000 > 1 && c%0x1000 < 0xFFE {
			continue
		}
		s := string(c)
		for _, text := range []string{"<" + s + ">", "<a" + s + "b>", "</" + s + ">", "</a" + s + ">", "<?" + s + "?>", "<?a" + s + "?>", "&" + s + ";", "&a" + s + ";", "<a " + s + "='b'>", "<a b" + s + "='c'>", "<a b='" + s + "'/>", "<a b=\"" + s + "\"/>", "<a b='c'" + s + ">", "<!--" + s + "-->", s + "a"} {
			next(t, text, 0)
		}
	}
}

// Promise 10.3: tokens from 0 on, and those ahead of a code.
func TestAll(t *testing.T) {
	for _, s := range samples() {
		all(t, s)
	}
	l, at, code := All("<a b='c'>x&#65;&lt;<!--d--><?e f?><![CDATA[g]]></a>")
	want := []api.Token{
		{Kind: api.TStart, Name: "a", Attrs: []api.Raw{{Name: "b", Value: "c"}}}, {Kind: api.TText, Text: "x"}, {Kind: api.TChar, Text: "A"}, {Kind: api.TRef, Name: "lt"},
		{Kind: api.TComment, Text: "d"}, {Kind: api.TPI, Name: "e", Text: "f"}, {Kind: api.TCData, Text: "g"}, {Kind: api.TEnd, Name: "a"},
	}
	if !reflect.DeepEqual(l, want) || at != 51 || code != api.OK {
		t.Errorf("%+v, %d, %d", l, at, code)
	}
	for s, want := range map[string]struct{ n, at, code int }{
		"": {0, 0, api.OK}, "<": {0, 0, api.ErrSyntax}, "&": {0, 0, api.ErrSyntax}, "]]>": {0, 0, api.ErrSyntax}, "a": {1, 1, api.OK},
		"a<b": {1, 1, api.ErrSyntax}, "<a></b></c>": {3, 11, api.OK}, "<a/><a/>x]]>": {2, 8, api.ErrSyntax}, "é&lt;&": {2, 6, api.ErrSyntax},
		"<?a?><?xml?><a/>": {1, 5, api.ErrSyntax}, "]]<![CDATA[>]]>": {2, 15, api.OK}, "]]&#62;": {2, 7, api.OK}, "]<!---->]>": {3, 10, api.OK},
	} {
		if l, at, code := All(s); len(l) != want.n || at != want.at || code != want.code {
			t.Errorf("All(%q): %d tokens, %d, %d", s, len(l), at, code)
		}
	}
}

// Promise 10.4: a piece hangs neither on what is ahead of it nor, once it has ended, on what is behind; and pieces, one at a time, make up all.
func TestOneAtATime(t *testing.T) {
	for _, s := range samples() {
		l, where, _ := All(s)
		at := 0
		for k, want := range l {
			got, end, code := Next(s, at)
			if !alike(got, want) || end <= at || code != api.OK {
				t.Fatalf("%q: the %d-th is %+v, %d, %d, not %+v", s, k, got, end, code, want)
			}
			alone, long, code := Next(s[at:end], 0)
			if !alike(alone, want) || long != end-at || code != api.OK {
				t.Fatalf("%q alone is %+v, %d, %d", s[at:end], alone, long, code)
			}
			at = end
		}
		if at != where {
			t.Errorf("%q: %d, not %d", s, at, where)
		}
	}
}

// Rule 1 of DOC.md: long ones end, in time that grows as they do.
func TestLong(t *testing.T) {
	const long = 1 << 19
	many := func(s string) string { return strings.Repeat(s, long) }
	for _, x := range []struct {
		s        string
		n, where int
		code     int
	}{
		{many("a"), 1, long, api.OK},
		{many("]"), 1, long, api.OK},
		{many("<a>"), long, 3 * long, api.OK},
		{many("</a>"), long, 4 * long, api.OK},
		{many("&a;"), long, 3 * long, api.OK},
		{many("&#65;"), long, 5 * long, api.OK},
		{many("a<!---->"), 2 * long, 8 * long, api.OK},
		{many("<![CDATA[]]>"), long, 12 * long, api.OK},
		{many("<?a?>"), long, 5 * long, api.OK},
		{many("<"), 0, 0, api.ErrSyntax},
		{many("&"), 0, 0, api.ErrSyntax},
		{many("<a>") + "<", long, 3 * long, api.ErrSyntax},
		{many("<!--"), 0, 0, api.ErrSyntax},
		{many("<?a "), 0, 0, api.ErrSyntax},
		{"<" + many("a") + ">", 1, long + 2, api.OK},
		{"<a" + many(" ") + ">", 1, long + 3, api.OK},
		{"<a" + many(" b=''") + "/>", 1, 5*long + 4, api.OK},
		{"<a" + many(" b=''"), 0, 0, api.ErrSyntax},
		{"<a b='" + many("\"") + "'>", 1, long + 8, api.OK},
		{"<a b='" + many("\""), 0, 0, api.ErrSyntax},
		{"<!--" + many("- ") + "-->", 1, 2*long + 7, api.OK},
		{"<![CDATA[" + many("]]") + "]]>", 1, 2*long + 12, api.OK},
		{"<?a " + many("?") + "?>", 1, long + 6, api.OK},
		{"&" + many("a") + ";", 1, long + 2, api.OK},
		{"&#" + many("0") + "65;", 1, long + 5, api.OK},
		{"&#" + many("1") + ";", 0, 0, api.ErrSyntax},
		{"</a" + many("\n") + ">", 1, long + 4, api.OK},
	} {
		if l, where, code := All(x.s); len(l) != x.n || where != x.where || code != x.code {
			t.Errorf("All(%.20q..): %d tokens, %d, %d, not %d, %d, %d", x.s, len(l), where, code, x.n, x.where, x.code)
		}
	}
}

// fresh is s in bytes that nobody else has.
func fresh(s string) string {
	b := []byte(s)
	return unsafe.String(unsafe.SliceData(b), len(b))
}

// spoil changes all bytes of s.
func spoil(s string) {
	b := unsafe.Slice(unsafe.StringData(s), len(s))
	for k := range b {
		b[k] ^= 0x55
	}
}

// Rule 2 of DOC.md: what is handed in is not changed, and what is answered does not change with it.
func TestNothingKept(t *testing.T) {
	for _, s := range samples() {
		want, _, _ := All(s)
		given := fresh(s)
		got, _, _ := All(given)
		if given != s {
			t.Fatalf("%q was changed", s)
		}
		var first api.Token
		if len(s) > 0 {
			first, _, _ = Next(given, 0)
		}
		spoil(given)
		if len(got) != len(want) {
			t.Fatalf("%d, not %d", len(got), len(want))
		}
		for k := range want {
			if !alike(got[k], want[k]) {
				t.Errorf("%+v became %+v", want[k], got[k])
			}
		}
		if len(want) > 0 && !alike(first, want[0]) {
			t.Errorf("%+v became %+v", want[0], first)
		}
	}
}

// Rule 2 of DOC.md: what is answered is the caller's own, and no two parts of it are one.
func TestAnswersShareNothing(t *testing.T) {
	const s = "<a a='a' b='a'><a a='a' b='a'/>a&a;&#65;a</a><?a a?>"
	l, _, _ := All(s)
	for k := range l {
		spoil(l[k].Name)
		spoil(l[k].Text)
		for _, a := range l[k].Attrs {
			spoil(a.Name)
			spoil(a.Value)
		}
		clear(l[k].Attrs[:cap(l[k].Attrs)])
		again, _, _ := All(s)
		for j := range again {
			if j > k && !alike(l[j], again[j]) {
				t.Fatalf("with the %d-th the %d-th became %+v", k, j, l[j])
			}
		}
	}
	all(t, s)
}

// The document's examples.
func TestExamples(t *testing.T) {
	want := api.Token{Kind: api.TStart, Name: "a", Empty: true}
	if got, end, code := Next("<a/>", 0); !alike(got, want) || end != 4 || code != api.OK {
		t.Errorf("%+v, %d, %d", got, end, code)
	}
	if c, is := CharRef("&#x41;"); c != 'A' || !is {
		t.Errorf("%q, %t", c, is)
	}
}

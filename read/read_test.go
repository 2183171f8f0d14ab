package read

import (
	"encoding/xml"
	"io"
	"math"
	"runtime/debug"
	"slices"
	"strconv"
	"strings"
	"testing"
	"unsafe"

	"bracken/api"
	"bracken/refs"
	"bracken/scope"
)

// most are the limits that let most.
func most() api.Limits {
	return api.Limits{Bytes: 1 << 20, Depth: 200, Expand: 1 << 20, Attrs: 100}
}

// rows calls do with start, and with it and all rows of at most n pieces behind it.
func rows(start string, n int, pieces []string, do func(string)) {
	do(start)
	if n == 0 {
		return
	}
	for _, p := range pieces {
		rows(start+p, n-1, pieces, do)
	}
}

// Promise 15.1: all mixes of numbers around the ends of what each limit may be.
func TestMay(t *testing.T) {
	ends := func(least, most int) []int {
		return []int{math.MinInt, least - 2, least - 1, least, least + 1, most / 2, most - 1, most, most + 1, math.MaxInt}
	}
	for _, bytes := range ends(0, 1<<20) {
		for _, depth := range ends(1, 200) {
			for _, expand := range ends(0, 1<<20) {
				for _, attrs := range ends(0, 100) {
					l := api.Limits{Bytes: bytes, Depth: depth, Expand: expand, Attrs: attrs}
					if May(l) != modelMay(l) {
						t.Fatalf("May(%+v) = %t", l, May(l))
					}
				}
			}
		}
	}
	if May(api.Limits{}) || !May(most()) || !May(api.Limits{Depth: 1}) {
		t.Error("of nothing, of most, of least")
	}
}

// Promise 15.3: what May does not take is told ahead of all, then what is too long, then what is no text.
func TestOrderOfFirstErrors(t *testing.T) {
	for _, s := range []string{"<a/>", "", "\xff", "<a>", "\xff" + strings.Repeat(" ", 1<<20), strings.Repeat(" ", 1<<20) + "<a/>"} {
		for _, f := range []func(l *api.Limits){
			func(l *api.Limits) { l.Bytes = -1 }, func(l *api.Limits) { l.Bytes++ }, func(l *api.Limits) { l.Depth = 0 }, func(l *api.Limits) { l.Depth++ },
			func(l *api.Limits) { l.Expand = -1 }, func(l *api.Limits) { l.Expand++ }, func(l *api.Limits) { l.Attrs = -1 }, func(l *api.Limits) { l.Attrs++ },
		} {
			l := most()
			f(&l)
			if tree, code := Tree([]byte(s), l); code != api.ErrArg || tree != nil || Check([]byte(s), l) != api.ErrArg {
				t.Errorf("%.10q, %+v: %d", s, l, code)
			}
		}
		l := most()
		l.Bytes = len(s) - 1
		if code := Check([]byte(s), l); l.Bytes >= 0 && May(l) && code != api.ErrLimit {
			t.Errorf("%.10q, one byte more than may be: %d", s, code)
		}
	}
	l := api.Limits{Bytes: 7, Depth: 1}
	for s, code := range map[string]int{"<abcd/>": api.OK, "<abcde/>": api.ErrLimit, "\uFEFF<a/>": api.OK, "\uFEFF<ab/>": api.ErrLimit, "\xff\xff\xff\xff\xff\xff\xff": api.ErrSyntax, "\xff\xff\xff\xff\xff\xff\xff\xff": api.ErrLimit, "<a/>\r\n\r": api.OK, "<a/>\r\n\r\n": api.ErrLimit, "": api.ErrSyntax} {
		if got := Check([]byte(s), l); got != code {
			t.Errorf("%q: %d", s, got)
		}
	}
	if code := Check(nil, api.Limits{Depth: 1}); code != api.ErrSyntax {
		t.Errorf("of nothing: %d", code)
	}
}

// Promise 15.3: trees of all that there is, told one by one.
func TestTrees(t *testing.T) {
	for s, want := range map[string]string{
		"<a/>":                                 `1<a`,
		"<a></a>":                              `1<a`,
		"<a ></a >":                            `1<a`,
		"\n\t\r <a/> \r\n":                     `1<a`,
		"\uFEFF<a/>":                           `1<a`,
		"<a> </a>":                             `1<a; 2" "`,
		"<a>\r\n\r\r\n</a>":                    `1<a; 2"\n\n\n"`,
		"<a>&#13;&#10;</a>":                    `1<a; 2"\r\n"`,
		"<a>x<b/>y</a>":                        `1<a; 2"x"; 2<b; 2"y"`,
		"<a><b>x</b>y</a>":                     `1<a; 2<b; 3"x"; 2"y"`,
		"<a>x<b>y<c/></b></a>":                 `1<a; 2"x"; 2<b; 3"y"; 3<c`,
		"<a><a><a/></a><a/></a>":               `1<a; 2<a; 3<a; 2<a`,
		"<?p?><a/><!---->":                     `1?p""; 1<a; 1!""`,
		"<!--<a/>--><a/><?q <b/>?>":            `1!"<a/>"; 1<a; 1?q"<b/>"`,
		"<a>x<!--c-->y<?p?>z</a>":              `1<a; 2"x"; 2!"c"; 2"y"; 2?p""; 2"z"`,
		"<a>x<![CDATA[]]>y</a>":                `1<a; 2"xy"`,
		"<a><![CDATA[<b>&e;]]></a>":            `1<a; 2"<b>&e;"`,
		"<a><![CDATA[a]]]]><![CDATA[>b]]></a>": `1<a; 2"a]]>b"`,
		"<a>&lt;&gt;&amp;&apos;&quot;&#65;&#x42;</a>":                                 `1<a; 2"<>&'\"AB"`,
		"<?xml version='1.0' encoding='utf-8'?>\n<a/>":                                `1<a`,
		"<?xml version='1.0'?><!--c--><!DOCTYPE x><?p  q ?><a/>":                      `1!"c"; 1?p"q "; 1<a`,
		"<!DOCTYPE a SYSTEM 'u'><a/>":                                                 `1<a`,
		"<!DOCTYPE a [<!--no--><?no no?><!ELEMENT b ANY>]><a/>":                       `1<a`,
		"<!DOCTYPE a [<!ENTITY e ''>]><a>&e;</a>":                                     `1<a`,
		"<!DOCTYPE a [<!ENTITY e ''>]><a>x&e;y</a>":                                   `1<a; 2"xy"`,
		"<!DOCTYPE a [<!ENTITY e 'x<b>y</b>z'>]><a>1&e;2&e;</a>":                      `1<a; 2"1x"; 2<b; 3"y"; 2"z2x"; 2<b; 3"y"; 2"z"`,
		"<!DOCTYPE a [<!ENTITY e '&#60;b>&#38;lt;&#60;/b>'>]><a>&e;</a>":              `1<a; 2<b; 3"<"`,
		"<!DOCTYPE a [<!ENTITY e '<!--c--><?p q?>'>]><a>x&e;y</a>":                    `1<a; 2"x"; 2!"c"; 2?p"q"; 2"y"`,
		"<!DOCTYPE a [<!ENTITY e 'a&#13;b'>]><a>&e;</a>":                              `1<a; 2"a\rb"`,
		"<!DOCTYPE a [<!ENTITY e '<b&#13;c=\"&#13;\"/>'>]><a>&e;</a>":                 `1<a; 2<b c=" "`,
		"<!DOCTYPE a [<!ENTITY e '<?p&#13;q?>'>]><a>&e;</a>":                          `1<a; 2?p"q"`,
		"<!DOCTYPE a [<!ENTITY lt 'no'><!ENTITY amp 'no'>]><a b='&lt;'>&lt;&amp;</a>": `1<a b="<"; 2"<&"`,
		"<!DOCTYPE a [<!ENTITY e '1'><!ENTITY e '2'>]><a>&e;</a>":                     `1<a; 2"1"`,
		"<a b='1' c=\"2\"/>":                                                    `1<a b="1" c="2"`,
		"<a b=' x\ty\nz&#9;&lt; '/>":                                            `1<a b=" x y z\t< "`,
		"<a xmlns='u'><b/><c xmlns=''><d/></c><e/></a>":                         `1<a{u} xmlns{XMLNS}="u"; 2<b{u}; 2<c xmlns{XMLNS}=""; 3<d; 2<e{u}`,
		"<p:a xmlns:p='u' b='1' p:b='2'/>":                                      `1<p:a{u} xmlns:p{XMLNS}="u" b="1" p:b{u}="2"`,
		"<a xmlns='u' xmlns:p='u' b='1' p:b='2'/>":                              `1<a{u} xmlns{XMLNS}="u" xmlns:p{XMLNS}="u" b="1" p:b{u}="2"`,
		"<a p:b='' xmlns:p='u'/>":                                               `1<a p:b{u}="" xmlns:p{XMLNS}="u"`,
		"<a xmlns:p='u'><p:b xmlns:p='v'/><p:c/></a>":                           `1<a xmlns:p{XMLNS}="u"; 2<p:b{v} xmlns:p{XMLNS}="v"; 2<p:c{u}`,
		"<a xmlns:p='&#117; &lt;'><p:b/></a>":                                   `1<a xmlns:p{XMLNS}="u <"; 2<p:b{u <}`,
		"<a xmlns:p='u' p:b='1' p:c='2' b='3' c='4'/>":                          `1<a xmlns:p{XMLNS}="u" p:b{u}="1" p:c{u}="2" b="3" c="4"`,
		"<p:xmlns xmlns:p='u' p:xmlns='v' xmlns='w'/>":                          `1<p:xmlns{u} xmlns:p{XMLNS}="u" p:xmlns{u}="v" xmlns{XMLNS}="w"`,
		"<a xml:id='1' id='2'/>":                                                `1<a xml:id{XML}="1" id="2"`,
		"<xml:a/>":                                                              `1<xml:a{XML}`,
		"<a xmlns:xml='" + xmlURI + "'/>":                                       `1<a xmlns:xml{XMLNS}="` + xmlURI + `"`,
		"<xmlns/>":                                                              `1<xmlns`,
		"<!DOCTYPE a [<!ATTLIST a b CDATA ' 1 ' c ID ' 2  3 '>]><a/>":           `1<a b=" 1 " c="2 3"`,
		"<!DOCTYPE a [<!ATTLIST a b CDATA '1' c ID '2'>]><a c=' x '/>":          `1<a c="x" b="1"`,
		"<!DOCTYPE a [<!ATTLIST a b CDATA '1' b ID '2'>]><a/>":                  `1<a b="1"`,
		"<!DOCTYPE a [<!ATTLIST a b ID #IMPLIED><!ATTLIST a b CDATA '2'>]><a/>": `1<a`,
		"<!DOCTYPE a [<!ATTLIST b b CDATA '1'>]><a><b/><p:b xmlns:p='b'/></a>":  `1<a; 2<b b="1"; 2<p:b{b} xmlns:p{XMLNS}="b"`,
		"<!DOCTYPE a [<!ATTLIST a xmlns CDATA 'u'>]><a><a xmlns='v'/></a>":      `1<a{u} xmlns{XMLNS}="u"; 2<a{v} xmlns{XMLNS}="v"`,
		"<!DOCTYPE a [<!ATTLIST a p:b CDATA '1' xmlns:p CDATA 'u'>]><a/>":       `1<a p:b{u}="1" xmlns:p{XMLNS}="u"`,
		"<!DOCTYPE a [<!ENTITY e '&f;'><!ENTITY f 'x'><!ATTLIST a b CDATA '&e;'>]><a c='&f;'>&e;<a/></a>": `1<a c="x" b="x"; 2"x"; 2<a b="x"`,
	} {
		got, code := check(t, s, most())
		if code != api.OK || show(got) != want || !slices.EqualFunc(got[:1], api.Tree{{Kind: api.NDoc}}, sameNodes) {
			t.Errorf("%q: %s, %d", s, show(got), code)
		}
	}
}

// Promise 15.3: what denotes no tree.
func TestNoTrees(t *testing.T) {
	for _, s := range []string{
		"", " ", "x", "&lt;", "&#32;", "<!--c-->", "<?p?>", "<!DOCTYPE a>", "<![CDATA[]]>", "\uFEFF", "\uFEFF\uFEFF<a/>", "\x00<a/>", "<a/>\x00", "<a>\uFFFF</a>", "<a>\xff</a>", "\xfe\xff\x00<\x00a\x00/\x00>",
		"x<a/>", "<a/>x", "&lt;<a/>", "<a/>&#32;", "<a/>&e;", "<![CDATA[ ]]><a/>", "<a/><![CDATA[]]>", "<a/>]]>", "<a/><a/>", "<a></a><b/>", "</a>", "<a/></a>", "<a></a></a>", "<a/><", "<",
		"<a>", "<a><b></a>", "<a><b/>", "<a></b>", "<a></A>", "<a></a", "<a><b></a></b>", "<a>x", "<a>&e;</a>", "<a>&</a>", "<a>&#0;</a>", "<a><</a>", "<a>]]></a>", "<a><!-- -- --></a>", "<a><?xml?></a>", "<a><!DOCTYPE a></a>", "<a><?xml version='1.0'?></a>",
		" <?xml version='1.0'?><a/>", "<!--c--><?xml version='1.0'?><a/>", "<?xml version='1.0'?><?xml version='1.0'?><a/>", "<?xml?><a/>", "<?xml version='2.0'?><a/>", "<?xml version='1.0' encoding='latin1'?><a/>", "<?XML version='1.0'?><a/>",
		"<a/><!DOCTYPE a>", "<!DOCTYPE a><!DOCTYPE a><a/>", "<!DOCTYPE a><!--c--><!DOCTYPE b><a/>", "<!DOCTYPE><a/>", "<!DOCTYPE a", "<!DOCTYPE a [<!ENTITY % p 'x'>]><a/>", "<!doctype a><a/>", "<!DOCTYPE a>x<a/>",
		"<a b/>", "<a b=c/>", "<a b='<'/>", "<a b='1'b='2'/>", "<a b='' b=''/>", "<a b='&e;'/>", "<a b='&'/>", "<a :b=''/>", "<a b:=''/>", "<a b:c:d=''/>", "<:a/>", "<a:/>", "<a:b:c/>",
		"<p:a/>", "<a p:b=''/>", "<a><b xmlns:p='u'/><p:c/></a>", "<a><p:b xmlns:q='u'/></a>", "<xmlns:a/>", "<xmlns:a xmlns:xmlns='u'/>", "<a xmlns:xmlns='" + xmlnsURI + "'/>", "<a xmlns:p=''/>", "<a xmlns:xml='u'/>", "<a xmlns='" + xmlURI + "'/>", "<a xmlns:p='" + xmlnsURI + "'/>", "<a xmlns:p='u' xmlns:p='v'/>",
		"<a xmlns:p='u' xmlns:q='u' p:b='' q:b=''/>", "<a xmlns:p='u' p:b='' p:b=''/>", "<a xmlns:p='u'><b xmlns:q='u' p:c='' q:c=''/></a>", "<a xmlns:p='&#117;' xmlns:q='u' p:b='' q:b=''/>",
		"<!DOCTYPE a [<!ATTLIST a q:b CDATA '' xmlns:p CDATA 'u' xmlns:q CDATA 'u'>]><a p:b=''/>", "<!DOCTYPE a [<!ATTLIST a p:b CDATA ''>]><a/>", "<!DOCTYPE a [<!ATTLIST a xmlns:p ID ' '>]><a/>", "<!DOCTYPE a [<!ATTLIST a b CDATA '&e;'>]><a/>",
		"<!DOCTYPE a [<!ENTITY e '<b>'>]><a>&e;</b></a>", "<!DOCTYPE a [<!ENTITY e '<b>'><!ENTITY f '</b>'>]><a>&e;&f;</a>", "<!DOCTYPE a [<!ENTITY e '</b>'>]><a><b>&e;</a>", "<!DOCTYPE a [<!ENTITY e '</a>'>]><a>&e;", "<!DOCTYPE a [<!ENTITY e '</a><a>'>]><a>&e;</a>", "<!DOCTYPE a [<!ENTITY e '<b>x'>]><a>&e;</a>", "<!DOCTYPE a [<!ENTITY e '<a/>'>]>&e;", "<!DOCTYPE a [<!ENTITY e ' '>]><a/>&e;", "<!DOCTYPE a [<!ENTITY e ' '>]>&e;<a/>",
		"<!DOCTYPE a [<!ENTITY e '<b'>]><a>&e;/></a>", "<!DOCTYPE a [<!ENTITY e '&#38;'>]><a>&e;lt;</a>", "<!DOCTYPE a [<!ENTITY e '<!--'>]><a>&e;--></a>", "<!DOCTYPE a [<!ENTITY e ']]'>]><a>&e;></a>x", "<!DOCTYPE a [<!ENTITY e ']]>'>]><a>&e;</a>",
		"<!DOCTYPE a [<!ENTITY e '&e;'>]><a>&e;</a>", "<!DOCTYPE a [<!ENTITY e 'x&f;'><!ENTITY f '<b>&e;</b>'>]><a>&e;</a>", "<!DOCTYPE a [<!ENTITY e '<b c=\"&#38;e;\"/>'>]><a>&e;</a>", "<!DOCTYPE a [<!ENTITY e SYSTEM 'u'>]><a>&e;</a>", "<!DOCTYPE a [<!ENTITY e SYSTEM 'u'>]><a b='&e;'/>", "<!DOCTYPE a [<!ENTITY e SYSTEM 'u' NDATA n>]><a>&e;</a>", "<!DOCTYPE a [<!ENTITY e '<b/>'>]><a b='&e;'/>",
		"<!DOCTYPE a [<!ENTITY e '<!--&#13;-->'>]><a>&e;</a>", "<!DOCTYPE a [<!ENTITY e '<!--x&#13;&#10;y-->'>]><a>&e;</a>", "<!DOCTYPE a [<!ENTITY e '<?p x&#13;?>'>]><a>&e;</a>",
	} {
		if got, code := check(t, s, most()); code != api.ErrSyntax || got != nil {
			t.Errorf("%q: %s, %d", s, show(got), code)
		}
	}
}

// entities are a subset with such as hold all that a content may hold.
const entities = "<!ENTITY e 'x'><!ENTITY n ''><!ENTITY b '<b/>'><!ENTITY o '<b>'><!ENTITY z '</b>'><!ENTITY m 'y<b c=\"&#38;e;\">&e;</b>&n;z'><!ENTITY g '&g;'><!ENTITY h '<b>&i;</b>'><!ENTITY i 'v&h;'><!ENTITY x SYSTEM 'u'><!ENTITY r '&#13;'><!ENTITY k '<!--&#13;-->'><!ENTITY w '&#38;'><!ENTITY l '&#38;#60;b>'><!ENTITY p '<?p?>'><!ENTITY d '&m;&m;'>"

// Promise 15.3: all short rows of what may stand in a document, of what is in a content and of what is beside the root.
func TestDocumentsOfAllShort(t *testing.T) {
	pieces := []string{"<a>", "</a>", "<a/>", "<b>", "</b>", "x", " ", "\r\n", "<!--c-->", "<?p q?>", "<!DOCTYPE a>", "<!DOCTYPE b[<!ENTITY e '<b/>'>]>", "<?xml version='1.0'?>", "&lt;", "&e;", "&#13;", "<![CDATA[y]]>", "<![CDATA[]]>", "\xff", "\uFEFF", "]]>"}
	for _, start := range []string{"", "<a>"} {
		rows(start, 3, pieces, func(s string) {
			check(t, s, most())
			check(t, s+"</a>", most())
		})
	}
}

// Promise 15.3: all short rows of references and what is beside them, within several limits.
func TestContentsOfAllShort(t *testing.T) {
	pieces := []string{"&e;", "&n;", "&b;", "&o;", "&z;", "&m;", "&g;", "&h;", "&x;", "&r;", "&k;", "&w;", "&l;", "&p;", "&d;", "&q;", "&amp;", "t", "<b>", "</b>", "<c d='&e;'/>", "<!--c-->", "<![CDATA[]]>"}
	for expand, n := range map[int]int{0: 2, 1: 2, 30: 2, 79: 2, 1 << 20: 3} {
		l := most()
		l.Expand = expand
		rows("<!DOCTYPE a ["+entities+"]><a>", n, pieces, func(s string) {
			check(t, s+"</a>", l)
		})
	}
	for depth := 1; depth < 4; depth++ {
		l := most()
		l.Depth = depth
		rows("<!DOCTYPE a ["+entities+"]><a>", 2, pieces, func(s string) {
			check(t, s+"</a>", l)
		})
	}
}

// Promises 15.2 and 15.3: all short rows of attributes, with such as are declared, within several limits.
func TestAttributesOfAllShort(t *testing.T) {
	pieces := []string{" b=''", " b=' 1  2 '", " c='&e;'", " c='&g;'", " c='&w;'", " xmlns='u'", " xmlns=''", " xmlns:p='u'", " xmlns:q='u'", " xmlns:p=''", " xmlns:xml='" + xmlURI + "'", " p:b='3'", " q:b='4'", " xml:b='5'", " xmlns:xmlns='u'", " p:xmlns='6'", " :b=''", " a:b:c=''", "b=''", " xmlns:p='" + xmlnsURI + "'"}
	declarations := "<!ATTLIST a b NMTOKENS #IMPLIED c CDATA ' d&e; ' b CDATA 'no'><!ATTLIST a q:b ID '  &e;  '><!ATTLIST p:a xmlns:p CDATA 'v' xmlns CDATA 'w'>"
	for _, head := range []string{"<a", "<!DOCTYPE a [" + entities + declarations + "]><a", "<!DOCTYPE a [" + entities + declarations + "<!ATTLIST a xmlns:q CDATA 'u'>]><a"} {
		for l, n := range map[api.Limits]int{most(): 3, {Bytes: 2000, Depth: 9, Expand: 16, Attrs: 3}: 2, {Bytes: 2000, Depth: 9, Expand: 15, Attrs: 2}: 2} {
			rows(head, n, pieces, func(s string) {
				check(t, s+"/>", l)
				check(t, s+"><p:a/></a>", l)
			})
		}
	}
}

// Promises 15.2 and 15.3: limits at their edges.
func TestEdges(t *testing.T) {
	nested := func(n int) string { return strings.Repeat("<a>", n) + strings.Repeat("</a>", n) }
	attrs := func(n int) string {
		s := "<a"
		for k := range n {
			s += " a" + strconv.Itoa(k) + "=''"
		}
		return s + "/>"
	}
	for k := 1; k <= 200; k++ {
		l := most()
		l.Depth = k
		for n, code := range map[int]int{k - 1: api.OK, k: api.OK, k + 1: api.ErrLimit} {
			if got := Check([]byte("<r/>"), l); got != api.OK {
				t.Fatalf("a root within %d: %d", k, got)
			}
			if _, got := check(t, nested(n), l); n > 0 && got != code {
				t.Errorf("%d elements within one another, %d may be: %d", n, k, got)
			}
		}
	}
	for k := 0; k <= 100; k++ {
		l := most()
		l.Attrs = k
		for n, code := range map[int]int{k: api.OK, k + 1: api.ErrLimit} {
			if _, got := check(t, attrs(n), l); got != code {
				t.Errorf("%d attributes, %d may be: %d", n, k, got)
			}
		}
	}
	bomb := "<!DOCTYPE a [<!ENTITY e '&f;&f;&f;'><!ENTITY f '12345'><!ATTLIST a b CDATA '&f;'>]><a>&e;</a>"
	const all = (1 + 3 + 5) + (9 + 3*5)
	for k := range all + 10 {
		l := most()
		l.Expand = k
		if _, code := check(t, bomb, l); (code == api.OK) != (k >= all) || code != api.OK && code != api.ErrLimit {
			t.Errorf("%d bytes, %d may be: %d", all, k, code)
		}
	}
	deep := most()
	deep.Depth = 1
	if got, code := check(t, "<a>x<!--c--><?p?></a>", deep); code != api.OK || len(got) != 5 {
		t.Errorf("no elements in the one that may be: %d", code)
	}
}

// Promise 15.3: of two errors the first one from the left is told, whatever each is.
func TestFirstFromTheLeft(t *testing.T) {
	l := api.Limits{Bytes: 1000, Depth: 3, Expand: 10, Attrs: 2}
	limits := []string{"<b><c><d/></c></b>", "<b c='' d='' e=''/>", "&long;", "<b c='&long;'/>", "<wide/>", "<far/>", "<b c='' c='' c=''/>", "<b><c><d e='&q;'/></c></b>", "<b><c><p:d/></c></b>", "<b c='' p:d='&long;'/>", "<far c='&q;' d='' e=''/>"}
	faults := []string{"</b>", "&q;", "&ring;", "<b c='&q;'/>", "<p:b/>", "<b c='' c=''/>", "]]>", "<", "&", "&open;", "<b c='&q;' d='&long;'/>", "<b c='' c='&long;'/>", "<p::b c='&long;'/>", "<bad/>"}
	head := "<!DOCTYPE a [<!ENTITY long '12345678901'><!ENTITY ring '&ring;'><!ENTITY open '<b>'><!ATTLIST wide b CDATA '' c CDATA '' d CDATA ''><!ATTLIST far b CDATA '1234567890'><!ATTLIST bad b CDATA '&q;' c CDATA '1234567890'>]><a>"
	for _, x := range limits {
		for _, y := range faults {
			for _, between := range []string{"", "z", "<b/>", "<!--c-->"} {
				if _, code := check(t, head+x+between+y+"</a>", l); code != api.ErrLimit {
					t.Errorf("%s%s%s: %d", x, between, y, code)
				}
				if _, code := check(t, head+between+y+between+x+"</a>", l); code != api.ErrSyntax {
					t.Errorf("%s%s%s: %d", y, between, x, code)
				}
			}
		}
		for _, end := range []string{"", "</b>", "</a><b/>", "</a>x", "</a"} {
			if _, code := check(t, head+x+end, l); code != api.ErrLimit {
				t.Errorf("%s and a wrong end %s: %d", x, end, code)
			}
		}
	}
}

// samples hold all that a document may hold.
func samples() []string {
	return []string{
		"<?xml version='1.0' encoding='UTF-8' standalone='no'?>\r\n<!--c--><!DOCTYPE p:a [" + entities + "<!ATTLIST p:a xmlns:p CDATA 'u' b ID ' 1 '>]>\n<?p q?><p:a xmlns='v' c='&lt;&#13;&e;'>t&m;<![CDATA[<&]]>&#x41;<b p:c=\"'\" d='\"'><c/></b><!--d-->&d;<?q?></p:a> <!--e-->\n",
		"\uFEFF<a xmlns:p='u' xmlns:q='v'>\u00e9\U0001F600<p:b p:c='1' q:c='2' c='3' xml:c='4'>x</p:b>\r<q:b xmlns:q='u' xmlns=''/></a>",
		"<a>" + strings.Repeat("<b>x", 5) + strings.Repeat("y</b>", 5) + "</a>",
	}
}

// Promise 15.3: each sample, each beginning of it, and it without each byte and with another one in its place.
func TestEachPlace(t *testing.T) {
	for _, s := range samples() {
		if _, code := check(t, s, most()); code != api.OK {
			t.Errorf("%q: %d", s, code)
		}
		for at := range len(s) {
			if _, code := check(t, s[:at], most()); code == api.OK && strings.Contains(s[at:], "</") {
				t.Errorf("%q: %d", s[:at], code)
			}
			check(t, s[at:], most())
			check(t, s[:at]+s[at+1:], most())
			for _, c := range []string{"<", ">", "&", ";", "\r", "\xff", "'", "/", ":", "x", " "} {
				check(t, s[:at]+c+s[at+1:], most())
				check(t, s[:at]+c+s[at:], most())
			}
		}
	}
}

// outside gives what Go's own reader makes of s, as a tree. (It does not check that prefixes are bound; spaces in values stay as they are.)
func outside(s string) (api.Tree, bool) {
	tree := api.Tree{{Kind: api.NDoc}}
	d := xml.NewDecoder(strings.NewReader(strings.TrimPrefix(s, "\uFEFF")))
	depth := 1
	for {
		t, err := d.Token()
		if err != nil {
			return tree, err == io.EOF
		}
		n := api.Node{Depth: depth}
		switch x := t.(type) {
		case xml.StartElement:
			depth++
			n.Kind, n.Local, n.URI = api.NElem, x.Name.Local, x.Name.Space
			for _, a := range x.Attr {
				uri := a.Name.Space
				if uri == "xmlns" || uri == "" && a.Name.Local == "xmlns" {
					uri = xmlnsURI
				}
				n.Attrs = append(n.Attrs, api.Attr{Local: a.Name.Local, URI: uri, Value: a.Value})
			}
		case xml.EndElement:
			depth--
			continue
		case xml.CharData:
			if last := &tree[len(tree)-1]; last.Kind == api.NText && last.Depth == depth {
				last.Value += string(x)
				continue
			} else if len(x) == 0 || depth == 1 {
				continue
			}
			n.Kind, n.Value = api.NText, string(x)
		case xml.Comment:
			n.Kind, n.Value = api.NComment, string(x)
		case xml.ProcInst:
			if x.Target == "xml" {
				continue
			}
			n.Kind, n.Local, n.Value = api.NPI, x.Target, string(x.Inst)
		}
		tree = append(tree, n)
	}
}

// Theorem T1 of DOC.md: where bytes denote a tree, without a document type, Go's own reader comes to the same one.
func TestAgainstAnother(t *testing.T) {
	pieces := []string{"<a>", "</a>", "<b c=\"1\"/>", "<p:b xmlns:p=\"u\">", "</p:b>", "<p:c p:d=\"&lt;&#65;\" d=\"'\"/>", "<a xmlns=\"u\">", "x", "\r\n", "&gt;&#x42;", "<!--c-->", "<?p q?>", "<![CDATA[<y>]]>", "é"}
	trees := 0
	for _, start := range []string{"", "<a>", "<?xml version=\"1.0\"?><a xmlns:p=\"v\">"} {
		rows(start, 4, pieces, func(s string) {
			got, code := Tree([]byte(s+"</a>"), most())
			if code != api.OK {
				return
			}
			trees++
			for k := range got {
				got[k].Prefix = ""
				for j := range got[k].Attrs {
					got[k].Attrs[j].Prefix = ""
				}
			}
			if want, is := outside(s + "</a>"); !is || !slices.EqualFunc(got, want, sameNodes) {
				t.Fatalf("%q: %s, not %s", s, show(got), show(want))
			}
		})
	}
	if trees < 10000 {
		t.Errorf("%d trees only", trees)
	}
}

// scopes are levels that are pushed ahead.
func scopes() [][]api.Attr {
	bind := func(prefix, uri string) api.Attr {
		if prefix == "" {
			return api.Attr{Local: "xmlns", URI: xmlnsURI, Value: uri}
		}
		return api.Attr{Prefix: "xmlns", Local: prefix, URI: xmlnsURI, Value: uri}
	}
	return [][]api.Attr{nil, {bind("", "d"), bind("p", "u")}, {bind("p", "u"), bind("q", "u")}, {bind("p", "u"), bind("q", "v")}}
}

// checkStart holds Start against the model, also what it does to refs and scope.
func checkStart(t *testing.T, tok api.Token, d api.Decls, ahead []api.Attr, l api.Limits) (api.Node, int) {
	t.Helper()
	r, sc, mr, msc := refs.New(d), scope.New(), refs.New(d), scope.New()
	sc.Push(ahead)
	msc.Push(ahead)
	want, wantCode := modelStart(tok, d, mr, msc, l)
	if wantCode != api.OK {
		want = api.Node{}
		for msc.Depth() > 1 {
			msc.Pop()
		}
	}
	got, code := Start(tok, d, r, sc, l)
	if code != wantCode || !sameNodes(got, want) {
		t.Fatalf("Start(%+v, %+v, %v, %+v) = %s, %d, not %s, %d", tok, d, ahead, l, showNode(got), code, showNode(want), wantCode)
	}
	if sc.Depth() != msc.Depth() || !slices.Equal(sc.All(), msc.All()) || r.Spent() != mr.Spent() || r.Depth() != mr.Depth() {
		t.Fatalf("Start(%+v, %+v, %v, %+v): %d levels, %v, %d spent, %d open", tok, d, ahead, l, sc.Depth(), sc.All(), r.Spent(), r.Depth())
	}
	return got, code
}

// Promise 15.2: all rows of up to three attributes of many kinds, on several scopes, with several declarations, within several limits.
func TestStartOfAllShort(t *testing.T) {
	entity := []api.Entity{{Name: "e", Value: "x "}, {Name: "g", Value: "&g;"}, {Name: "l", Value: "<"}, {Name: "o", External: true}}
	decls := []api.Decls{
		{Entities: entity},
		{Entities: entity, Atts: []api.Att{{Elem: "p:a", Name: "b", Type: api.ATok, Value: "no"}, {Elem: "p:a", Name: "p:b", Type: api.ACData, Has: true, Value: " &e;"}, {Elem: "a", Name: "c", Type: api.ATok, Has: true, Value: "&e;&e;"}, {Elem: "a", Name: "d", Has: true, Value: "&lt;"}}},
		{Entities: entity, Atts: []api.Att{{Elem: "a", Name: "xmlns", Type: api.ACData, Has: true, Value: "w"}, {Elem: "a", Name: "xmlns:q", Type: api.ATok, Has: true, Value: " u  v "}, {Elem: "a", Name: "q:b", Has: true, Value: "1"}, {Elem: "p:a", Name: "b", Has: true, Value: "&o;"}}},
		{Entities: entity, Atts: []api.Att{{Elem: "a", Name: "b", Type: api.ATok}, {Elem: "a", Name: "b", Type: api.ACData, Has: true, Value: " 5  6 "}, {Elem: "a", Name: "b", Type: api.ACData, Has: true, Value: " 7 "}, {Elem: "p:a", Name: "p:b", Type: 77, Has: true, Value: "  "}}},
		{Entities: entity, Atts: []api.Att{{Elem: "a", Name: "c:d:e", Type: api.ATok, Has: true}, {Elem: "a", Name: "b", Has: true}, {Elem: "p:a", Name: "", Has: true}}},
	}
	raws := []api.Raw{{Name: "b", Value: " 1  2 "}, {Name: "c", Value: "&e;"}, {Name: "c", Value: "&g;"}, {Name: "d", Value: "<&l;"}, {Name: "p:b", Value: "3"}, {Name: "q:b", Value: "<4"}, {Name: "xmlns", Value: "u"}, {Name: "xmlns:q", Value: "&#117;"}, {Name: "xmlns:p"}, {Name: "p:xmlns", Value: "v"}, {Name: "xml:b"}, {Name: "a:b:c"}, {Name: ""}, {Name: "xmlns:xmlns", Value: "u"}, {Name: "é\xff"}, {Name: "b:"}}
	limits := []api.Limits{{Expand: 1000, Attrs: 1000}, {Expand: 6, Attrs: 3}, {Expand: 10, Attrs: 2}, {Expand: -1, Attrs: -1}, {Bytes: -5, Depth: -5, Expand: math.MaxInt, Attrs: 4}}
	var row []api.Raw
	var longer func()
	longer = func() {
		limits := limits[:len(limits)-2*(len(row)/3)]
		for _, name := range []string{"a", "p:a", "q:a", "xmlns:a"}[:4-len(row)/3*2] {
			for _, d := range decls {
				for _, ahead := range scopes() {
					for _, l := range limits {
						checkStart(t, api.Token{Kind: api.TStart, Name: name, Attrs: row}, d, ahead, l)
					}
				}
			}
		}
		if len(row) == 3 {
			return
		}
		for _, a := range raws {
			row = append(row, a)
			longer()
			row = row[:len(row)-1]
		}
	}
	longer()
}

// Promise 15.2: names of elements that are none.
func TestStartOfNames(t *testing.T) {
	for name, code := range map[string]int{"a": api.OK, "_": api.OK, "xml:a": api.OK, "p:a": api.OK, "xmlns": api.OK, "xml": api.OK, "é": api.OK, "": api.ErrSyntax, ":": api.ErrSyntax, ":a": api.ErrSyntax, "a:": api.ErrSyntax, "p::a": api.ErrSyntax, "a:b:c": api.ErrSyntax, "1": api.ErrSyntax, "p:1": api.ErrSyntax, "a b": api.ErrSyntax, "\xff": api.ErrSyntax, "q:a": api.ErrSyntax, "xmlns:a": api.ErrSyntax, "XML:a": api.ErrSyntax, "P:a": api.ErrSyntax} {
		if _, got := checkStart(t, api.Token{Name: name}, api.Decls{}, scopes()[1], most()); got != code {
			t.Errorf("%q: %d", name, got)
		}
	}
}

// Promise 15.2: a limit is told ahead of a name, a name ahead of a value, a value ahead of a default, that one ahead of what is declared.
func TestStartInOrder(t *testing.T) {
	d := api.Decls{Entities: []api.Entity{{Name: "long", Value: "123456789"}}, Atts: []api.Att{{Elem: "a", Name: "e", Has: true, Value: "12345678"}, {Elem: "b", Name: "e", Has: true, Value: "&q;"}, {Elem: "b", Name: "f", Has: true, Value: "12345678"}}}
	l := api.Limits{Expand: 8, Attrs: 3}
	raw := func(s ...string) []api.Raw {
		var out []api.Raw
		for k := 0; k < len(s); k += 2 {
			out = append(out, api.Raw{Name: s[k], Value: s[k+1]})
		}
		return out
	}
	for k, x := range []struct {
		t    api.Token
		code int
	}{
		{api.Token{Name: "", Attrs: raw("", "", "", "", "", "", "", "")}, api.ErrLimit},
		{api.Token{Name: "", Attrs: raw("b", "&long;")}, api.ErrSyntax},
		{api.Token{Name: "c", Attrs: raw("b", "&long;", "b", "")}, api.ErrSyntax},
		{api.Token{Name: "c", Attrs: raw("b", "&long;", "", "")}, api.ErrSyntax},
		{api.Token{Name: "c", Attrs: raw("b", "&q;", "c", "&long;")}, api.ErrSyntax},
		{api.Token{Name: "c", Attrs: raw("b", "&long;", "c", "&q;")}, api.ErrLimit},
		{api.Token{Name: "a", Attrs: raw("b", "&q;")}, api.ErrSyntax},
		{api.Token{Name: "a", Attrs: raw("p:b", "", "xmlns:p", "")}, api.ErrLimit},
		{api.Token{Name: "b", Attrs: raw("b", "", "c", "")}, api.ErrSyntax},
		{api.Token{Name: "b", Attrs: raw("b", "", "c", "", "d", "")}, api.ErrLimit},
		{api.Token{Name: "a", Attrs: raw("e", "", "p:b", "")}, api.ErrSyntax},
		{api.Token{Name: "a", Attrs: raw("e", "")}, api.OK},
	} {
		if _, code := checkStart(t, x.t, d, nil, l); code != x.code {
			t.Errorf("%d: %d, not %d", k, code, x.code)
		}
	}
}

// Promise 15.2: of a token whatever else it holds, the element is the same; of several calls each pushes a level.
func TestStartAgain(t *testing.T) {
	r, sc := refs.New(api.Decls{}), scope.New()
	for k := range 9 {
		tok := api.Token{Kind: k, Name: "p:a", Text: "x", Empty: k%2 == 0, Attrs: []api.Raw{{Name: "xmlns:p", Value: "u" + strconv.Itoa(k)}}}
		n, code := Start(tok, api.Decls{Name: "b"}, r, sc, most())
		if code != api.OK || showNode(n) != "0<p:a{u"+strconv.Itoa(k)+`} xmlns:p{XMLNS}="u`+strconv.Itoa(k)+`"` || sc.Depth() != k+1 {
			t.Errorf("%s, %d, %d levels", showNode(n), code, sc.Depth())
		}
		if n, code := Start(api.Token{Name: "p:a"}, api.Decls{}, r, sc, most()); code != api.OK || n.URI != "u"+strconv.Itoa(k) || !sc.Pop() {
			t.Errorf("within: %s, %d", showNode(n), code)
		}
	}
}

// Rule 1 of DOC.md: of no refs and no scope an error may be told, and what needs none is read.
func TestStartOfNil(t *testing.T) {
	d := api.Decls{Atts: []api.Att{{Elem: "b", Name: "c", Has: true}}}
	if n, code := Start(api.Token{Name: "a", Attrs: []api.Raw{{Name: "b", Value: "&lt;"}}}, d, nil, scope.New(), most()); code != api.OK || showNode(n) != `0<a b="<"` {
		t.Errorf("without refs: %s, %d", showNode(n), code)
	}
	if n, code := Start(api.Token{Name: "b"}, d, nil, scope.New(), most()); code != api.ErrLimit || n.Kind != 0 {
		t.Errorf("a default without refs: %d", code)
	}
	if n, code := Start(api.Token{Name: "a"}, d, refs.New(d), nil, most()); code != api.ErrSyntax || n.Kind != 0 {
		t.Errorf("without a scope: %d", code)
	}
	if n, code := Start(api.Token{Name: "a"}, d, &refs.Refs{}, &scope.Scope{}, most()); code != api.OK || n.Local != "a" {
		t.Errorf("of such as nobody made: %d", code)
	}
	if _, code := Start(api.Token{}, api.Decls{}, nil, nil, api.Limits{}); code != api.ErrSyntax {
		t.Errorf("of nothing at all: %d", code)
	}
}

// Theorem T5 of DOC.md: entities of entities, doubled again and again, are a limit; rings of every length an error.
func TestBombs(t *testing.T) {
	for _, last := range []string{"x", "<b/>", ""} {
		head := "<!DOCTYPE a ["
		for k := range 40 {
			ref := "&e" + strconv.Itoa(k+1) + ";"
			head += "<!ENTITY e" + strconv.Itoa(k) + " '" + ref + ref + "'>"
		}
		head += "<!ENTITY e40 '" + last + "'><!ATTLIST c d CDATA '&e0;'>]>"
		for s, want := range map[string]int{"<a>&e0;</a>": api.ErrLimit, "<a b='&e0;'/>": api.ErrLimit, "<c/>": api.ErrLimit, "<a>&e30;</a>": api.OK} {
			// A value holds no element: that is come to ahead of the limit.
			if last == "<b/>" && !strings.Contains(s, "</") {
				want = api.ErrSyntax
			}
			if code := Check([]byte(head+s), most()); code != want {
				t.Errorf("%q of %q: %d", s, last, code)
			}
		}
	}
	for n := 1; n < 40; n++ {
		head := "<!DOCTYPE a ["
		for k := range n {
			head += "<!ENTITY e" + strconv.Itoa(k) + " 'x<b>&e" + strconv.Itoa((k+1)%n) + ";</b>'>"
		}
		for k := range n {
			check(t, head+"]><a>&e"+strconv.Itoa(k)+";</a>", most())
			if code := Check([]byte(head+"]><a>&e"+strconv.Itoa(k)+";</a>"), most()); code != api.ErrSyntax {
				t.Errorf("a ring of %d: %d", n, code)
			}
		}
	}
}

// chain is a document type of n entities, each of which holds the next, the last one last.
func chain(n int, last string) string {
	var out strings.Builder
	out.WriteString("<!DOCTYPE a [")
	for k := range n - 1 {
		out.WriteString("<!ENTITY e" + strconv.Itoa(k) + "'&e" + strconv.Itoa(k+1) + ";'>")
	}
	return strings.ReplaceAll(out.String(), "'&", " '&") + "<!ENTITY e" + strconv.Itoa(n-1) + " '" + last + "'>]>"
}

// Theorem T5 of DOC.md: however deep entities hold one another, no deep calls are made, which would break the program off.
func TestDeepEntities(t *testing.T) {
	const deep = 30000
	defer debug.SetMaxStack(debug.SetMaxStack(1 << 20))
	for last, code := range map[string]int{"x": api.OK, "<": api.ErrSyntax, "&e0;": api.ErrSyntax, "<b>": api.ErrSyntax, "<b/>": api.OK} {
		got, is := Tree([]byte(chain(deep, last)+"<a>&e0;</a>"), most())
		if is != code || code == api.OK && len(got) != 3 {
			t.Errorf("%q: %d, %d nodes", last, is, len(got))
		}
	}
}

// Theorem T5 of DOC.md: as many bytes as may be, of each kind, in time that grows as they do.
func TestLong(t *testing.T) {
	fill := func(head, s, tail string) []byte {
		return []byte(head + strings.Repeat(s, (1<<20-len(head)-len(tail))/len(s)) + tail)
	}
	long := strings.Repeat("u", 1<<19)
	var atts strings.Builder
	for k := range 1 << 15 {
		atts.WriteString(" x" + strconv.Itoa(k) + " ID #IMPLIED")
	}
	entities := strings.Repeat("1", 1<<10)
	for k, b := range [][]byte{
		fill("<a>", "<b/>", "</a>"), fill("<a>", "<b/>x", "</a>"), fill("<a>", "x", "</a>"), fill("<a>", "&lt;", "</a>"), fill("<a>", "x<!---->", "</a>"), fill("<a>", "<?p?>", "</a>"), fill("<a>", "<b></b>", "</a>"), fill("<a>", "<![CDATA[]]>", "</a>"), fill("<a>", "\r", "</a>"),
		fill("", " ", "<a/>"), fill("", "<!---->", "<a/>"), fill("<a/>", "<?p?>", ""), fill("<a/>", "\n", ""), fill("<a b='", "x", "'/>"), fill("<", "a", "/>"), fill("<a ", " ", "/>"), fill("<a b='", "&#9;", "'/>"),
		fill("<a xmlns='"+long+"'>", "<b/>", "</a>"), fill("<a xmlns:p='"+long+"'>", "<p:b p:c=''/>", "</a>"), fill("<a xmlns:p='"+long[2:]+"x' xmlns:q='"+long[:1<<18]+"y'>", "<b p:c='' q:c=''/>", "</a>"), fill("<a xmlns:p='"+long[:1<<18]+"x' xmlns:q='"+long[:1<<18]+"y'>", "<b p:c='' q:c=''/>", "</a>"),
		fill("<!DOCTYPE a [<!ATTLIST b"+atts.String()+">]><a>", "<b/>", "</a>"), fill("<!DOCTYPE a [<!ATTLIST b"+atts.String()+">]><a>", "<b x1='' x2=''/>", "</a>"), fill("<!DOCTYPE a [<!ATTLIST b c CDATA ''>]><a>", "<b/>", "</a>"),
		fill("<!DOCTYPE a [<!ENTITY e ''>]><a>", "&e;", "</a>"), fill("<!DOCTYPE a [<!ENTITY e '"+entities+"'>]><a>"+strings.Repeat("&e;", 1023), "y", "</a>"), fill("<!DOCTYPE a [<!ENTITY e '<b/>x'>]><a>", "&#9;", strings.Repeat("&e;", 1<<17)+"</a>"),
		fill("<!DOCTYPE a [<!ENTITY e '"+long+"'>]><a>&e;", "<b/>x", "&e;</a>"),
	} {
		tree, code := Tree(b, most())
		if code != api.OK || len(tree) < 2 {
			t.Errorf("%d: %.50q: %d", k, b, code)
		}
	}
	for k, b := range [][]byte{fill("", "<a>", ""), fill("<a>", "&", ""), fill("", "<", ""), fill("<a>", "]", "]]></a>"), fill("<a>", "<!--", ""), fill("<a>", "&#", ""), fill("<a ", "b='' ", "/>"), fill("<!DOCTYPE a [", "<!--c-->", ""), fill("", "<!DOCTYPE a>", "")} {
		if tree, code := Tree(b, most()); code == api.OK || tree != nil {
			t.Errorf("%d: %.50q: %d", k, b, code)
		}
	}
}

// Promise 15.2: very many attributes and declarations of them, in time that grows as they do.
func TestStartOfMany(t *testing.T) {
	const many = 1 << 16
	var tok api.Token
	var d api.Decls
	for k := range many {
		tok.Attrs = append(tok.Attrs, api.Raw{Name: "xmlns:p" + strconv.Itoa(k), Value: "u" + strconv.Itoa(k)}, api.Raw{Name: "p" + strconv.Itoa(k) + ":a", Value: " x "})
		d.Atts = append(d.Atts, api.Att{Elem: "a", Name: "p" + strconv.Itoa(k) + ":a", Type: api.ATok, Has: true}, api.Att{Elem: "a", Name: "b" + strconv.Itoa(k), Has: true, Value: "y"}, api.Att{Elem: "b"})
	}
	tok.Name = "a"
	n, code := Start(tok, d, refs.New(d), scope.New(), api.Limits{Expand: math.MaxInt, Attrs: math.MaxInt})
	if code != api.OK || len(n.Attrs) != 3*many {
		t.Fatalf("%d attributes, %d", len(n.Attrs), code)
	}
	if a := n.Attrs[2*many-1]; a.URI != "u65535" || a.Value != "x" {
		t.Errorf("%+v", a)
	}
	tok.Attrs[2*many-2].Value = "u0"
	if _, code := Start(tok, d, refs.New(d), scope.New(), api.Limits{Expand: math.MaxInt, Attrs: math.MaxInt}); code != api.ErrSyntax {
		t.Errorf("two of one namespace: %d", code)
	}
}

// Rule 3 of DOC.md: the same bytes give the same tree, whatever was read ahead.
func TestAgain(t *testing.T) {
	for _, s := range samples() {
		first, code := Tree([]byte(s), most())
		for _, other := range []string{"", "<a xmlns='u'>", "<!DOCTYPE a [<!ENTITY e '&e;'>]><a>&e;", "<a/>"} {
			Tree([]byte(other), most())
			again, c := Tree([]byte(s), most())
			if c != code || !slices.EqualFunc(again, first, sameNodes) {
				t.Errorf("%q, behind %q: %d, %s", s, other, c, show(again))
			}
		}
	}
}

// Rule 2 of DOC.md: the bytes are neither changed nor kept; a tree is the caller's own.
func TestNothingIsKept(t *testing.T) {
	for _, s := range samples() {
		b := []byte(s)
		x, _ := Tree(b, most())
		y, _ := Tree(b, most())
		if string(b) != s {
			t.Fatalf("%q became %q", s, b)
		}
		want := show(x)
		for k := range b {
			b[k] ^= 0x55
		}
		if show(x) != want {
			t.Errorf("%s became %s", want, show(x))
		}
		for k := range x {
			for j := range x[k].Attrs {
				x[k].Attrs[j] = api.Attr{}
			}
			x[k].Attrs = append(x[k].Attrs, api.Attr{Local: "z"})
			x[k] = api.Node{Attrs: append(x[k].Attrs[:0], api.Attr{Local: "z"})}
		}
		if show(y) != want {
			t.Errorf("%s became %s", want, show(y))
		}
	}
}

// fresh is s in bytes that nobody else has.
func fresh(s string) string {
	b := []byte(s)
	return unsafe.String(unsafe.SliceData(b), len(b))
}

// spoil changes all bytes of s.
func spoil(s string) {
	b := unsafe.Slice(unsafe.StringData(s), len(s))
	for k := range b {
		b[k] ^= 0x55
	}
}

// Rule 2 of DOC.md: what Start is handed is neither changed nor kept, not even the bytes of a text.
func TestStartKeepsNothing(t *testing.T) {
	tok := api.Token{Kind: api.TStart, Name: fresh("p:a"), Text: fresh("t"), Attrs: []api.Raw{{Name: fresh("xmlns:p"), Value: fresh("u")}, {Name: fresh("p:b"), Value: fresh("x&e;")}, {Name: fresh("c"), Value: fresh("y")}}}
	d := api.Decls{Name: fresh("n"), Entities: []api.Entity{{Name: "e", Value: "z"}}, Atts: []api.Att{{Elem: fresh("p:a"), Name: fresh("d"), Type: api.ACData, Has: true, Value: fresh("1 ")}, {Elem: fresh("p:a"), Name: fresh("xmlns"), Type: api.ATok, Has: true, Value: fresh("v")}}}
	sc := scope.New()
	n, code := Start(tok, d, refs.New(d), sc, most())
	const want = `0<p:a{u} xmlns:p{XMLNS}="u" p:b{u}="xz" c="y" d="1 " xmlns{XMLNS}="v"`
	if code != api.OK || showNode(n) != want || tok.Name != "p:a" || tok.Attrs[1] != (api.Raw{Name: "p:b", Value: "x&e;"}) || d.Atts[1].Value != "v" {
		t.Fatalf("%s, %d", showNode(n), code)
	}
	spoil(tok.Name)
	spoil(tok.Text)
	for k, a := range tok.Attrs {
		spoil(a.Name)
		spoil(a.Value)
		tok.Attrs[k] = api.Raw{}
	}
	for k, a := range d.Atts {
		spoil(a.Elem)
		spoil(a.Name)
		spoil(a.Value)
		d.Atts[k] = api.Att{}
	}
	if uri, _ := sc.URI("p"); showNode(n) != want || uri != "u" || len(sc.All()) != 3 {
		t.Errorf("it became %s", showNode(n))
	}
	n.Attrs[0] = api.Attr{}
	if uri, is := sc.URI("p"); uri != "u" || !is {
		t.Errorf("p became %q", uri)
	}
}

// Promise 15.3: texts that are longer than a tree of them may be are one each.
func TestOneURIOfMany(t *testing.T) {
	b := []byte("<a xmlns='" + strings.Repeat("u", 1<<19) + "'>" + strings.Repeat("<b/>", 1<<17-20) + "</a>")
	tree, code := Tree(b, most())
	if code != api.OK || len(tree) != 1<<17-18 {
		t.Fatalf("%d nodes, %d", len(tree), code)
	}
	for _, n := range tree[1:] {
		if len(n.URI) != 1<<19 {
			t.Fatal(len(n.URI))
		}
	}
}

// The document's example.
func TestExample(t *testing.T) {
	tree, code := Tree([]byte("<a/>"), api.Limits{Bytes: 4, Depth: 1})
	if code != api.OK || len(tree) != 2 || tree[0].Kind != api.NDoc || !sameNodes(tree[1], api.Node{Kind: api.NElem, Depth: 1, Local: "a"}) {
		t.Errorf("%s, %d", show(tree), code)
	}
}

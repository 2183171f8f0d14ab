package decl

import (
	"math"
	"reflect"
	"regexp"
	"slices"
	"strconv"
	"strings"
	"testing"
	"unicode/utf8"
	"unsafe"

	"bracken/api"
)

// What a name begins with, and what it goes on with, by 1.1, but the colon and 0xFFFD: a regexp takes bytes that are no UTF-8 for that one.
const (
	starts   = `A-Z_a-z\x{C0}-\x{D6}\x{D8}-\x{F6}\x{F8}-\x{2FF}\x{370}-\x{37D}\x{37F}-\x{1FFF}\x{200C}\x{200D}\x{2070}-\x{218F}\x{2C00}-\x{2FEF}\x{3001}-\x{D7FF}\x{F900}-\x{FDCF}\x{FDF0}-\x{FFFC}\x{10000}-\x{EFFFF}`
	parts    = starts + `\-.0-9\x{B7}\x{300}-\x{36F}\x{203F}\x{2040}`
	ncname   = `[` + starts + `][` + parts + `]*`
	qname    = ncname + `(?::` + ncname + `)?`
	space    = `[ \t\r\n]+`
	maybe    = `[ \t\r\n]*`
	equals   = maybe + `=` + maybe
	literal  = `(?:"[^"]*"|'[^']*')`
	external = `(?:SYSTEM` + space + literal + `|PUBLIC` + space + literal + space + literal + `)`
	list     = `\(` + maybe + `[:` + parts + `]+(?:` + maybe + `\|` + maybe + `[:` + parts + `]+)*` + maybe + `\)`
	kind     = `(?:CDATA|ID|IDREF|IDREFS|ENTITY|ENTITIES|NMTOKEN|NMTOKENS|(?:NOTATION` + space + `)?` + list + `)`
	standard = `(?:#REQUIRED|#IMPLIED|(?:#FIXED` + space + `)?("[^"<]*"|'[^'<]*'))`
	att      = space + `(` + qname + `)` + space + `(` + kind + `)` + space + standard
	charRef  = `&#(?:[0-9]+|x[0-9A-Fa-f]+);`
)

var (
	xmlForm     = regexp.MustCompile(`^<\?xml` + space + `version` + equals + `(?:"1\.[0-9]+"|'1\.[0-9]+')(?:` + space + `encoding` + equals + `(?:"[Uu][Tt][Ff]-8"|'[Uu][Tt][Ff]-8'))?(?:` + space + `standalone` + equals + `(?:"yes"|'yes'|"no"|'no'))?` + maybe + `\?>`)
	xmlBegins   = regexp.MustCompile(`^<\?xml[ \t\r\n]`)
	literalForm = regexp.MustCompile(`^` + literal)
	entityForm  = regexp.MustCompile(`^(?:[^%&]|&` + ncname + `;|` + charRef + `)*$`)
	oneCharRef  = regexp.MustCompile(charRef)
	oneAtt      = regexp.MustCompile(att)

	headForm    = regexp.MustCompile(`^<!DOCTYPE` + space + `(` + qname + `)(?:` + space + external + `)?` + maybe)
	tailForm    = regexp.MustCompile(`^\]` + maybe + `>`)
	asideForm   = regexp.MustCompile(`^(?:` + space + `|<!--(?:[^-]|-[^-])*-->|<\?(` + ncname + `)(?:` + space + `(?s:.*?))?\?>)`)
	entityDecl  = regexp.MustCompile(`^<!ENTITY` + space + `(` + ncname + `)` + space + `(?:(` + literal + `)|` + external + `(?:` + space + `NDATA` + space + ncname + `)?)` + maybe + `>`)
	attlistDecl = regexp.MustCompile(`^<!ATTLIST` + space + `(` + qname + `)((?:` + att + `)*)` + maybe + `>`)
	otherDecl   = regexp.MustCompile(`^<!(?:ELEMENT|NOTATION)` + space + `(?:[^<>"']|` + literal + `)*>`)
)

func inner(quoted string) string {
	return quoted[1 : len(quoted)-1]
}

func modelXML(s string) (int, int) {
	if !xmlBegins.MatchString(s) {
		return 0, api.OK
	}
	if m := xmlForm.FindString(s); m != "" {
		return len(m), api.OK
	}
	return 0, api.ErrSyntax
}

func isChar(n int64) bool {
	return n == 9 || n == 10 || n == 13 || n >= 0x20 && n <= 0xD7FF || n >= 0xE000 && n <= 0xFFFD || n >= 0x10000 && n <= 0x10FFFF
}

func modelEntity(s string) (string, bool) {
	if !entityForm.MatchString(s) {
		return "", false
	}
	all := true
	out := oneCharRef.ReplaceAllStringFunc(s, func(ref string) string {
		number, base := ref[2:len(ref)-1], 10
		if number[0] == 'x' {
			number, base = number[1:], 16
		}
		n, err := strconv.ParseInt(number, base, 64)
		all = all && err == nil && isChar(n)
		return string(rune(n))
	})
	if !all {
		return "", false
	}
	return out, true
}

// model takes what its forms tell from the beginning of rest.
type model struct {
	rest  string
	found api.Decls
}

func (m *model) cut(form *regexp.Regexp) []string {
	l := form.FindStringSubmatch(m.rest)
	if l != nil {
		m.rest = m.rest[len(l[0]):]
	}
	return l
}

func (m *model) entity(l []string) bool {
	e, is := api.Entity{Name: l[1], External: l[2] == ""}, true
	if !e.External {
		e.Value, is = modelEntity(inner(l[2]))
	}
	if !slices.ContainsFunc(m.found.Entities, func(x api.Entity) bool { return x.Name == e.Name }) {
		m.found.Entities = append(m.found.Entities, e)
	}
	return is
}

func (m *model) attlist(l []string) {
	for _, x := range oneAtt.FindAllStringSubmatch(l[2], -1) {
		a := api.Att{Elem: l[1], Name: x[1], Type: api.ATok}
		if x[2] == "CDATA" {
			a.Type = api.ACData
		}
		if x[3] != "" {
			a.Has, a.Value = true, inner(x[3])
		}
		if !slices.ContainsFunc(m.found.Atts, func(b api.Att) bool { return b.Elem == a.Elem && b.Name == a.Name }) {
			m.found.Atts = append(m.found.Atts, a)
		}
	}
}

func (m *model) piece() bool {
	if l := m.cut(asideForm); l != nil {
		return strings.ToLower(l[1]) != "xml"
	}
	if l := m.cut(entityDecl); l != nil {
		return m.entity(l)
	}
	if l := m.cut(attlistDecl); l != nil {
		m.attlist(l)
		return true
	}
	return m.cut(otherDecl) != nil
}

func (m *model) doctype() bool {
	head := m.cut(headForm)
	if head == nil {
		return false
	}
	m.found.Name = head[1]
	if rest, is := strings.CutPrefix(m.rest, ">"); is {
		m.rest = rest
		return true
	}
	if !strings.HasPrefix(m.rest, "[") {
		return false
	}
	m.rest = m.rest[1:]
	for !strings.HasPrefix(m.rest, "]") {
		if !m.piece() {
			return false
		}
	}
	return m.cut(tailForm) != nil
}

func modelDoctype(s string, at int) (api.Decls, int, int) {
	if at < 0 || at > len(s) || !strings.HasPrefix(s[at:], "<!DOCTYPE") {
		return api.Decls{}, at, api.ErrNone
	}
	m := model{rest: s[at:]}
	if !m.doctype() {
		return api.Decls{}, at, api.ErrSyntax
	}
	return m.found, len(s) - len(m.rest), api.OK
}

func alike(a, b api.Decls) bool {
	return a.Name == b.Name && slices.Equal(a.Entities, b.Entities) && slices.Equal(a.Atts, b.Atts)
}

func checkXML(t *testing.T, s string) {
	t.Helper()
	end, code := modelXML(s)
	if to, c := XML(s); to != end || c != code {
		t.Fatalf("XML(%.200q) = %d, %d, not %d, %d", s, to, c, end, code)
	}
}

func checkEntity(t *testing.T, s string) {
	t.Helper()
	want, is := modelEntity(s)
	if got, ok := Entity(s); got != want || ok != is {
		t.Fatalf("Entity(%.200q) = %q, %t, not %q, %t", s, got, ok, want, is)
	}
}

func checkDoctype(t *testing.T, s string, at int) {
	t.Helper()
	want, end, code := modelDoctype(s, at)
	if got, to, c := Doctype(s, at); !alike(got, want) || to != end || c != code {
		t.Fatalf("Doctype(%.200q, %d) = %+v, %d, %d, not %+v, %d, %d", s, at, got, to, c, want, end, code)
	}
}

// rows calls do with start, and with it and all rows of at most n pieces behind it.
func rows(start string, n int, pieces []string, do func(string)) {
	do(start)
	if n == 0 {
		return
	}
	for _, p := range pieces {
		rows(start+p, n-1, pieces, do)
	}
}

// row is pieces of one byte, and others.
func row(letters string, others ...string) []string {
	return append(strings.Split(letters, ""), others...)
}

// Promise 11.1, Literal: all short rows at all places.
func TestLiteralOfAllShort(t *testing.T) {
	rows("", 5, row(`"'a <`, "é", "\xff"), func(s string) {
		for at := range len(s) + 1 {
			whole := literalForm.FindString(s[at:])
			want, is := "", whole != ""
			if is {
				want = inner(whole)
			}
			if got, to, ok := Literal(s, at); got != want || to != at+len(whole) || ok != is {
				t.Fatalf("Literal(%q, %d) = %q, %d, %t", s, at, got, to, ok)
			}
		}
	})
}

// Promise 11.1, Literal: what stands in it, whatever that is, and places that are none.
func TestLiteral(t *testing.T) {
	for _, body := range []string{"", "a", "<>&%[]!?--", "\n\r\t ", "é😀", "\xff\xc3", "\x00", "\uFFFD", strings.Repeat("ab", 1000)} {
		for _, ahead := range []string{"", "x", "'", "\"", "\xff", "''"} {
			for _, behind := range []string{"", "x", "'", "\"", "\xff", "''"} {
				at := len(ahead)
				for quote, other := range map[string]string{"'": "\"", "\"": "'"} {
					s := ahead + quote + body + other + quote + behind
					if got, to, is := Literal(s, at); got != body+other || to != len(s)-len(behind) || !is {
						t.Errorf("Literal(%q, %d) = %q, %d, %t", s, at, got, to, is)
					}
				}
			}
		}
	}
	for _, s := range []string{"", "'", "''", "\"a\"", "é'a'"} {
		for _, at := range []int{-1, -2, math.MinInt, math.MinInt32, len(s), len(s) + 1, len(s) + 2, math.MaxInt32, math.MaxInt} {
			if got, to, is := Literal(s, at); got != "" || to != at || is {
				t.Errorf("Literal(%q, %d) = %q, %d, %t", s, at, got, to, is)
			}
		}
	}
	for _, s := range []string{"a", "`a`", "'a", "\"a'", "'a\"", " 'a'", "\u2019a\u2019", "&quot;a&quot;"} {
		if got, to, is := Literal(s, 0); got != "" || to != 0 || is {
			t.Errorf("Literal(%q) = %q, %d, %t", s, got, to, is)
		}
	}
}

// Promise 11.1, XML: all short rows of what it is made of, and of what is like that.
func TestXMLOfAllShort(t *testing.T) {
	for _, m := range []struct {
		start  string
		n      int
		pieces []string
	}{
		{"", 5, row("<?xml X")},
		{"<?xml", 5, row(" \n?>", "version='1.0'", "encoding='utf-8'", "standalone=\"no\"")},
		{"<?xml ", 6, row(" ", " version='1.1'", " encoding=\"UTF-8\"", " standalone='yes'", "?>")},
		{"<?xml version", 6, row(" =\n1\"", "'1.0'", "?>")},
		{"<?xml version='", 6, row("1.02-x'", "'?>")},
		{"<?xml version=\"1.", 5, row("1a \"'", "é", "\xff", "?>")},
		{"<?xml version='1.0'", 5, row(" =?>\t", "encoding", "'utf-8'", "\"utf-8'")},
		{"<?xml version='1.0' encoding='utf-8'", 5, row(" =?>\r", "standalone", "'yes'", "\"no\"", "'No'")},
		{"<?xml version='1.0' standalone='", 5, row("yesno'", "'?>")},
	} {
		rows(m.start, m.n, m.pieces, func(s string) {
			checkXML(t, s)
			checkXML(t, s+"?>")
		})
	}
}

// Promise 11.1, XML: where it ends, whatever is behind.
func TestXML(t *testing.T) {
	for _, s := range []string{
		"<?xml version='1.0'?>", "<?xml version=\"1.0\"?>", "<?xml version='1.1'?>", "<?xml version='1.0123456789'?>", "<?xml version='1." + strings.Repeat("9", 1000) + "'?>",
		"<?xml \t\r\nversion\n=\t'1.0'\r?>", "<?xml version='1.0' ?>", "<?xml version='1.0' encoding='UTF-8'?>", "<?xml version='1.0'\nencoding =\n\"uTf-8\"\n?>",
		"<?xml version='1.0' standalone='yes'?>", "<?xml version='1.0' standalone=\"no\" ?>", "<?xml version=\"1.0\" encoding='utf-8' standalone=\"yes\"?>", "<?xml version='1.0' encoding='utf-8'\r\n\tstandalone\r=\n'no'?>",
	} {
		for _, behind := range []string{"", "<a/>", "?>", " ", "'", "<?xml version='1.0'?>", "\xff"} {
			if to, code := XML(s + behind); to != len(s) || code != api.OK {
				t.Errorf("XML(%q) = %d, %d", s+behind, to, code)
			}
		}
		for cut := len("<?xml "); cut < len(s); cut++ {
			if to, code := XML(s[:cut]); to != 0 || code != api.ErrSyntax {
				t.Fatalf("XML(%q) = %d, %d", s[:cut], to, code)
			}
		}
	}
	for _, s := range []string{
		"", "<", "<?", "<?xml", "<?xml?>", "<?xmlversion='1.0'?>", "<?XML version='1.0'?>", "<?Xml ?>", " <?xml version='1.0'?>", "\uFEFF<?xml version='1.0'?>",
		"<?xml-stylesheet a?>", "<?xml\u00A0version='1.0'?>", "<?xml\u0085?>", "<?xml\x00?>", "<?xml\x0B?>", "<?xml\x0C?>", "<a/>", "<a/><?xml version='1.0'?>", "<? xml version='1.0'?>",
	} {
		if to, code := XML(s); to != 0 || code != api.OK {
			t.Errorf("XML(%q) = %d, %d", s, to, code)
		}
	}
}

// Promise 11.1, XML: what is wrong behind its beginning.
func TestNoXML(t *testing.T) {
	for _, s := range []string{
		" ?>", "\t?>", " version?>", " version=?>", " version=1.0?>", " version='?>", " version='1.0?>", " version='1.0\"?>", " VERSION='1.0'?>", " Version='1.0'?>", " version:'1.0'?>", " version=='1.0'?>", " version '1.0'?>", " version&#61;'1.0'?>",
		" version=''?>", " version='1'?>", " version='1.'?>", " version='.0'?>", " version='0.1'?>", " version='2.0'?>", " version='11.0'?>", " version=' 1.0'?>", " version='1.0 '?>", " version='1. 0'?>", " version='1,0'?>", " version='1.0.0'?>", " version='1.-1'?>", " version='1.+1'?>", " version='1.x'?>", " version='1.\u0661'?>", " version='1.\uFF11'?>", " version='1.0\xff'?>", " version='1.0\uFFFD'?>", " version='1.0e1'?>", " version='1./'?>", " version='1.:'?>",
		" encoding='utf-8'?>", " standalone='yes'?>", " encoding='utf-8' version='1.0'?>", " version='1.0'encoding='utf-8'?>", " version='1.0' encoding='utf-8'standalone='yes'?>", " version='1.0'standalone='yes'?>", " version='1.0' standalone='yes' encoding='utf-8'?>",
		" version='1.0' version='1.0'?>", " version='1.0' encoding='utf-8' encoding='utf-8'?>", " version='1.0' standalone='yes' standalone='yes'?>",
		" version='1.0' encoding=''?>", " version='1.0' encoding='utf8'?>", " version='1.0' encoding='utf_8'?>", " version='1.0' encoding='utf-16'?>", " version='1.0' encoding=' utf-8'?>", " version='1.0' encoding='utf-8 '?>", " version='1.0' encoding='utf-8-'?>", " version='1.0' encoding='us-ascii'?>", " version='1.0' encoding='ISO-8859-1'?>", " version='1.0' encoding='ut\uFB00-8'?>", " version='1.0' encoding='\uFF55tf-8'?>", " version='1.0' encoding='utf\u20108'?>", " version='1.0' encoding=utf-8?>", " version='1.0' Encoding='utf-8'?>",
		" version='1.0' standalone=''?>", " version='1.0' standalone='Yes'?>", " version='1.0' standalone='NO'?>", " version='1.0' standalone='true'?>", " version='1.0' standalone='yes '?>", " version='1.0' standalone='ye\u017F'?>", " version='1.0' standalone=no?>", " version='1.0' Standalone='no'?>",
		" version='1.0'", " version='1.0' ", " version='1.0'?", " version='1.0'>", " version='1.0'/>", " version='1.0' ? >", " version='1.0'??>", " version='1.0' x?>", " version='1.0' a='b'?>", " version='1.0'<?>", " version='1.0'\u00A0?>", " version='1.0'\u00A0encoding='utf-8'?>", " a?>",
	} {
		for _, behind := range []string{"", "<a/>"} {
			if to, code := XML("<?xml" + s + behind); to != 0 || code != api.ErrSyntax {
				t.Errorf("XML(%q) = %d, %d", "<?xml"+s+behind, to, code)
			}
		}
	}
}

// Promise 11.2: all short rows of what an entity is made of.
func TestEntityOfAllShort(t *testing.T) {
	for _, m := range []struct {
		start  string
		n      int
		pieces []string
	}{
		{"", 5, row("&#x;3a%<:", "é", "\xff")},
		{"&", 5, row("&#;a1-.: ", "é", "\xff")},
		{"é&#", 5, row("x;019aFg&%")},
		{"", 5, row("%&;\"'\x00", "&#65;", "&#x3C;", "&#38;", "&#37;", "&a;", "]]>", "<!--")},
	} {
		rows(m.start, m.n, m.pieces, func(s string) { checkEntity(t, s) })
	}
}

// Promise 11.2: what an entity's text is.
func TestEntity(t *testing.T) {
	for s, want := range map[string]string{
		"": "", "a": "a", " \t\r\n ": " \t\r\n ", "<a>&b;</a>": "<a>&b;</a>", "]]>": "]]>", "\"'": "\"'", "\xff\xc3": "\xff\xc3", "\x00": "\x00", "\uFFFD": "\uFFFD", ";#x": ";#x",
		"&#65;": "A", "&#x41;": "A", "&#x00041;b": "Ab", "a&#65;": "aA", "&#65;&#66;": "AB", "&#9;&#10;&#13;": "\t\n\r", "&#60;&#62;&#34;&#39;": "<>\"'", "&#37;": "%", "&#x25;a;": "%a;", "&#x10FFFF;": "\U0010FFFF", "&#xFFFD;": "\uFFFD",
		"&#38;": "&", "&#38;#60;": "&#60;", "&#38;amp;": "&amp;", "&#x26;#38;#38;": "&#38;#38;", "&#38;&#38;;": "&&;",
		"&lt;&gt;&amp;&apos;&quot;": "&lt;&gt;&amp;&apos;&quot;", "&é.-1;": "&é.-1;", "&xml;": "&xml;", "a&b;c&#100;e&f;": "a&b;cde&f;", "\xff&a;\xff&#65;\xff": "\xff&a;\xffA\xff", "&\uFFFD;": "&\uFFFD;",
	} {
		if got, is := Entity(s); got != want || !is {
			t.Errorf("Entity(%q) = %q, %t", s, got, is)
		}
	}
	for _, s := range []string{
		"%", "%a;", "a%", "50% off", "&#65;%", "&a;%", "% ", "%%",
		"&", "&&", "&;", "& ", "& a;", "&a", "&a ;", "&a b;", "&a&b;", "&a<b;", "&1;", "&-;", "&a:b;", "&:;", "&a:;", "&%a;", "&\u0300;", "&lt", "&a\xff;", "&\xff;", "a & b", "&a;&", "&#65;&b",
		"&#", "&#;", "&#x;", "&#65", "&#65 ;", "&# 65;", "&#+65;", "&#-65;", "&#X41;", "&#x41", "&#4a;", "&#xg;", "&#0;", "&#8;", "&#x1F;", "&#xD800;", "&#xDFFF;", "&#xFFFE;", "&#xFFFF;", "&#x110000;", "&#4294967361;", "&#18446744073709551681;", "&#65&#65;", "&#6<5;",
	} {
		for _, whole := range []string{s, "a" + s, s + " b", "&#65;" + s, s + "&c;", "\xff" + s, s + "<;"} {
			if got, is := Entity(whole); got != "" || is {
				t.Errorf("Entity(%q) = %q, %t", whole, got, is)
			}
		}
	}
}

// mixes are rows of pieces behind a start, of all that a document type is made of, and what may stand behind them.
func mixes() []struct {
	start  string
	n      int
	pieces []string
	ends   []string
} {
	type mix = struct {
		start  string
		n      int
		pieces []string
		ends   []string
	}
	inner := []string{"", ">]>", "]>"}
	return []mix{
		{"", 3, row("<!D ", "<!DOCTYPE", "DOCTYPE", " a", ">"), []string{""}},
		{"<!DOCTYPE", 5, row(" \na:1[]>", "é", "\xff"), []string{""}},
		{"<!DOCTYPE a", 5, row(" [>", "SYSTEM", "PUBLIC", "'x'", "\">\"", "\t"), []string{"", "]>"}},
		{"<!DOCTYPE a [", 4, row("] a<>%&\"", "<!--", "-->", "<?b ", "?>", "<!ELEMENT c>", "<![CDATA[]]>"), []string{"", "]>"}},
		{"<!DOCTYPE a [", 4, row("]", "\n", "<!ENTITY e 'x'>", "<!ENTITY e \"y\">", "<!ENTITY f SYSTEM 'z'>", "<!ATTLIST a b ID 'c'>", "<!ATTLIST a b CDATA 'd' e ID #IMPLIED>", "<!ATTLIST e b IDREF 'c'>"), []string{"]>"}},
		{"<!DOCTYPE a [<!ENTITY", 5, row(" e:%>", "'x'", "\"&y;\"", "SYSTEM", "NDATA"), inner},
		{"<!DOCTYPE a [<!ENTITY e", 5, row(" >", "PUBLIC", "SYSTEM", "'x'", "\"y\"", "NDATA", "f"), inner},
		{"<!DOCTYPE a [<!ENTITY e SYSTEM 'x'", 5, row(" >g:", "NDATA", "'x'", "é", "\xff"), inner},
		{"<!DOCTYPE a [<!ENTITY e \"", 4, row("&#;x4%<\"'", "\xff"), inner},
		{"<!DOCTYPE a [<!ATTLIST", 5, row(" a:>", "b", "é", "\xff", " c ID 'd'"), inner},
		{"<!DOCTYPE a [<!ATTLIST a", 5, row(" b>", " c", " CDATA", " NMTOKENS", " 'd'", " #IMPLIED", " #FIXED"), inner},
		{"<!DOCTYPE a [<!ATTLIST a b", 5, row(" >", "CDATA", "ID", "REF", "S", "ENTITY", "#REQUIRED", "'v'"), inner},
		{"<!DOCTYPE a [<!ATTLIST a b ", 6, row("(|) c"), []string{" 'd'>]>"}},
		{"<!DOCTYPE a [<!ATTLIST a b (", 4, row("|)\t1:", "é", "\xff"), []string{" #IMPLIED>]>", ") 'd'>]>"}},
		{"<!DOCTYPE a [<!ATTLIST a b NOTATION", 5, row(" (|)c", "\n"), []string{" 'd'>]>"}},
		{"<!DOCTYPE a [<!ATTLIST a b CDATA", 4, row(" <>'\"x#", "#FIXED", "#IMPLIED", "#REQUIRED", "'&%'"), inner},
		{"<!DOCTYPE a [<!ELEMENT", 5, row(" a<>'\"%]", "\xff"), inner},
		{"<!DOCTYPE a [<!NOTATION", 4, row(" \nn<>'\"", "SYSTEM", "<!--"), inner},
	}
}

// Promise 11.3: all short rows, by the forms, alone and behind others.
func TestDoctypeOfAllShort(t *testing.T) {
	for _, m := range mixes() {
		rows(m.start, m.n, m.pieces, func(s string) {
			for _, end := range m.ends {
				checkDoctype(t, s+end, 0)
			}
		})
		rows("é<"+m.start, m.n-2, m.pieces, func(s string) {
			for _, end := range m.ends {
				checkDoctype(t, s+end+"<a b='c'/>", len("é<"))
			}
		})
	}
}

func samples() []string {
	return []string{
		"", "<!DOCTYPE a>", "<!DOCTYPE a SYSTEM \"b\">", "<!DOCTYPE a:b PUBLIC 'c'\n\"d\" [ ] >",
		"<?xml version='1.0'?>\r\n<!-- c --><!DOCTYPE é:名 [ <!ENTITY e 'x&#65;&f;'>\n<!ENTITY f SYSTEM \"u\">\t<!ENTITY g PUBLIC 'p' 'u' NDATA n><!ENTITY e 'again'><!-- <!ENTITY h ''> --><?p <!ENTITY i ''> ?>" +
			"<!ELEMENT a (b|c)* '>' ><!NOTATION n SYSTEM \"<>\"><!ATTLIST a b CDATA #REQUIRED c:d ID #IMPLIED e IDREF 'f' b ID 'again'><!ATTLIST g><!ATTLIST a h ( i|j | k ) #FIXED '&e;' l NOTATION (n) \"n\" ><!ATTLIST g:h b NMTOKEN ''> ] ><a/>",
		"\xff<!DOCTYPE a[<!ENTITY e '\xff&#x1F600;\xff'><!ATTLIST a b CDATA '\xff%'>]>\xff<!DOCTYPE b>",
		"<!DOCTYPE a [" + strings.Repeat("<!ENTITY e 'x'><!ATTLIST a b CDATA 'c'> ", 20) + "]>",
	}
}

// Promise 11.3: at each place of what holds all of it, cut at each place, and with each byte gone.
func TestEachPlace(t *testing.T) {
	for _, s := range samples() {
		begin := max(strings.Index(s, "<!DOCTYPE"), 0)
		for at := range len(s) + 1 {
			checkDoctype(t, s, at)
			if at < len(s) {
				checkDoctype(t, s[:at], begin)
				checkDoctype(t, s[:at]+s[at+1:], begin)
			}
		}
	}
}

// Promise 11.3: where no document type stands, and places that are none.
func TestNone(t *testing.T) {
	for _, s := range []string{"", "<", "<a/>", "<!", "<!DOCTYP", "<!doctype a>", "<!Doctype a>", "<! DOCTYPE a>", " <!DOCTYPE a>", "<?xml version='1.0'?><!DOCTYPE a>", "\uFEFF<!DOCTYPE a>"} {
		if got, to, code := Doctype(s, 0); !alike(got, api.Decls{}) || to != 0 || code != api.ErrNone {
			t.Errorf("Doctype(%q) = %+v, %d, %d", s, got, to, code)
		}
	}
	for _, s := range []string{"", "<!DOCTYPE a>", "<!DOCTYPE", "é"} {
		for _, at := range []int{-1, -2, math.MinInt, math.MinInt32, len(s), len(s) + 1, len(s) + 2, math.MaxInt32, math.MaxInt} {
			if got, to, code := Doctype(s, at); !alike(got, api.Decls{}) || to != at || code != api.ErrNone {
				t.Errorf("Doctype(%q, %d) = %+v, %d, %d", s, at, got, to, code)
			}
		}
	}
}

// doctypeIs asks for s behind and ahead of others.
func doctypeIs(t *testing.T, s string, want api.Decls) {
	t.Helper()
	for _, ahead := range []string{"", "x", "<!DOCTYPE", "\xff", "'"} {
		for _, behind := range []string{"", "<a/>", ">", "]>", " ", "'", "\xff", "<!DOCTYPE b>"} {
			at := len(ahead)
			if got, to, code := Doctype(ahead+s+behind, at); !alike(got, want) || to != at+len(s) || code != api.OK {
				t.Errorf("Doctype(%q, %d) = %+v, %d, %d", ahead+s+behind, at, got, to, code)
			}
		}
	}
}

// doctypeIsWrong asks for s behind others.
func doctypeIsWrong(t *testing.T, s string) {
	t.Helper()
	for _, ahead := range []string{"", "x", "<!DOCTYPE a>", "\xff"} {
		at := len(ahead)
		if got, to, code := Doctype(ahead+s, at); !alike(got, api.Decls{}) || to != at || code != api.ErrSyntax {
			t.Errorf("Doctype(%q, %d) = %+v, %d, %d", ahead+s, at, got, to, code)
		}
	}
}

// Promise 11.3: the name, what is external, and the ends.
func TestHead(t *testing.T) {
	for s, name := range map[string]string{
		"<!DOCTYPE a>": "a", "<!DOCTYPE \t\r\na\n>": "a", "<!DOCTYPE a:b>": "a:b", "<!DOCTYPE é.-1:_>": "é.-1:_", "<!DOCTYPE SYSTEM>": "SYSTEM", "<!DOCTYPE PUBLIC SYSTEM 'x'>": "PUBLIC", "<!DOCTYPE \uFFFD>": "\uFFFD", "<!DOCTYPE xml>": "xml",
		"<!DOCTYPE a SYSTEM ''>": "a", "<!DOCTYPE a SYSTEM \"'><&%\">": "a", "<!DOCTYPE a\nSYSTEM\r\n'\"' >": "a", "<!DOCTYPE a PUBLIC '' \"\">": "a", "<!DOCTYPE a PUBLIC \"-//é^\" '\xff'\t>": "a",
		"<!DOCTYPE a[]>": "a", "<!DOCTYPE a []>": "a", "<!DOCTYPE a[ ]>": "a", "<!DOCTYPE a[] \n>": "a", "<!DOCTYPE a SYSTEM 'x'[]>": "a", "<!DOCTYPE a PUBLIC 'x' 'y'\t[\r\n]\t>": "a",
	} {
		doctypeIs(t, s, api.Decls{Name: name})
	}
	for _, s := range []string{
		"<!DOCTYPE", "<!DOCTYPE ", "<!DOCTYPE>", "<!DOCTYPE >", "<!DOCTYPE[]>", "<!DOCTYPE []>", "<!DOCTYPEa>", "<!DOCTYPEa a>", "<!DOCTYPE\u00A0a>", "<!DOCTYPE a", "<!DOCTYPE a ", "<!DOCTYPE a b>", "<!DOCTYPE a/>", "<!DOCTYPE a<", "<!DOCTYPE a'x'>", "<!DOCTYPE a 'x'>", "<!DOCTYPE 'a'>", "<!DOCTYPE (a)>", "<!DOCTYPE %a;>", "<!DOCTYPE <a>>",
		"<!DOCTYPE 1>", "<!DOCTYPE -a>", "<!DOCTYPE :>", "<!DOCTYPE a:>", "<!DOCTYPE :a>", "<!DOCTYPE a:b:c>", "<!DOCTYPE a::b>", "<!DOCTYPE a:1>", "<!DOCTYPE \u0300>", "<!DOCTYPE a\xff>", "<!DOCTYPE \xff>", "<!DOCTYPE a\u00D7>",
		"<!DOCTYPE a SYSTEM>", "<!DOCTYPE a SYSTEM >", "<!DOCTYPE a SYSTEM'x'>", "<!DOCTYPE a SYSTEM x>", "<!DOCTYPE a SYSTEM 'x>", "<!DOCTYPE a SYSTEM \"x'>", "<!DOCTYPE aSYSTEM 'x'>", "<!DOCTYPE a system 'x'>", "<!DOCTYPE a SYSTEM 'x' 'y'>", "<!DOCTYPE a SYSTEM 'x' y>", "<!DOCTYPE a SYSTEM 'x''y'>", "<!DOCTYPE a SYSTEM 'x' SYSTEM 'y'>", "<!DOCTYPE a SYSTEM 'x' NDATA n>",
		"<!DOCTYPE a PUBLIC>", "<!DOCTYPE a PUBLIC 'x'>", "<!DOCTYPE a PUBLIC 'x' >", "<!DOCTYPE a PUBLIC'x' 'y'>", "<!DOCTYPE a PUBLIC 'x''y'>", "<!DOCTYPE a PUBLIC 'x' y>", "<!DOCTYPE a PUBLIC 'x' 'y>", "<!DOCTYPE a PUBLIC 'x' 'y' 'z'>", "<!DOCTYPE a Public 'x' 'y'>",
		"<!DOCTYPE a [", "<!DOCTYPE a []", "<!DOCTYPE a [] ", "<!DOCTYPE a []]>", "<!DOCTYPE a []]", "<!DOCTYPE a [[]]>", "<!DOCTYPE a [>", "<!DOCTYPE a ]>", "<!DOCTYPE a [] []>", "<!DOCTYPE a [] SYSTEM 'x'>", "<!DOCTYPE a []b>",
	} {
		doctypeIsWrong(t, s)
	}
}

// Promise 11.3: what a subset may hold, and that it may hold nothing else.
func TestSubset(t *testing.T) {
	for _, s := range []string{
		"", " \t\r\n", "<!---->", "<!-- ]> <a> %b; -->", "<?a?>", "<?a ]>%b;?>", "<!----><?a?> <!-- --> <?b c?>\n",
		"<!ELEMENT >", "<!ELEMENT a EMPTY>", "<!ELEMENT a\n(b,(c|d)*)+>", "<!ELEMENT ]>", "<!ELEMENT a ']>' \"<\">", "<!ELEMENT a '\"' \"'\">", "<!ELEMENT a'><'>", "<!ELEMENT \xff[>", "<!ELEMENT %b;>", "<!ELEMENT a (#PCDATA)--!?&>",
		"<!NOTATION >", "<!NOTATION n SYSTEM 'u'>", "<!NOTATION n PUBLIC '<>]'>", "<!NOTATION n%>", "<!ELEMENT a b><!NOTATION c d><!ELEMENT e f>",
	} {
		doctypeIs(t, "<!DOCTYPE a ["+s+"]>", api.Decls{Name: "a"})
	}
	for _, s := range []string{
		"a", ">", "<", "<a/>", "</a>", "&a;", "&#65;", "'x'", "%", "%a;", " %a; ", "<!ELEMENT a b>%a;", "<!>", "<!->", "<![CDATA[]]>", "<![INCLUDE[]]>", "<![%a;[]]>", "<!DOCTYPE b>", "<!DOCTYPE b []>", "\xff", "\u00A0", "\x00",
		"<!--", "<!-->", "<!-- -- -->", "<!--a--->", "<?", "<??>", "<?a", "<?a>", "<?xml?>", "<?xml version='1.0'?>", "<?XML ?>", "<?a:b?>", "<?1?>",
		"<!ELEMENT", "<!ELEMENT>", "<!ELEMENTa>", "<!ELEMENT'>'>", "<!ELEMENT a", "<!ELEMENT a ", "<!ELEMENT a <>", "<!ELEMENT a '>", "<!ELEMENT a \">", "<!ELEMENT a '\">", "<!ELEMENT a 'b' '>", "<!ELEMENT a b<!-- -->>", "<!element a b>", "<!ELEMENTS a>", "<! ELEMENT a>",
		"<!NOTATION", "<!NOTATION>", "<!NOTATIONn>", "<!NOTATION n <", "<!NOTATION n '>", "<!notation n>", "<!NOTATION n '<>", "<!COMMENT a>", "<!SGML 'x'>",
	} {
		doctypeIsWrong(t, "<!DOCTYPE a ["+s+"]>")
		doctypeIsWrong(t, "<!DOCTYPE a [<!ENTITY e 'x'><!ATTLIST a b ID 'c'> "+s+"]>")
	}
}

// Promise 11.3: entities.
func TestEntities(t *testing.T) {
	type list = []api.Entity
	for s, want := range map[string]list{
		"<!ENTITY e ''>": {{Name: "e"}}, "<!ENTITY e 'x'>": {{Name: "e", Value: "x"}}, "<!ENTITY\te\r\n\"x\"\n>": {{Name: "e", Value: "x"}}, "<!ENTITY é.-1 '<a b=\">]\"/>'>": {{Name: "é.-1", Value: "<a b=\">]\"/>"}},
		"<!ENTITY e '&#65;&f;&#38;#60;&#37;\xff'>": {{Name: "e", Value: "A&f;&#60;%\xff"}}, "<!ENTITY \uFFFD '\uFFFD'>": {{Name: "\uFFFD", Value: "\uFFFD"}}, "<!ENTITY SYSTEM 'x'>": {{Name: "SYSTEM", Value: "x"}}, "<!ENTITY lt '&#38;#60;'>": {{Name: "lt", Value: "&#60;"}},
		"<!ENTITY e SYSTEM ''>": {{Name: "e", External: true}}, "<!ENTITY e SYSTEM '%&>'>": {{Name: "e", External: true}}, "<!ENTITY e\nSYSTEM\n\"u\"\n>": {{Name: "e", External: true}}, "<!ENTITY e PUBLIC 'p' \"u\">": {{Name: "e", External: true}},
		"<!ENTITY e SYSTEM 'u' NDATA n>": {{Name: "e", External: true}}, "<!ENTITY e PUBLIC '&' '%'\tNDATA\r\nn.1\n>": {{Name: "e", External: true}}, "<!ENTITY NDATA SYSTEM 'u' NDATA NDATA>": {{Name: "NDATA", External: true}},
		// Of entities with one Name the first stays.
		"<!ENTITY e 'x'><!ENTITY e 'y'>": {{Name: "e", Value: "x"}}, "<!ENTITY e 'x'><!ENTITY f 'y'><!ENTITY e SYSTEM 'z'><!ENTITY E 'x'>": {{Name: "e", Value: "x"}, {Name: "f", Value: "y"}, {Name: "E", Value: "x"}},
		"<!ENTITY e SYSTEM 'x'> <!ENTITY e 'y'><!-- --><!ENTITY d ''><!ENTITY d 'x'>": {{Name: "e", External: true}, {Name: "d"}},
	} {
		doctypeIs(t, "<!DOCTYPE a ["+s+"]>", api.Decls{Name: "a", Entities: want})
	}
	for _, s := range []string{
		"<!ENTITY>", "<!ENTITY >", "<!ENTITY e>", "<!ENTITY e >", "<!ENTITYe 'x'>", "<!ENTITY e'x'>", "<!ENTITY 'x'>", "<!ENTITY e x>", "<!ENTITY e 'x'", "<!ENTITY e 'x' ", "<!ENTITY e 'x>", "<!ENTITY e \"x'>", "<!ENTITY e 'x''y'>", "<!ENTITY e 'x' 'y'>", "<!ENTITY e 'x'y>", "<!ENTITY e ('x')>", "<!entity e 'x'>", "<!ENTITY e=\"x\">", "<!ENTITY e 'x'/>", "<!ENTITY e 'x']>",
		"<!ENTITY 1 'x'>", "<!ENTITY e:f 'x'>", "<!ENTITY : 'x'>", "<!ENTITY e: 'x'>", "<!ENTITY :e 'x'>", "<!ENTITY e\xff 'x'>", "<!ENTITY \u0300 'x'>", "<!ENTITY &e; 'x'>",
		"<!ENTITY % e 'x'>", "<!ENTITY %e 'x'>", "<!ENTITY % e SYSTEM 'x'>", "<!ENTITY e %f;>", "<!ENTITY e '%'>", "<!ENTITY e '%f;'>", "<!ENTITY e '&'>", "<!ENTITY e '&f'>", "<!ENTITY e '&f:g;'>", "<!ENTITY e '& f;'>", "<!ENTITY e '&#0;'>", "<!ENTITY e '&#x;'>", "<!ENTITY e '&#65'>", "<!ENTITY e '&#xFFFE;'>",
		"<!ENTITY e SYSTEM>", "<!ENTITY e SYSTEM'u'>", "<!ENTITY ePUBLIC 'p' 'u'>", "<!ENTITY e SYSTEM u>", "<!ENTITY e SYSTEM 'u>", "<!ENTITY e SYSTEM 'u' 'v'>", "<!ENTITY e system 'u'>", "<!ENTITY e PUBLIC 'p'>", "<!ENTITY e PUBLIC 'p''u'>", "<!ENTITY e PUBLIC 'p' 'u' 'v'>", "<!ENTITY e 'x' SYSTEM 'u'>",
		"<!ENTITY e 'x' NDATA n>", "<!ENTITY e NDATA n>", "<!ENTITY e SYSTEM 'u'NDATA n>", "<!ENTITY e SYSTEM 'u' NDATAn>", "<!ENTITY e SYSTEM 'u' NDATA>", "<!ENTITY e SYSTEM 'u' NDATA >", "<!ENTITY e SYSTEM 'u' NDATA 'n'>", "<!ENTITY e SYSTEM 'u' NDATA n:m>", "<!ENTITY e SYSTEM 'u' NDATA 1>", "<!ENTITY e SYSTEM 'u' NDATA n\xff>", "<!ENTITY e SYSTEM 'u' NDATA n m>", "<!ENTITY e SYSTEM 'u' ndata n>", "<!ENTITY e SYSTEM 'u' NDATA n NDATA m>", "<!ENTITY e SYSTEM NDATA n>",
		"<!ENTITY e 'x'><!ENTITY e '%'>", "<!ENTITY e 'x'><!ENTITY e>",
	} {
		doctypeIsWrong(t, "<!DOCTYPE a ["+s+"]>")
	}
}

// Promise 11.3: each type with each default, and few spaces and many.
func TestAttsOfEach(t *testing.T) {
	kinds := map[string]int{"CDATA": api.ACData}
	for _, k := range []string{
		"ID", "IDREF", "IDREFS", "ENTITY", "ENTITIES", "NMTOKEN", "NMTOKENS", "(a)", "( a\n)", "(a|b)", "(a |b| c\t|\r\nd)", "(1|-|.|:|\u0300|a:b:c|\uFFFD)", "(a|a)", "(CDATA)",
		"NOTATION (n)", "NOTATION\n( n |m )", "NOTATION (-)",
	} {
		kinds[k] = api.ATok
	}
	for k, number := range kinds {
		for s, want := range map[string]api.Att{
			"#REQUIRED": {}, "#IMPLIED": {}, "''": {Has: true}, "\"\"": {Has: true}, "'v'": {Has: true, Value: "v"}, "\">'&%]\xff\n \"": {Has: true, Value: ">'&%]\xff\n "},
			"#FIXED 'v'": {Has: true, Value: "v"}, "#FIXED\r\n\"\"": {Has: true}, "'&#60;&lt;&e;'": {Has: true, Value: "&#60;&lt;&e;"}, "'#FIXED'": {Has: true, Value: "#FIXED"},
		} {
			want.Elem, want.Name, want.Type = "e:f", "g:h", number
			for _, gap := range []string{" ", "\t\r\n "} {
				for _, end := range []string{"", "\n"} {
					doctypeIs(t, "<!DOCTYPE a [<!ATTLIST"+gap+"e:f"+gap+"g:h"+gap+k+gap+s+end+">]>", api.Decls{Name: "a", Atts: []api.Att{want}})
				}
			}
		}
	}
}

// Promise 11.3: rows of attributes, of which with one Elem and Name the first stays.
func TestAtts(t *testing.T) {
	type list = []api.Att
	one := api.Att{Elem: "a", Name: "b", Type: api.ATok}
	for s, want := range map[string]list{
		"<!ATTLIST a>": nil, "<!ATTLIST a >": nil, "<!ATTLIST a><!ATTLIST a\n>": nil, "<!ATTLIST a b ID #IMPLIED>": {one},
		"<!ATTLIST a b ID #IMPLIED b CDATA 'c'>":                                             {one},
		"<!ATTLIST a b ID #IMPLIED><!ATTLIST a b CDATA 'c'>":                                 {one},
		"<!ATTLIST a b ID #IMPLIED><!ATTLIST b b ID #IMPLIED b ID 'c'>":                      {one, {Elem: "b", Name: "b", Type: api.ATok}},
		"<!ATTLIST a b ID #IMPLIED B ID #IMPLIED>":                                           {one, {Elem: "a", Name: "B", Type: api.ATok}},
		"<!ATTLIST a:b c CDATA '1'><!ATTLIST a b:c CDATA '2' c CDATA '3'>":                   {{Elem: "a:b", Name: "c", Type: api.ACData, Has: true, Value: "1"}, {Elem: "a", Name: "b:c", Type: api.ACData, Has: true, Value: "2"}, {Elem: "a", Name: "c", Type: api.ACData, Has: true, Value: "3"}},
		"<!ATTLIST z y ID #IMPLIED x ID #IMPLIED><!ATTLIST w v ID #IMPLIED>":                 {{Elem: "z", Name: "y", Type: api.ATok}, {Elem: "z", Name: "x", Type: api.ATok}, {Elem: "w", Name: "v", Type: api.ATok}},
		"<!ATTLIST z y ID 'a'><!ATTLIST a b ID #IMPLIED><!ATTLIST z b ID #IMPLIED y ID 'b'>": {{Elem: "z", Name: "y", Type: api.ATok, Has: true, Value: "a"}, one, {Elem: "z", Name: "b", Type: api.ATok}},
		"<!ATTLIST xmlns xmlns CDATA 'u' xmlns:p CDATA 'v'>":                                 {{Elem: "xmlns", Name: "xmlns", Type: api.ACData, Has: true, Value: "u"}, {Elem: "xmlns", Name: "xmlns:p", Type: api.ACData, Has: true, Value: "v"}},
		"<!ATTLIST CDATA CDATA CDATA 'CDATA' NOTATION NOTATION (NOTATION) ''>":               {{Elem: "CDATA", Name: "CDATA", Type: api.ACData, Has: true, Value: "CDATA"}, {Elem: "CDATA", Name: "NOTATION", Type: api.ATok, Has: true}},
		"<!ATTLIST \uFFFD \uFFFD ID '\uFFFD'>":                                               {{Elem: "\uFFFD", Name: "\uFFFD", Type: api.ATok, Has: true, Value: "\uFFFD"}},
	} {
		doctypeIs(t, "<!DOCTYPE a ["+s+"]>", api.Decls{Name: "a", Atts: want})
	}
	for _, s := range []string{
		"<!ATTLIST>", "<!ATTLIST >", "<!ATTLISTa>", "<!ATTLIST a", "<!ATTLIST a b>", "<!ATTLIST a b >", "<!ATTLIST a b ID>", "<!ATTLIST a b ID >", "<!ATTLIST a b 'c'>", "<!ATTLIST a b #IMPLIED>", "<!ATTLIST a ID #IMPLIED>", "<!ATTLIST a b ID #IMPLIED", "<!ATTLIST a b ID 'c>", "<!attlist a>", "<!ATTLIST 'a'>", "<!ATTLIST (a|b) c ID #IMPLIED>", "<!ATTLIST %a; b ID #IMPLIED>", "<!ATTLIST a %b;>", "<!ATTLIST a b %c; #IMPLIED>",
		"<!ATTLIST 1>", "<!ATTLIST a:>", "<!ATTLIST a:b:c>", "<!ATTLIST a\xff>", "<!ATTLIST a 1 ID #IMPLIED>", "<!ATTLIST a :b ID #IMPLIED>", "<!ATTLIST a b:c:d ID #IMPLIED>", "<!ATTLIST a b\xff ID #IMPLIED>", "<!ATTLIST a \u0300 ID #IMPLIED>",
		"<!ATTLIST a b id #IMPLIED>", "<!ATTLIST a b IDS #IMPLIED>", "<!ATTLIST a b IDREFSS #IMPLIED>", "<!ATTLIST a b ENTITYS #IMPLIED>", "<!ATTLIST a b ENTITIE #IMPLIED>", "<!ATTLIST a b NMTOKE #IMPLIED>", "<!ATTLIST a b CDAT #IMPLIED>", "<!ATTLIST a b CDATA: #IMPLIED>", "<!ATTLIST a b CDATA\xff #IMPLIED>", "<!ATTLIST a b CDATA ID #IMPLIED>", "<!ATTLIST a b 'CDATA' #IMPLIED>", "<!ATTLIST a b STRING #IMPLIED>", "<!ATTLIST a bID #IMPLIED>",
		"<!ATTLIST a b ID#IMPLIED>", "<!ATTLIST a b ID'c'>", "<!ATTLIST a b (c)'d'>", "<!ATTLIST a b ID IMPLIED>", "<!ATTLIST a b ID #implied>", "<!ATTLIST a b ID #IMPLIEDx>", "<!ATTLIST a b ID # IMPLIED>", "<!ATTLIST a b ID #REQUIRE>", "<!ATTLIST a b ID #REQUIRED 'c'>", "<!ATTLIST a b ID #IMPLIED #REQUIRED>", "<!ATTLIST a b ID #FIXED>", "<!ATTLIST a b ID #FIXED'c'>", "<!ATTLIST a b ID #FIXED >", "<!ATTLIST a b ID #FIXED #IMPLIED>", "<!ATTLIST a b ID #FIXED c>", "<!ATTLIST a b ID c>", "<!ATTLIST a b ID 'c' 'd'>", "<!ATTLIST a b ID '<'>", "<!ATTLIST a b ID \"c<d\">", "<!ATTLIST a b ID #FIXED '<'>", "<!ATTLIST a b ID 'c' #FIXED>",
		"<!ATTLIST a b () 'c'>", "<!ATTLIST a b ( ) 'c'>", "<!ATTLIST a b (|) 'c'>", "<!ATTLIST a b (c|) 'c'>", "<!ATTLIST a b (|c) 'c'>", "<!ATTLIST a b (c||d) 'c'>", "<!ATTLIST a b (c d) 'c'>", "<!ATTLIST a b (c,d) 'c'>", "<!ATTLIST a b (c 'c'>", "<!ATTLIST a b c) 'c'>", "<!ATTLIST a b ((c)) 'c'>", "<!ATTLIST a b ('c') 'c'>", "<!ATTLIST a b (c\xff) 'c'>", "<!ATTLIST a b (\xff) 'c'>", "<!ATTLIST a b (c|\xff|d) 'c'>", "<!ATTLIST a b (c\u00D7) 'c'>", "<!ATTLIST a b (c)(d) 'c'>", "<!ATTLIST a b(c) 'c'>", "<!ATTLIST a b [c] 'c'>", "<!ATTLIST a b (c)? 'c'>",
		"<!ATTLIST a b NOTATION 'c'>", "<!ATTLIST a b NOTATION(c) 'c'>", "<!ATTLIST a b NOTATION () 'c'>", "<!ATTLIST a b NOTATION c 'c'>", "<!ATTLIST a b NOTATION (c)'c'>", "<!ATTLIST a b NOTATION (c\xff) 'c'>", "<!ATTLIST a b NOTATION NOTATION (c) 'c'>", "<!ATTLIST a b ID (c) 'c'>", "<!ATTLIST a b notation (c) 'c'>",
		"<!ATTLIST a b ID 'c'd ID 'e'>", "<!ATTLIST a b ID 'c' d>", "<!ATTLIST a b ID #IMPLIEDd ID 'e'>", "<!ATTLIST a b ID 'c',d ID 'e'>", "<!ATTLIST a b ID 'c'><!ATTLIST a b ID '<'>", "<!ATTLIST a b ID 'c'><!ATTLIST a b>", "<!ATTLIST a b ID 'c' <!-- --> d ID 'e'>", "<!ATTLIST a b ID 'c'/>",
	} {
		doctypeIsWrong(t, "<!DOCTYPE a ["+s+"]>")
	}
}

// Promise 11.3: many names, the first of each again and again.
func TestFirstOfMany(t *testing.T) {
	const many = 3000
	var b strings.Builder
	want := api.Decls{Name: "a"}
	b.WriteString("<!DOCTYPE a [")
	for k := range many {
		n := strconv.Itoa(k * 7919 % many)
		again := strconv.Itoa(k / 2 * 7919 % many)
		b.WriteString("<!ENTITY e" + n + " '" + n + "'><!ENTITY e" + again + " 'again'>")
		b.WriteString("<!ATTLIST a" + n + " b CDATA '" + n + "'><!ATTLIST a" + again + " b ID 'again'>")
		want.Entities = append(want.Entities, api.Entity{Name: "e" + n, Value: n})
		want.Atts = append(want.Atts, api.Att{Elem: "a" + n, Name: "b", Type: api.ACData, Has: true, Value: n})
	}
	b.WriteString("]>")
	if got, to, code := Doctype(b.String(), 0); !alike(got, want) || to != b.Len() || code != api.OK {
		t.Errorf("%d and %d, %d, %d", len(got.Entities), len(got.Atts), to, code)
	}
}

// Promise 11.3: a character at the beginning of a name or word and within one, wherever one stands: each below 0x3200, and around the ends of all ranges of 1.1; few of those far within the two widest ranges.
func TestCharactersOfNames(t *testing.T) {
	for c := rune(1); c <= utf8.MaxRune; c++ {
		if !utf8.ValidRune(c) || c == 0xFFFD || c > 0x3200 && c < 0xD700 && c%0x100 > 1 || c > 0x10100 && c%0x1000 > 1 && c%0x1000 < 0xFFE {
			continue
		}
		s := string(c)
		for _, name := range []string{s, "a" + s + "b"} {
			for _, text := range []string{
				"<!DOCTYPE " + name + ">",
				"<!DOCTYPE a [<!ENTITY " + name + " 'x'>]>",
				"<!DOCTYPE a [<!ENTITY e '&" + name + ";'>]>",
				"<!DOCTYPE a [<!ENTITY e SYSTEM 'x' NDATA " + name + ">]>",
				"<!DOCTYPE a [<!ATTLIST " + name + ">]>",
				"<!DOCTYPE a [<!ATTLIST a " + name + " ID 'x'>]>",
				"<!DOCTYPE a [<!ATTLIST a b (" + name + ") 'x'>]>",
				"<!DOCTYPE a [<!ATTLIST a b NOTATION (x|" + name + ") 'x'>]>",
			} {
				checkDoctype(t, text, 0)
			}
		}
		checkDoctype(t, "<!DOCTYPE"+s+"a"+s+"["+s+"]"+s+">", 0)
		checkDoctype(t, "<!DOCTYPE a ["+s+"<!ATTLIST"+s+"a"+s+"b"+s+"("+s+"c"+s+")"+s+"'d'"+s+">]>", 0)
		checkXML(t, "<?xml"+s+"version"+s+"="+s+"'1.0'"+s+"?>")
		checkXML(t, "<?xml version='1."+s+"'?>")
	}
}

// Promise 11.4: entities and defaults, and no more: what else is declared leaves no trace.
func TestNoMore(t *testing.T) {
	const entity, atts = "<!ENTITY e 'x'>", "<!ATTLIST a b CDATA 'c'>"
	want := api.Decls{Name: "a", Entities: []api.Entity{{Name: "e", Value: "x"}}, Atts: []api.Att{{Elem: "a", Name: "b", Type: api.ACData, Has: true, Value: "c"}}}
	for _, other := range []string{"", " ", "<!-- <!ENTITY f 'y'> -->", "<?p <!ATTLIST a d CDATA 'e'>?>", "<!ELEMENT a (b)>", "<!ELEMENT a '<!ENTITY f \"y\">'>", "<!NOTATION n SYSTEM '<!ATTLIST a d CDATA \"e\">'>"} {
		for _, outside := range []string{"", " SYSTEM '<!ENTITY f \"y\">'", " PUBLIC 'p' \"u\""} {
			doctypeIs(t, "<!DOCTYPE a"+outside+" ["+other+entity+other+atts+other+"]>", want)
		}
	}
	if n := reflect.TypeFor[api.Decls]().NumField(); n != 3 {
		t.Errorf("Decls have %d parts", n)
	}
}

// Rule 1 of DOC.md: long ones end, in time that grows as they do.
func TestLong(t *testing.T) {
	const long = 1 << 18
	many := func(s string) string { return strings.Repeat(s, long) }
	for _, x := range []struct {
		s              string
		entities, atts int
		code           int
	}{
		{"<!DOCTYPE " + many("a") + ">", 0, 0, api.OK},
		{"<!DOCTYPE" + many(" ") + "a" + many(" ") + "[" + many("\n") + "]" + many("\r") + ">", 0, 0, api.OK},
		{"<!DOCTYPE a SYSTEM '" + many("\"") + "'>", 0, 0, api.OK},
		{"<!DOCTYPE a SYSTEM '" + many("\""), 0, 0, api.ErrSyntax},
		{"<!DOCTYPE a [" + many("<!---->") + "]>", 0, 0, api.OK},
		{"<!DOCTYPE a [" + many("<?a?>"), 0, 0, api.ErrSyntax},
		{"<!DOCTYPE a [" + many("<!ENTITY e ''>") + "]>", 1, 0, api.OK},
		{"<!DOCTYPE a [" + many("<!ENTITY e ''"), 0, 0, api.ErrSyntax},
		{"<!DOCTYPE a [<!ENTITY e '" + many("&#65;") + "'>]>", 1, 0, api.OK},
		{"<!DOCTYPE a [<!ENTITY e '" + many("&f;") + "'>]>", 1, 0, api.OK},
		{"<!DOCTYPE a [<!ENTITY e '" + many("&#") + "'>]>", 0, 0, api.ErrSyntax},
		{"<!DOCTYPE a [" + many("<!ATTLIST a>") + "]>", 0, 0, api.OK},
		{"<!DOCTYPE a [" + many("<!ATTLIST a b ID 'c'>") + "]>", 0, 1, api.OK},
		{"<!DOCTYPE a [<!ATTLIST a" + many(" b ID 'c'") + ">]>", 0, 1, api.OK},
		{"<!DOCTYPE a [<!ATTLIST a b (" + many("a|") + "a) 'c'>]>", 0, 1, api.OK},
		{"<!DOCTYPE a [<!ATTLIST a b (" + many("a|") + ") 'c'>]>", 0, 0, api.ErrSyntax},
		{"<!DOCTYPE a [<!ATTLIST a b ID '" + many("<") + "'>]>", 0, 0, api.ErrSyntax},
		{"<!DOCTYPE a [<!ELEMENT " + many("''\"\"") + ">]>", 0, 0, api.OK},
		{"<!DOCTYPE a [<!ELEMENT " + many("a") + ">]>", 0, 0, api.OK},
		{"<!DOCTYPE a [" + many("<!ELEMENT >") + "]>", 0, 0, api.OK},
		{"<!DOCTYPE a [<!ELEMENT " + many("''") + "'>]>", 0, 0, api.ErrSyntax},
		{"<!DOCTYPE a " + many("["), 0, 0, api.ErrSyntax},
		{many("<!DOCTYPE "), 0, 0, api.ErrSyntax},
	} {
		got, to, code := Doctype(x.s, 0)
		if len(got.Entities) != x.entities || len(got.Atts) != x.atts || code != x.code || code == api.OK && to != len(x.s) {
			t.Errorf("Doctype(%.40q..): %d and %d, %d, %d", x.s, len(got.Entities), len(got.Atts), to, code)
		}
	}
	for s, want := range map[string]int{"<?xml version='1." + many("0") + "'?>": api.OK, "<?xml version='1." + many("0") + "x'?>": api.ErrSyntax, "<?xml" + many(" ") + "?>": api.ErrSyntax} {
		if to, code := XML(s); code != want || code == api.OK && to != len(s) {
			t.Errorf("XML(%.40q..) = %d, %d", s, to, code)
		}
	}
}

// Rule 1 of DOC.md: many attributes of an element whose name is long take no longer than as many bytes of others.
func TestLongElement(t *testing.T) {
	const many = 1 << 16
	elem := strings.Repeat("e", 1<<20)
	var b strings.Builder
	b.WriteString("<!DOCTYPE a [<!ATTLIST " + elem)
	for k := range many {
		b.WriteString(" b" + strconv.Itoa(k) + " ID ''")
	}
	b.WriteString(">]>")
	got, to, code := Doctype(b.String(), 0)
	if len(got.Atts) != many || got.Atts[0].Elem != elem || to != b.Len() || code != api.OK {
		t.Fatalf("%d, %d, %d", len(got.Atts), to, code)
	}
	for k, a := range got.Atts {
		if a.Elem != got.Atts[0].Elem || a.Name != "b"+strconv.Itoa(k) {
			t.Fatalf("the %d-th is %.40q of %.40q", k, a.Name, a.Elem)
		}
	}
}

// fresh is s in bytes that nobody else has.
func fresh(s string) string {
	b := []byte(s)
	return unsafe.String(unsafe.SliceData(b), len(b))
}

// spoil changes all bytes of s.
func spoil(s string) {
	b := unsafe.Slice(unsafe.StringData(s), len(s))
	for k := range b {
		b[k] ^= 0x55
	}
}

// Rule 2 of DOC.md: what is handed in is not changed, and what is answered does not change with it.
func TestNothingKept(t *testing.T) {
	for _, s := range samples() {
		at := max(strings.Index(s, "<!DOCTYPE"), 0)
		want, _, _ := Doctype(s, at)
		given := fresh(s)
		got, _, _ := Doctype(given, at)
		XML(given)
		if given != s {
			t.Fatalf("%q was changed", s)
		}
		spoil(given)
		if !alike(got, want) {
			t.Errorf("%+v became %+v", want, got)
		}
	}
	for _, s := range []string{"'abc'", "abc", "a&#65;b", "&#65;"} {
		given := fresh(s)
		text, _, _ := Literal(given, 0)
		entity, _ := Entity(given)
		if given != s {
			t.Fatalf("%q was changed", s)
		}
		spoil(given)
		wantText, _, _ := Literal(s, 0)
		wantEntity, _ := Entity(s)
		if text != wantText || entity != wantEntity {
			t.Errorf("%q became %q, %q", s, text, entity)
		}
	}
}

// Rule 2 of DOC.md: what is answered is the caller's own, also for the next call.
func TestAnswersAreTheCallersOwn(t *testing.T) {
	for _, s := range samples() {
		at := max(strings.Index(s, "<!DOCTYPE"), 0)
		got, _, _ := Doctype(s, at)
		spoil(got.Name)
		for _, e := range got.Entities {
			spoil(e.Name)
			spoil(e.Value)
		}
		for _, a := range got.Atts {
			spoil(a.Name)
			spoil(a.Value)
		}
		clear(got.Entities[:cap(got.Entities)])
		clear(got.Atts[:cap(got.Atts)])
		checkDoctype(t, s, at)
	}
}

// The document's examples.
func TestExamples(t *testing.T) {
	if to, code := XML("<a/>"); to != 0 || code != api.OK {
		t.Errorf("%d, %d", to, code)
	}
}

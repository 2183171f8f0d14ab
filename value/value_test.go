package value

import (
	"math"
	"regexp"
	"runtime/debug"
	"slices"
	"strconv"
	"strings"
	"testing"
	"unsafe"

	"bracken/api"
	"bracken/refs"
	"bracken/token"
)

// What a name begins with, and what it goes on with, by 1.1, but 0xFFFD: a regexp takes bytes that are no UTF-8 for that one.
const (
	starts = `A-Z_a-z\x{C0}-\x{D6}\x{D8}-\x{F6}\x{F8}-\x{2FF}\x{370}-\x{37D}\x{37F}-\x{1FFF}\x{200C}\x{200D}\x{2070}-\x{218F}\x{2C00}-\x{2FEF}\x{3001}-\x{D7FF}\x{F900}-\x{FDCF}\x{FDF0}-\x{FFFC}\x{10000}-\x{EFFFF}`
	ncname = `[` + starts + `][` + starts + `\-.0-9\x{B7}\x{300}-\x{36F}\x{203F}\x{2040}]*`
)

var (
	charForm = regexp.MustCompile(`^&#(?:([0-9]+)|x([0-9A-Fa-f]+));`)
	nameForm = regexp.MustCompile(`^&(` + ncname + `);`)
)

// five are the names that are given, each with its character.
func five() map[string]string {
	return map[string]string{"lt": "\x3C", "gt": "\x3E", "amp": "\x26", "apos": "\x27", "quot": "\x22"}
}

func isChar(n int64) bool {
	return n == 9 || n == 10 || n == 13 || n >= 0x20 && n <= 0xD7FF || n >= 0xE000 && n <= 0xFFFD || n >= 0x10000 && n <= 0x10FFFF
}

func modelChar(m []string) (string, int) {
	digits, base := m[1], 10
	if digits == "" {
		digits, base = m[2], 16
	}
	n, err := strconv.ParseInt(digits, base, 64)
	if err != nil || !isChar(n) {
		return "", api.ErrSyntax
	}
	return string(rune(n)), api.OK
}

// model is 13.1 word for word, byte by byte: r is one of its own, and a text within a text is a call within a call.
type model struct {
	r    *refs.Refs
	most int
}

func (m model) text(s string, inner bool) (string, int) {
	out := ""
	for s != "" {
		piece, taken, code := s[:1], 1, api.OK
		switch {
		case strings.Contains(" \t\r\n", piece):
			piece = "\x20"
		case piece == "<" && inner:
			code = api.ErrSyntax
		case piece == "&":
			piece, taken, code = m.reference(s)
		}
		if code != api.OK {
			return "", code
		}
		out += piece
		s = s[taken:]
	}
	return out, api.OK
}

func (m model) reference(s string) (string, int, int) {
	if l := charForm.FindStringSubmatch(s); l != nil {
		c, code := modelChar(l)
		return c, len(l[0]), code
	}
	l := nameForm.FindStringSubmatch(s)
	if l == nil {
		return "", 0, api.ErrSyntax
	}
	if c, is := five()[l[1]]; is {
		return c, len(l[0]), api.OK
	}
	text, code := m.r.Open(l[1], m.most)
	switch code {
	case api.OK:
	case api.ErrLimit:
		return "", 0, api.ErrLimit
	default:
		return "", 0, api.ErrSyntax
	}
	out, code := m.text(text, true)
	if code == api.OK {
		m.r.Close(l[1])
	}
	return out, len(l[0]), code
}

func modelNorm(s string) string {
	words := slices.DeleteFunc(strings.Split(s, " "), func(w string) bool { return w == "" })
	return strings.Join(words, " ")
}

func (m model) read(raw string, kind int) (string, int) {
	s, code := m.text(raw, false)
	if kind == api.ATok {
		s = modelNorm(s)
	}
	return s, code
}

// state tells what of r can be asked for: which of these names are open, what was spent, how many are open.
func state(r *refs.Refs, l []api.Entity) string {
	out := strconv.Itoa(r.Spent()) + " spent, " + strconv.Itoa(r.Depth()) + " open:"
	for _, e := range l {
		if _, code := r.Open(e.Name, math.MinInt); code == api.ErrArg {
			out += " " + e.Name
		}
	}
	return out
}

// check holds Read of raw, with what the names in open have begun ahead, against the model.
func check(t *testing.T, l []api.Entity, open []string, raw string, kind, most int) {
	t.Helper()
	d := api.Decls{Entities: l}
	r, m := refs.New(d), model{refs.New(d), most}
	for _, name := range open {
		r.Open(name, math.MaxInt)
		m.r.Open(name, math.MaxInt)
	}
	want, wantCode := m.read(raw, kind)
	got, code := Read(r, raw, kind, most)
	if got != want || code != wantCode {
		t.Fatalf("of %.200v, open %q: Read(%.50q, %d, %d) = %.50q, %d, not %.50q, %d", l, open, raw, kind, most, got, code, want, wantCode)
	}
	if a, b := state(r, l), state(m.r, l); a != b {
		t.Fatalf("of %.200v, open %q: behind Read(%.50q, %d, %d): %s, not %s", l, open, raw, kind, most, a, b)
	}
}

// rows calls do with start, and with it and all rows of at most n pieces behind it.
func rows(start string, n int, pieces []string, do func(string)) {
	do(start)
	if n == 0 {
		return
	}
	for _, p := range pieces {
		rows(start+p, n-1, pieces, do)
	}
}

// row is pieces of one byte, and others.
func row(letters string, others ...string) []string {
	return append(strings.Split(letters, ""), others...)
}

// entities are such as hold all that a text may hold.
func entities() []api.Entity {
	return []api.Entity{
		{Name: "e", Value: " x\n"},
		{Name: "n"},
		{Name: "d", Value: "&e;&#9;&e;"},
		{Name: "l", Value: "a<"},
		{Name: "c", Value: "&lt;&#60;&#x26;&amp;"},
		{Name: "g", Value: "&g;"},
		{Name: "w", Value: "b&"},
		{Name: "o", Value: "not this", External: true},
		{Name: "e", Value: "another"},
		{Name: "lt", Value: "no"},
		{Name: "quot", External: true},
	}
}

// Promise 13.1: all short rows of what a value may be written as, of both kinds, within several limits.
func TestReadOfAllShort(t *testing.T) {
	l := entities()
	pieces := row("\t\n\r <>'\"a;&#", "&#32;", "&#x9;", "&#0;", "&lt;", "&quot;", "&e;", "&n;", "&d;", "&l;", "&c;", "&g;", "&w;", "&o;", "&q;", "\xff", "\u00e9")
	rows("", 3, pieces, func(raw string) {
		for _, most := range []int{0, 3, 16, 1000} {
			check(t, l, nil, raw, api.ACData, most)
		}
		check(t, l, nil, raw, api.ATok, 1000)
		check(t, l, []string{"d"}, raw, api.ACData, 1000)
	})
}

// Promise 13.1: all short rows of the bytes that references are made of.
func TestReferencesOfAllShort(t *testing.T) {
	l := entities()
	for _, start := range []string{"", "&", "&#", "&#x"} {
		rows(start, 5, row("&#x1e;:"), func(raw string) {
			check(t, l, nil, raw, api.ACData, 1000)
		})
	}
}

// Promise 13.1: an entity's text is read likewise: all short rows as one.
func TestTextsOfAllShort(t *testing.T) {
	pieces := row("\t\n <>'a;&#", "&#32;", "&#60;", "&#1;", "&amp;", "&e;", "&v;", "&l;", "&o;", "\xff")
	rows("", 3, pieces, func(text string) {
		l := append(entities(), api.Entity{Name: "v", Value: text})
		for _, most := range []int{len(text) - 1, len(text), len(text) + 4, 1000} {
			check(t, l, nil, "<&v;>", api.ACData, most)
		}
		check(t, l, nil, " &v; &v; ", api.ATok, 1000)
	})
}

// Promise 13.1: each character stands for itself, but Spaces and what begins a reference.
func TestEachCharacter(t *testing.T) {
	var r refs.Refs
	for c := range rune(0x110000) {
		want, code := string(c), api.OK
		switch c {
		case 9, 10, 13, 32:
			want = "\x20"
		case '&':
			want, code = "", api.ErrSyntax
		}
		if s, got := Read(&r, string(c), api.ACData, 0); s != want || got != code {
			t.Fatalf("%U: %q, %d", c, s, got)
		}
	}
	for k := range 256 {
		s := "a" + string([]byte{byte(k), 'b'})
		want := s
		if strings.Contains("\t\n\r", s[1:2]) {
			want = "a b"
		}
		if got, code := Read(&r, s, api.ACData, 0); s[1] != '&' && (got != want || code != api.OK) {
			t.Fatalf("%q: %q, %d", s, got, code)
		}
	}
}

// Promise 13.1: the character of each number, as it is: no Space among them becomes a blank.
func TestEachNumber(t *testing.T) {
	var r refs.Refs
	for n := int64(0); n < 0x110100; n++ {
		want, code := "", api.ErrSyntax
		if isChar(n) {
			want, code = string(rune(n)), api.OK
		}
		if s, got := Read(&r, "&#"+strconv.FormatInt(n, 10)+";", api.ACData, 0); s != want || got != code {
			t.Fatalf("%d: %q, %d", n, s, got)
		}
		if s, got := Read(&r, "&#x"+strconv.FormatInt(n, 16)+";", api.ACData, 0); s != want || got != code {
			t.Fatalf("%x: %q, %d", n, s, got)
		}
	}
}

// Promise 13.1: what begins as a reference, and is none, is an error, in raw and in an entity's text.
func TestOtherAmpersands(t *testing.T) {
	for _, s := range []string{"&", "&;", "& ;", "&a", "&a ;", "& a;", "&a:b;", "&:a;", "&1;", "&-a;", "&a&b;", "&a\xff;", "&\xff;", "&a<;", "&#;", "&#x;", "&#X41;", "&#65", "&# 65;", "&#65 ;", "&#+65;", "&#-65;", "&#6_5;", "&#0x41;", "&#xG;", "&#0;", "&#1;", "&#xD800;", "&#xFFFE;", "&#x110000;", "&#4294967361;", "&#18446744073709551681;", "&#x10000000000000041;", "&LT;", "&Lt;", "&lt", "&lt ;", "&ltt;", "&#lt;", "&amp", "&quote;"} {
		l := []api.Entity{{Name: "a", Value: "1"}, {Name: "b", Value: "2"}, {Name: "a:b", Value: "3"}, {Name: "v", Value: "x" + s}, {Name: "", Value: "4"}, {Name: "1", Value: "5"}, {Name: "a ", Value: "6"}, {Name: "a\xff", Value: "7"}}
		for _, raw := range []string{s, "x" + s, s + "x", "&v;", "&a;" + s} {
			if got, code := Read(refs.New(api.Decls{Entities: l}), raw, api.ACData, 1000); got != "" || code != api.ErrSyntax {
				t.Errorf("%q: %q, %d", raw, got, code)
			}
			check(t, l, nil, raw, api.ATok, 1000)
		}
	}
}

// Promise 13.1: an entity's name is any NCName.
func TestNames(t *testing.T) {
	for _, name := range []string{"a", "_", "a1", "a-b.c", "\u00e9", "\u0370", "\U0001F600", "\U000EFFFF", "\uFFFD", "a\u00b7\u0301", "xml", "ltx", strings.Repeat("n", 1000)} {
		r := refs.New(api.Decls{Entities: []api.Entity{{Name: name, Value: "is\tread"}}})
		if s, code := Read(r, "<&"+name+";>", api.ACData, 7); s != "<is read>" || code != api.OK || r.Spent() != 7 || r.Depth() != 0 {
			t.Errorf("%q: %q, %d, spent %d, Depth %d", name, s, code, r.Spent(), r.Depth())
		}
	}
}

// Promise 13.1: the five are their characters, whatever is declared; nothing is spent by them, whatever most is.
func TestFive(t *testing.T) {
	var list []api.Entity
	for name := range five() {
		list = append(list, api.Entity{Name: name, Value: "no"}, api.Entity{Name: name, External: true})
	}
	list = append(list, api.Entity{Name: "v", Value: "&lt;&gt;&amp;&apos;&quot;"})
	for _, l := range [][]api.Entity{nil, list} {
		r := refs.New(api.Decls{Entities: l})
		for _, most := range []int{math.MinInt, -1, 0, math.MaxInt} {
			if s, code := Read(r, "&lt;&gt;&amp;&apos;&quot;", api.ACData, most); s != `<>&'"` || code != api.OK || r.Spent() != 0 {
				t.Errorf("most %d: %q, %d, spent %d", most, s, code, r.Spent())
			}
		}
	}
	if s, code := Read(refs.New(api.Decls{Entities: list}), "&v;&v;", api.ACData, 50); s != `<>&'"<>&'"` || code != api.OK {
		t.Errorf("%q, %d", s, code)
	}
}

// Promise 13.1: of kind ATok alone blanks go, whether they were written as Spaces, by number or in a text; other Spaces by number stay.
func TestKinds(t *testing.T) {
	l := []api.Entity{{Name: "e", Value: "\n b \t"}, {Name: "n"}}
	for _, x := range []struct{ raw, plain, tok string }{
		{"", "", ""},
		{" ", " ", ""},
		{"\r\n\t ", "    ", ""},
		{"a", "a", "a"},
		{"\ta\n\nb\r", " a  b ", "a b"},
		{"&#32;a&#x20;&#32;b&#32;", " a  b ", "a b"},
		{" &#9;&#10; &#13; ", " \t\n \r ", "\t\n \r"},
		{"&e;&e;", "  b    b  ", "b b"},
		{" &e; &#32;&n; c", "   b     c", "b c"},
		{"&n; &n;", " ", ""},
		{"a\u00a0 \u00a0b\u2003", "a\u00a0 \u00a0b\u2003", "a\u00a0 \u00a0b\u2003"},
	} {
		for _, kind := range []int{math.MinInt, -1, 0, api.ACData, api.ATok, 3, api.ATok + 1<<32, math.MaxInt} {
			want := x.plain
			if kind == api.ATok {
				want = x.tok
			}
			if s, code := Read(refs.New(api.Decls{Entities: l}), x.raw, kind, 1000); s != want || code != api.OK {
				t.Errorf("Read(%q, kind %d) = %q, %d", x.raw, kind, s, code)
			}
		}
	}
}

// Promise 13.1: a < stands for itself in raw, by reference and by number; in an entity's text, at whatever depth, it is an error.
func TestLess(t *testing.T) {
	l := []api.Entity{{Name: "l", Value: "<"}, {Name: "m", Value: "ab<"}, {Name: "in", Value: "x&l;"}, {Name: "r", Value: "&lt;&#60;&#x3c;"}, {Name: "deep", Value: "&r;&in;"}}
	for raw, want := range map[string]string{"<": "<", "<<a<": "<<a<", "&r;<": "<<<<", "<&lt;": "<<"} {
		for _, kind := range []int{api.ACData, api.ATok} {
			if s, code := Read(refs.New(api.Decls{Entities: l}), raw, kind, 100); s != want || code != api.OK {
				t.Errorf("%q: %q, %d", raw, s, code)
			}
		}
	}
	for raw, open := range map[string]string{"&l;": "l", "<&l;": "l", "&m;": "m", "&in;": "in l", "a&r;&in;": "in l", "&deep;": "deep in l"} {
		r := refs.New(api.Decls{Entities: l})
		if s, code := Read(r, raw, api.ACData, 100); s != "" || code != api.ErrSyntax || r.Depth() != len(strings.Fields(open)) {
			t.Errorf("%q: %q, %d, Depth %d", raw, s, code, r.Depth())
		}
		for _, name := range slices.Backward(strings.Fields(open)) {
			if !r.Close(name) {
				t.Errorf("%q: %s isn't open", raw, name)
			}
		}
	}
}

// Promise 13.1: ErrLimit of Open, and ErrSyntax of its other errors; the first one from the left.
func TestFirstError(t *testing.T) {
	l := []api.Entity{{Name: "e", Value: "12345"}, {Name: "g", Value: "&g;"}, {Name: "o", External: true}, {Name: "le", Value: "<&e;"}, {Name: "el", Value: "&e;<"}}
	for _, x := range []struct {
		raw               string
		most, code, spent int
	}{
		{"&e;", 4, api.ErrLimit, 0},
		{"&e;", math.MinInt, api.ErrLimit, 0},
		{"&e;&e;", 9, api.ErrLimit, 5},
		{"&e;&", 4, api.ErrLimit, 0},
		{"&&e;", 4, api.ErrSyntax, 0},
		{"&e;&", 5, api.ErrSyntax, 5},
		{"&o;&e;", 4, api.ErrSyntax, 0},
		{"&e;&o;", 4, api.ErrLimit, 0},
		{"&o;", math.MinInt, api.ErrSyntax, 0},
		{"&q;", math.MinInt, api.ErrSyntax, 0},
		{"&q;&e;", 4, api.ErrSyntax, 0},
		{"&g;", 2, api.ErrLimit, 0},
		{"&g;", 3, api.ErrSyntax, 3},
		{"&g;", 5, api.ErrSyntax, 3},
		{"&g;", 6, api.ErrSyntax, 3},
		{"&le;", 4, api.ErrSyntax, 4},
		{"&el;", 4, api.ErrLimit, 4},
		{"&el;", 9, api.ErrSyntax, 9},
	} {
		for _, kind := range []int{api.ACData, api.ATok} {
			r := refs.New(api.Decls{Entities: l})
			if s, code := Read(r, x.raw, kind, x.most); s != "" || code != x.code || r.Spent() != x.spent {
				t.Errorf("Read(%q, most %d) = %q, %d, spent %d", x.raw, x.most, s, code, r.Spent())
			}
		}
	}
}

// Promise 13.1: most counts what was spent ahead, too, and all that one value opens.
func TestMost(t *testing.T) {
	l := []api.Entity{{Name: "e", Value: "12345"}, {Name: "n"}, {Name: "d", Value: "&e;&e;"}}
	edges := []int{math.MinInt, -1, 0, 1, 4, 5, 6, 9, 10, 11, 15, 16, 17, math.MaxInt - 16, math.MaxInt - 5, math.MaxInt - 1, math.MaxInt}
	for _, raw := range []string{"", "x", "&lt;", "&#65;", "&n;", "&e;", "&e;&n;&e;", "&d;"} {
		for _, ahead := range edges {
			for _, most := range edges {
				d := api.Decls{Entities: l}
				r, m := refs.New(d), model{refs.New(d), most}
				r.Spend(ahead, math.MaxInt)
				m.r.Spend(ahead, math.MaxInt)
				want, wantCode := m.read(raw, api.ACData)
				if s, code := Read(r, raw, api.ACData, most); s != want || code != wantCode || r.Spent() != m.r.Spent() || r.Depth() != m.r.Depth() {
					t.Errorf("Read(%q, most %d), %d spent ahead: %q, %d, %d, not %q, %d, %d", raw, most, ahead, s, code, r.Spent(), want, wantCode, m.r.Spent())
				}
			}
		}
	}
}

// Promise 13.1: the length of raw is not spent, that of each text is, as often as it is opened; all are closed then.
func TestSpent(t *testing.T) {
	l := []api.Entity{{Name: "e", Value: "\u00e9&#9;"}, {Name: "d", Value: "&e;&e;"}}
	r := refs.New(api.Decls{Entities: l})
	for k := 1; k <= 10; k++ {
		if s, code := Read(r, "abc&d;&lt;&e;", api.ACData, 24*k); s != "abc\u00e9\t\u00e9\t<\u00e9\t" || code != api.OK || r.Spent() != 24*k || r.Depth() != 0 {
			t.Fatalf("%q, %d, spent %d, Depth %d", s, code, r.Spent(), r.Depth())
		}
	}
}

// Promise 13.1: what was open ahead stays open, and may not be opened again.
func TestOpenAhead(t *testing.T) {
	l := []api.Entity{{Name: "a", Value: "1"}, {Name: "b", Value: "2&a;"}, {Name: "c", Value: "3"}, {Name: "", Value: "4"}}
	for _, open := range [][]string{{"a"}, {"b"}, {"c", "a"}, {""}, {"a", ""}, {"", "b"}} {
		for _, raw := range []string{"", "x", "&a;", "&b;", "&c;", "&c;&a;", "&c;&c;", "&c;&b;", "&", "&;"} {
			check(t, l, open, raw, api.ACData, 100)
		}
	}
	r := refs.New(api.Decls{Entities: l})
	r.Open("", 100)
	if s, code := Read(r, "x&c;", api.ACData, 100); s != "x3" || code != api.OK || r.Depth() != 1 || !r.Close("") {
		t.Errorf("%q, %d, Depth %d", s, code, r.Depth())
	}
}

// T5: of three entities, of which each holds up to two of them or a <, all that may be.
func TestGraphs(t *testing.T) {
	var texts []string
	rows("", 2, []string{"&a;", "&b;", "&c;", " <"}, func(s string) { texts = append(texts, s) })
	for _, a := range texts {
		for _, b := range texts {
			for _, c := range texts {
				l := []api.Entity{{Name: "a", Value: "1" + a}, {Name: "b", Value: b + "2"}, {Name: "c", Value: c}}
				check(t, l, nil, "&a;", api.ACData, 100)
				check(t, l, nil, "&c;&b;", api.ACData, 20)
			}
		}
	}
}

// chain are n entities, of which each holds the next, and the last one what is told.
func chain(n int, last string) []api.Entity {
	l := make([]api.Entity, n)
	for k := range l {
		l[k] = api.Entity{Name: "e" + strconv.Itoa(k), Value: "(&e" + strconv.Itoa(k+1) + ";)"}
	}
	l[n-1].Value = last
	return l
}

// T5: such as hold themselves, alone or through others, are an error, wherever one goes in.
func TestRings(t *testing.T) {
	for _, n := range []int{1, 2, 3, 10, 1000} {
		l := chain(n, "x&e0;")
		for _, from := range []int{0, n / 2, n - 1} {
			r := refs.New(api.Decls{Entities: l})
			if s, code := Read(r, "a&e"+strconv.Itoa(from)+";", api.ACData, api.MaxExpand); s != "" || code != api.ErrSyntax || r.Depth() != n {
				t.Errorf("%d from %d on: %.20q, %d, Depth %d", n, from, s, code, r.Depth())
			}
		}
	}
}

// T5: entities of entities, each twice the one ahead, end in the limit.
func TestDoubled(t *testing.T) {
	list := []api.Entity{{Name: "e0", Value: "ha"}, {Name: "n0"}}
	for k := range 60 {
		for _, name := range []string{"e", "n"} {
			inner := "&" + name + strconv.Itoa(k) + ";"
			list = append(list, api.Entity{Name: name + strconv.Itoa(k+1), Value: inner + inner})
		}
	}
	for _, raw := range []string{"&e60;", "&n60;", "ha&e30;&n30;"} {
		r := refs.New(api.Decls{Entities: list})
		if s, code := Read(r, raw, api.ATok, api.MaxExpand); s != "" || code != api.ErrLimit || r.Spent() > api.MaxExpand || r.Depth() > 60 {
			t.Errorf("%q: %.20q, %d, spent %d, Depth %d", raw, s, code, r.Spent(), r.Depth())
		}
	}
	r := refs.New(api.Decls{Entities: list})
	if s, code := Read(r, "&e3;&n3;", api.ACData, api.MaxExpand); s != strings.Repeat("ha", 8) || code != api.OK || r.Spent() != 8*2+2*7*8 {
		t.Errorf("%q, %d, spent %d", s, code, r.Spent())
	}
}

// Rule 1 of DOC.md: however deep entities hold one another, reading them takes no deep calls, which would break the program off.
func TestDeep(t *testing.T) {
	const deep = 1 << 18
	defer debug.SetMaxStack(debug.SetMaxStack(1 << 23))
	for last, code := range map[string]int{"x": api.OK, "<": api.ErrSyntax, "&e0;": api.ErrSyntax, "&q;": api.ErrSyntax} {
		r := refs.New(api.Decls{Entities: chain(deep, last)})
		s, got := Read(r, "&e0;", api.ACData, math.MaxInt)
		if got != code {
			t.Errorf("%q: %d", last, got)
		}
		want, depth := "", deep
		if code == api.OK {
			want, depth = strings.Repeat("(", deep-1)+"x"+strings.Repeat(")", deep-1), 0
		}
		if s != want || r.Depth() != depth {
			t.Errorf("%q: %d bytes, Depth %d", last, len(s), r.Depth())
		}
	}
}

// Rule 1 of DOC.md: long ones of each kind, in time that grows as they do.
func TestLong(t *testing.T) {
	const long = 1 << 19
	many := func(s string) string { return strings.Repeat(s, long) }
	l := []api.Entity{{Name: "e", Value: "x "}, {Name: "n"}, {Name: "long", Value: many("y&n;\n")}, {Name: many("e"), Value: "z"}}
	for _, x := range []struct {
		raw, want string
		code      int
	}{
		{many("a"), many("a"), api.OK},
		{many("\t"), many(" "), api.OK},
		{many("\u00e9<"), many("\u00e9<"), api.OK},
		{many("\xff"), many("\xff"), api.OK},
		{many("&lt;"), many("<"), api.OK},
		{many("&#65;"), many("A"), api.OK},
		{"&#" + many("0") + "65;", "A", api.OK},
		{many("&e;"), many("x "), api.OK},
		{many("&n;"), "", api.OK},
		{"&long;&long;", many("y ") + many("y "), api.OK},
		{"&" + many("e") + ";", "z", api.OK},
		{many("&"), "", api.ErrSyntax},
		{many("&a"), "", api.ErrSyntax},
		{"&" + many("a"), "", api.ErrSyntax},
		{many("&#65"), "", api.ErrSyntax},
		{"&#" + many("1") + ";", "", api.ErrSyntax},
		{many("&lt;") + "&", "", api.ErrSyntax},
	} {
		if s, code := Read(refs.New(api.Decls{Entities: l}), x.raw, api.ACData, math.MaxInt); s != x.want || code != x.code {
			t.Errorf("%.20q..: %.20q.., %d bytes, %d", x.raw, s, len(s), code)
		}
		if s, code := Read(refs.New(api.Decls{Entities: l}), x.raw, api.ATok, math.MaxInt); s != modelNorm(x.want) || code != x.code {
			t.Errorf("%.20q.. of kind ATok: %.20q.., %d bytes, %d", x.raw, s, len(s), code)
		}
	}
}

// Promise 13.1, of one that is nil or that nobody made: the five are there, and no entity.
func TestOfNothing(t *testing.T) {
	for _, r := range []*refs.Refs{nil, {}, refs.New(api.Decls{})} {
		for _, most := range []int{math.MinInt, 0, math.MaxInt} {
			if s, code := Read(r, " a\t&#9;<&lt;&gt;&amp;&apos;&quot;", api.ACData, most); s != " a \t<<>&'\"" || code != api.OK {
				t.Errorf("%q, %d", s, code)
			}
			if s, code := Read(r, " a\n b ", api.ATok, most); s != "a b" || code != api.OK {
				t.Errorf("%q, %d", s, code)
			}
			for _, raw := range []string{"&e;", "&", "a&#0;", "&LT;"} {
				if s, code := Read(r, raw, api.ACData, most); s != "" || code != api.ErrSyntax {
					t.Errorf("%q: %q, %d", raw, s, code)
				}
			}
		}
		if r.Depth() != 0 || r.Spent() != 0 {
			t.Errorf("Depth %d, Spent %d", r.Depth(), r.Spent())
		}
	}
}

// Promise 13.2: all short rows of blanks and of what is none.
func TestNormOfAllShort(t *testing.T) {
	rows("", 6, row(" a\t\n\x00", "\xff", "\u00a0"), func(s string) {
		if got := Norm(s); got != modelNorm(s) {
			t.Fatalf("Norm(%q) = %q", s, got)
		}
		if got := Norm(Norm(s)); got != Norm(s) {
			t.Fatalf("Norm of Norm(%q) = %q", s, got)
		}
	})
}

// Promise 13.2: only 0x20 is a blank: each other character stays, at the ends and in a row.
func TestNormOfEach(t *testing.T) {
	for c := range rune(0x110000) {
		s := string(c)
		want := s + s + "a" + s + s
		if c == ' ' {
			want = "a"
		}
		if got := Norm(s + s + "a" + s + s); got != want {
			t.Fatalf("%U: %q", c, got)
		}
	}
	for k := range 256 {
		s := string([]byte{byte(k)})
		if got, want := Norm(" "+s+"  "+s+" "), modelNorm(s+" "+s); got != want {
			t.Fatalf("%q: %q", s, got)
		}
	}
	blanks := strings.Repeat(" ", 1<<20)
	for s, want := range map[string]string{blanks: "", blanks + "a": "a", "a" + blanks: "a", "a" + blanks + "b": "a b", strings.Repeat("a  ", 1<<19): strings.Repeat("a ", 1<<19-1) + "a"} {
		if got := Norm(s); got != want {
			t.Errorf("of %d bytes: %.20q, %d bytes", len(s), got, len(got))
		}
	}
}

// Promise 13.3: each character, and each byte that is no UTF-8, is written as itself, but those that the chapter names.
func TestWrittenOfEach(t *testing.T) {
	text := map[rune]string{'&': "&amp;", '<': "&lt;", '>': "&gt;", 13: "&#13;"}
	attr := map[rune]string{'&': "&amp;", '<': "&lt;", '"': "&quot;", 9: "&#9;", 10: "&#10;", 13: "&#13;"}
	written := func(s string, c rune, forms map[rune]string) string {
		if form, is := forms[c]; is {
			return form
		}
		return s
	}
	one := func(s string, c rune) {
		t.Helper()
		w := written(s, c, text)
		if got := Text(s + "a" + s); got != w+"a"+w {
			t.Fatalf("Text of %q: %q", s, got)
		}
		w = written(s, c, attr)
		if got := Attr(s + "a" + s); got != w+"a"+w {
			t.Fatalf("Attr of %q: %q", s, got)
		}
	}
	for c := range rune(0x110000) {
		one(string(c), c)
	}
	for k := 128; k < 256; k++ {
		one(string([]byte{byte(k)}), -1)
	}
}

// mixes are characters that may be taken for others when they are written, and others.
func mixes() []string {
	return row(" \t\n\r&<>\"'a;#]-\x00", "x41", "lt", "amp", "\xff", "\xc3", "\u00e9")
}

// Promise 13.3: all short rows, held against what the library puts in place of single bytes.
func TestWrittenOfAllShort(t *testing.T) {
	text := strings.NewReplacer("&", "&amp;", "<", "&lt;", ">", "&gt;", "\x0D", "&#13;")
	attr := strings.NewReplacer("&", "&amp;", "<", "&lt;", "\x22", "&quot;", "\x09", "&#9;", "\x0A", "&#10;", "\x0D", "&#13;")
	rows("", 4, mixes(), func(s string) {
		if got, want := Text(s), text.Replace(s); got != want {
			t.Fatalf("Text(%q) = %q", s, got)
		}
		if got, want := Attr(s), attr.Replace(s); got != want {
			t.Fatalf("Attr(%q) = %q", s, got)
		}
	})
}

// content gives what the tokens of s are as text.
func content(t *testing.T, s string) string {
	t.Helper()
	l, _, code := token.All(s)
	if code != api.OK {
		t.Fatalf("%q is no content: %d", s, code)
	}
	var r refs.Refs
	out := ""
	for _, x := range l {
		switch x.Kind {
		case api.TText, api.TChar:
			out += x.Text
		case api.TRef:
			c, is, _ := r.Get(x.Name)
			if !is {
				t.Fatalf("%q holds the reference %q", s, x.Name)
			}
			out += c
		default:
			t.Fatalf("%q holds %+v", s, x)
		}
	}
	return out
}

// back checks that s, written as a value and as a text, is read as it was.
func back(t *testing.T, r *refs.Refs, s string) {
	t.Helper()
	start, _, code := token.Next(`<a b="`+Attr(s)+`"/>`, 0)
	if code != api.OK || len(start.Attrs) != 1 || !start.Empty {
		t.Fatalf("Attr(%q) = %q: %+v, %d", s, Attr(s), start, code)
	}
	raw := start.Attrs[0].Value
	if got, code := Read(r, raw, api.ACData, math.MinInt); got != s || code != api.OK {
		t.Fatalf("%q is read as %q, %d, not %q", raw, got, code, s)
	}
	if got, code := Read(r, raw, api.ATok, math.MinInt); got != Norm(s) || code != api.OK {
		t.Fatalf("%q is read as %q, %d, not %q", raw, got, code, Norm(s))
	}
	if got, code := Read(r, Attr(Norm(s)), api.ATok, math.MinInt); got != Norm(s) || code != api.OK {
		t.Fatalf("%q is read as %q, %d, not %q", Attr(Norm(s)), got, code, Norm(s))
	}
	if got := content(t, Text(s)); got != s {
		t.Fatalf("%q is read as %q, not %q", Text(s), got, s)
	}
	if strings.ContainsAny(Text(s)+raw, "\r") || strings.ContainsAny(raw, "\t\n") {
		t.Fatalf("an end of a line, or a Space that would be a blank, stands in %q or %q", Text(s), raw)
	}
}

// Promise 13.4: all short rows.
func TestThereAndBack(t *testing.T) {
	r := refs.New(api.Decls{Entities: []api.Entity{{Name: "lt", Value: "no"}, {Name: "amp", External: true}, {Name: "quot", Value: "&"}}})
	rows("", 3, mixes(), func(s string) { back(t, r, s) })
	back(t, nil, " \t\n\r&<>\"'a")
}

// Promise 13.4: all rows of two bytes, each character, and long ones.
func TestThereAndBackOfEach(t *testing.T) {
	r := refs.New(api.Decls{})
	for k := range 1 << 16 {
		back(t, r, string([]byte{byte(k >> 8), byte(k)}))
	}
	for c := rune(0); c < 0x110000; c += 7 {
		back(t, r, string(c)+"]]>"+string(c))
	}
	back(t, r, strings.Join(mixes(), ""))
	for _, s := range []string{Text("<&>\r"), Attr("<&\t\">"), "&#65;", "&amp;amp;", "<![CDATA[]]>", "<!---->", "<?a?>", "</a>", "&e;"} {
		back(t, r, s)
		back(t, r, s+s)
	}
	s := strings.Repeat(strings.Join(mixes(), ""), 1<<14)
	if got, code := Read(r, Attr(s), api.ACData, 0); got != s || code != api.OK {
		t.Errorf("of %d bytes: %d bytes, %d", len(s), len(got), code)
	}
	if got := strings.NewReplacer("&amp;", "&", "&lt;", "<", "&gt;", ">", "&#13;", "\r").Replace(Text(s)); got != s {
		t.Errorf("of %d bytes: %d bytes", len(s), len(got))
	}
}

// fresh is s in bytes that nobody else has.
func fresh(s string) string {
	b := []byte(s)
	return unsafe.String(unsafe.SliceData(b), len(b))
}

// spoil changes all bytes of s.
func spoil(s string) {
	b := unsafe.Slice(unsafe.StringData(s), len(s))
	for k := range b {
		b[k] ^= 0x55
	}
}

// forms are all that the package does to a text.
func forms() map[string]func(r *refs.Refs, s string) string {
	of := func(kind int) func(r *refs.Refs, s string) string {
		return func(r *refs.Refs, s string) string {
			got, _ := Read(r, s, kind, math.MaxInt)
			return got
		}
	}
	return map[string]func(r *refs.Refs, s string) string{
		"Read":         of(api.ACData),
		"Read of ATok": of(api.ATok),
		"Norm":         func(_ *refs.Refs, s string) string { return Norm(s) },
		"Text":         func(_ *refs.Refs, s string) string { return Text(s) },
		"Attr":         func(_ *refs.Refs, s string) string { return Attr(s) },
	}
}

// Rule 2 of DOC.md: what is handed in is neither changed nor kept, and what is answered is the caller's own: neither changes with the other.
func TestNothingShared(t *testing.T) {
	d := api.Decls{Entities: []api.Entity{{Name: "e", Value: "whole"}, {Name: "d", Value: "&e;"}}}
	for name, form := range forms() {
		for _, s := range []string{"", "a", " ", "ab c", " a ", "a\tb", "&lt;", "&#65;", "&e;", "&d;", "&e;&e;", "&", "<>\"\r"} {
			r := refs.New(d)
			given := fresh(s)
			want := form(r, s)
			got := form(r, given)
			if given != s {
				t.Fatalf("%s of %q made it %q", name, s, given)
			}
			spoil(given)
			if got != want {
				t.Fatalf("%s of %q became %q", name, s, got)
			}
			given = fresh(s)
			spoil(form(r, given))
			if given != s {
				t.Fatalf("%s of %q: with the answer it became %q", name, s, given)
			}
			if again := form(r, s); again != want {
				t.Fatalf("%s of %q is %q then", name, s, again)
			}
		}
	}
}

// The document's examples.
func TestExamples(t *testing.T) {
	if s := Norm("  a  b "); s != "a b" {
		t.Errorf("%q", s)
	}
	if s, code := Read(refs.New(api.Decls{}), "&#x41;", api.ACData, 0); s != "A" || code != api.OK {
		t.Errorf("%q, %d", s, code)
	}
}

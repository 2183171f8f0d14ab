package scope

import (
	"math/rand/v2"
	"slices"
	"strconv"
	"strings"
	"testing"
	"unsafe"

	"bracken/api"
)

// What the document calls XMLURI and XMLNSURI.
const (
	xmlURI   = "http://www.w3.org/XML/1998/namespace"
	xmlnsURI = "http://www.w3.org/2000/xmlns/"
)

// bind is a declaration: of a prefix, or, of "", of the default.
func bind(prefix, uri string) api.Attr {
	if prefix == "" {
		return api.Attr{Local: "xmlns", URI: xmlnsURI, Value: uri}
	}
	return api.Attr{Prefix: "xmlns", Local: prefix, URI: xmlnsURI, Value: uri}
}

// pair is a prefix, or "" for the default, and what it is bound to.
type pair struct{ prefix, uri string }

// model is chapter 14 word for word: levels are lists, the nearest declaration is looked for from the last level on.
type model struct{ levels [][]pair }

// declares tells what a declares, if it is a declaration.
func declares(a api.Attr) (pair, bool) {
	if a.URI != xmlnsURI {
		return pair{}, false
	}
	if a.Prefix == "" && a.Local == "xmlns" {
		return pair{"", a.Value}, true
	}
	return pair{a.Local, a.Value}, a.Prefix == "xmlns"
}

// wrong tells whether p, behind those of ahead in one level, is a fault.
func wrong(p pair, ahead []pair) bool {
	switch {
	case p.prefix == "xmlns":
		return true
	case p.prefix == "xml" && p.uri != xmlURI:
		return true
	case p.prefix != "xml" && p.uri == xmlURI:
		return true
	case p.uri == xmlnsURI:
		return true
	case p.prefix != "" && p.uri == "":
		return true
	}
	return slices.ContainsFunc(ahead, func(q pair) bool { return q.prefix == p.prefix })
}

func (m *model) push(l []api.Attr) int {
	var level []pair
	for _, a := range l {
		p, is := declares(a)
		if !is {
			continue
		}
		if wrong(p, level) {
			return api.ErrSyntax
		}
		level = append(level, p)
	}
	m.levels = append(m.levels, level)
	return api.OK
}

func (m *model) pop() bool {
	if len(m.levels) == 0 {
		return false
	}
	m.levels = m.levels[:len(m.levels)-1]
	return true
}

func (m *model) uri(prefix string) (string, bool) {
	for _, level := range slices.Backward(m.levels) {
		for _, p := range level {
			if p.prefix == prefix {
				return p.uri, true
			}
		}
	}
	switch prefix {
	case "xml":
		return xmlURI, true
	case "":
		return "", true
	}
	return "", false
}

// bound are all that are bound now, the default only if it is not bound to "": by prefix.
func (m *model) bound() []pair {
	prefixes := []string{"", "xml"}
	for _, level := range m.levels {
		for _, p := range level {
			prefixes = append(prefixes, p.prefix)
		}
	}
	slices.SortFunc(prefixes, func(a, b string) int { return slices.Compare([]byte(a), []byte(b)) })
	var l []pair
	for _, prefix := range slices.Compact(prefixes) {
		if uri, _ := m.uri(prefix); uri != "" {
			l = append(l, pair{prefix, uri})
		}
	}
	return l
}

func (m *model) prefix(uri string) (string, bool) {
	for _, p := range m.bound() {
		if p.prefix != "" && p.uri == uri {
			return p.prefix, true
		}
	}
	return "", false
}

func (m *model) all() []api.Attr {
	var l []api.Attr
	for _, p := range m.bound() {
		l = append(l, bind(p.prefix, p.uri))
	}
	return l
}

// both are a Scope and its model, to which the same is done.
type both struct {
	t *testing.T
	s *Scope
	m *model
}

func newBoth(t *testing.T) both {
	return both{t, New(), &model{}}
}

func (b both) push(l ...api.Attr) {
	b.t.Helper()
	want := b.m.push(l)
	if code := b.s.Push(l); code != want {
		b.t.Fatalf("in %q: Push(%q) = %d, not %d", b.m.levels, l, code, want)
	}
	b.depth()
}

func (b both) pop() {
	b.t.Helper()
	want := b.m.pop()
	if is := b.s.Pop(); is != want {
		b.t.Fatalf("in %q: Pop = %t", b.m.levels, is)
	}
	b.depth()
}

func (b both) depth() {
	b.t.Helper()
	if d := b.s.Depth(); d != len(b.m.levels) {
		b.t.Fatalf("in %q: Depth %d", b.m.levels, d)
	}
}

// same checks what is told of those prefixes and URIs, and All.
func (b both) same(prefixes, uris []string) {
	b.t.Helper()
	for _, prefix := range prefixes {
		want, wantIs := b.m.uri(prefix)
		if uri, is := b.s.URI(prefix); uri != want || is != wantIs {
			b.t.Fatalf("in %.300q: URI(%.20q) = %.20q, %t, not %.20q, %t", b.m.levels, prefix, uri, is, want, wantIs)
		}
	}
	for _, uri := range uris {
		want, wantIs := b.m.prefix(uri)
		if prefix, is := b.s.Prefix(uri); prefix != want || is != wantIs {
			b.t.Fatalf("in %.300q: Prefix(%.20q) = %.20q, %t, not %.20q, %t", b.m.levels, uri, prefix, is, want, wantIs)
		}
	}
	if l, want := b.s.All(), b.m.all(); !slices.Equal(l, want) {
		b.t.Fatalf("in %.300q: All = %.300q, not %.300q", b.m.levels, l, want)
	}
	b.depth()
}

// prefixes and uris are such as the tests declare, and others.
func prefixes() []string {
	return []string{"", "a", "b", "p", "xml", "xmlns", "q", "XML", "xm", "xmlx", "xmlnsx", " ", "a ", "a:b", ":", "\x00", "\xff", "ä", "a\u0308", "xmlns:a"}
}

func uris() []string {
	return []string{"", "u", "v", "w", "U", "u ", xmlURI, xmlnsURI, xmlURI + "#", xmlnsURI[:len(xmlnsURI)-1], strings.ToUpper(xmlURI), "\xff", "xml", "xmlns"}
}

func (b both) whole() {
	b.t.Helper()
	b.same(prefixes(), uris())
}

// rows calls do with all rows of up to n numbers below k.
func rows(k, n int, do func(row []int)) {
	var row []int
	var longer func()
	longer = func() {
		do(row)
		if len(row) == n {
			return
		}
		for x := range k {
			row = append(row, x)
			longer()
			row = row[:len(row)-1]
		}
	}
	longer()
}

// Promise 14.1, New, and 14.2 of it: xml alone is bound, and there is no level to pop.
func TestNew(t *testing.T) {
	s := New()
	if uri, is := s.URI("xml"); uri != xmlURI || !is {
		t.Errorf("URI(xml) = %q, %t", uri, is)
	}
	if uri, is := s.URI(""); uri != "" || !is {
		t.Errorf("the default: %q, %t", uri, is)
	}
	if uri, is := s.URI("xmlns"); uri != "" || is {
		t.Errorf("URI(xmlns) = %q, %t", uri, is)
	}
	if prefix, is := s.Prefix(xmlURI); prefix != "xml" || !is {
		t.Errorf("Prefix of XMLURI: %q, %t", prefix, is)
	}
	if l := s.All(); len(l) != 1 || l[0] != (api.Attr{Prefix: "xmlns", Local: "xml", URI: xmlnsURI, Value: xmlURI}) {
		t.Errorf("All = %q", l)
	}
	if s.Depth() != 0 || s.Pop() || s.Pop() || s.Depth() != 0 {
		t.Errorf("Depth %d", s.Depth())
	}
	newBoth(t).whole()
}

// Promise 14.1: what is a declaration, and which of them may be: of attributes in which each part is whatever such parts are, one alone, on an empty Scope and on one in which much is bound.
func TestPushOfOne(t *testing.T) {
	for _, prefix := range prefixes() {
		for _, local := range prefixes() {
			for _, uri := range uris() {
				for _, value := range uris() {
					a := api.Attr{Prefix: prefix, Local: local, URI: uri, Value: value}
					b := newBoth(t)
					b.push(a)
					b.same([]string{prefix, local, "", "xml"}, []string{uri, value, "", xmlURI})
					b = newBoth(t)
					b.push(bind("", "u"), bind("a", "u"), bind("p", "v"), bind("xml", xmlURI))
					b.push(a)
					b.same([]string{prefix, local, "", "xml"}, []string{uri, value, "", xmlURI})
					b.pop()
					b.same([]string{prefix, local, "", "xml"}, []string{uri, value, "", xmlURI})
				}
			}
		}
	}
}

// Promise 14.1: each fault, told one by one, and what is nearly one.
func TestFaults(t *testing.T) {
	for _, c := range []struct {
		a    api.Attr
		code int
	}{
		{bind("xmlns", "u"), api.ErrSyntax},
		{bind("xmlns", ""), api.ErrSyntax},
		{bind("xmlns", xmlURI), api.ErrSyntax},
		{bind("xmlns", xmlnsURI), api.ErrSyntax},
		{bind("xml", "u"), api.ErrSyntax},
		{bind("xml", ""), api.ErrSyntax},
		{bind("xml", xmlnsURI), api.ErrSyntax},
		{bind("xml", xmlURI+" "), api.ErrSyntax},
		{bind("xml", xmlURI), api.OK},
		{bind("p", xmlURI), api.ErrSyntax},
		{bind("XML", xmlURI), api.ErrSyntax},
		{bind("", xmlURI), api.ErrSyntax},
		{bind("p", xmlnsURI), api.ErrSyntax},
		{bind("", xmlnsURI), api.ErrSyntax},
		{bind("p", ""), api.ErrSyntax},
		{bind("", ""), api.OK},
		{bind("p", xmlURI[1:]), api.OK},
		{bind("", xmlURI[1:]), api.OK},
		{bind("p", xmlnsURI+"x"), api.OK},
		{bind("p", " "), api.OK},
		{bind("XML", "u"), api.OK},
		{bind("Xmlns", "u"), api.OK},
		{bind("xmlx", "u"), api.OK},
		{bind("p", "xml"), api.OK},
		{bind("p", "xmlns"), api.OK},
	} {
		s := New()
		if code := s.Push([]api.Attr{c.a}); code != c.code || s.Depth() != map[int]int{api.OK: 1}[code] {
			t.Errorf("Push(%q) = %d, Depth %d", c.a, code, s.Depth())
		}
	}
}

// Promise 14.1: what is no declaration is passed over, whatever its Value, also where a declaration would be a fault.
func TestPassedOver(t *testing.T) {
	others := []api.Attr{
		{},
		{Local: "x", Value: "y"},
		{Local: "xmlns", Value: "u"},
		{Local: "xmlns", URI: xmlURI, Value: "u"},
		{Local: "xmlns", URI: xmlnsURI[:len(xmlnsURI)-1], Value: "u"},
		{Prefix: "xmlns", Local: "p", Value: "u"},
		{Prefix: "xmlns", Local: "p", URI: "u", Value: "u"},
		{Prefix: "xmlns", Local: "xmlns", URI: "u", Value: xmlnsURI},
		{Prefix: "xml", Local: "lang", URI: xmlURI, Value: ""},
		{Prefix: "q", Local: "p", URI: xmlnsURI, Value: "u"},
		{Prefix: "q", Local: "xmlns", URI: xmlnsURI, Value: "u"},
		{Local: "p", URI: xmlnsURI, Value: "u"},
		{Local: "", URI: xmlnsURI, Value: "u"},
		{Local: "xml", URI: xmlnsURI, Value: "u"},
		{Local: "XMLNS", URI: xmlnsURI, Value: "u"},
		{Prefix: "XMLNS", Local: "p", URI: xmlnsURI, Value: xmlURI},
		{Prefix: "xmlns ", Local: "p", URI: xmlnsURI, Value: ""},
	}
	fresh := newBoth(t)
	for _, a := range others {
		b := newBoth(t)
		b.push(a)
		b.push(a, a)
		if !slices.Equal(b.s.All(), fresh.s.All()) {
			t.Errorf("Push(%q): All %q", a, b.s.All())
		}
		b.whole()
	}
	b := newBoth(t)
	b.push(slices.Insert(slices.Concat(others, others), 7, bind("p", "u"), bind("", "v"))...)
	if len(b.s.All()) != 3 {
		t.Errorf("All %q", b.s.All())
	}
	b.whole()
}

// kinds are attributes of all kinds, of several some with one prefix.
func kinds() []api.Attr {
	return []api.Attr{
		bind("p", "u"), bind("p", "v"), bind("a", "u"), bind("b", "v"),
		bind("", "u"), bind("", ""), bind("", "w"), bind("xml", xmlURI),
		bind("p", ""), bind("xml", "u"), bind("xmlns", "u"), bind("b", xmlURI), bind("", xmlURI), bind("a", xmlnsURI),
		{Local: "p", Value: "u"}, {Prefix: "q", Local: "p", URI: xmlnsURI, Value: "w"},
	}
}

// Promise 14.1: all rows of up to three attributes as one level, below one that binds much; a wrong one, wherever it stands, leaves all as it was.
func TestLevelsOfAllRows(t *testing.T) {
	l := kinds()
	rows(len(l), 3, func(row []int) {
		var level []api.Attr
		for _, k := range row {
			level = append(level, l[k])
		}
		b := newBoth(t)
		b.push(bind("p", "w"), bind("b", "u"), bind("", "v"))
		b.push(level...)
		b.whole()
		b.pop()
		b.whole()
	})
}

// Promise 14.1: a wrong declaration behind many good ones, ahead of them and among them: nothing is pushed, and what they would hide stays.
func TestNothingIsPushed(t *testing.T) {
	var good []api.Attr
	for k := range 40 {
		good = append(good, bind("p"+strconv.Itoa(k), "new"))
	}
	for _, bad := range []api.Attr{bind("xmlns", "u"), bind("xml", "u"), bind("q", xmlURI), bind("", xmlURI), bind("q", xmlnsURI), bind("q", ""), bind("p0", "new"), bind("p39", "x"), bind("p20", "")} {
		for at := range len(good) + 1 {
			s := New()
			s.Push([]api.Attr{bind("p3", "old"), bind("", "d")})
			s.Push(nil)
			ahead := s.All()
			if code := s.Push(slices.Insert(slices.Clone(good), at, bad)); code != api.ErrSyntax {
				t.Fatalf("%q at %d: %d", bad, at, code)
			}
			if uri, is := s.URI("p3"); uri != "old" || !is || s.Depth() != 2 || !slices.Equal(s.All(), ahead) {
				t.Fatalf("%q at %d: %q, %t, Depth %d, %q", bad, at, uri, is, s.Depth(), s.All())
			}
			if _, is := s.URI("p0"); is {
				t.Fatalf("%q at %d: p0 is bound", bad, at)
			}
			if prefix, is := s.Prefix("new"); is || prefix != "" {
				t.Fatalf("%q at %d: %q", bad, at, prefix)
			}
			if s.Push(good) != api.OK || s.Depth() != 3 || len(s.All()) != 42 {
				t.Fatalf("behind %q at %d: %q", bad, at, s.All())
			}
		}
	}
}

// Promises 14.1 and 14.2: all rows of up to five calls.
func TestCallsOfAllRows(t *testing.T) {
	calls := []func(b both){
		both.pop,
		func(b both) { b.push() },
		func(b both) { b.push(bind("p", "u")) },
		func(b both) { b.push(bind("p", "v"), bind("", "u")) },
		func(b both) { b.push(bind("", "")) },
		func(b both) { b.push(bind("a", "u"), bind("xml", xmlURI), bind("", "v")) },
		func(b both) { b.push(bind("b", "u"), bind("a", "v"), bind("p", "v")) },
		func(b both) { b.push(bind("p", "w"), bind("", "w"), bind("a", "")) },
	}
	rows(len(calls), 5, func(row []int) {
		b := newBoth(t)
		for _, k := range row {
			calls[k](b)
		}
		b.same([]string{"", "p", "a", "b", "xml"}, []string{"", "u", "v", "w", xmlURI})
	})
}

// Promises 14.1 and 14.2: long rows of calls with levels of many kinds, each asked behind each.
func TestLongRows(t *testing.T) {
	var prefixes, uris []string
	for k := range 12 {
		prefixes = append(prefixes, string(rune('a'+k)))
		uris = append(uris, strings.Repeat("u", k%5))
	}
	prefixes = append(prefixes, "", "xml", "xmlns")
	uris = append(uris, xmlURI, xmlnsURI)
	for seed := range uint64(40) {
		r := rand.New(rand.NewPCG(seed, 14))
		b := newBoth(t)
		for range 400 {
			if r.IntN(5) < 2 {
				b.pop()
			} else {
				var level []api.Attr
				for range r.IntN(4) {
					p := prefixes[r.IntN(len(prefixes)-r.IntN(3))]
					level = append(level, bind(p, uris[r.IntN(len(uris)-2*r.IntN(2))]))
				}
				b.push(level...)
			}
			b.same(prefixes, uris)
		}
	}
}

// ordered are prefixes in the order of their bytes: not that of letters, of characters by case, of numbers, of UTF-16, or of length.
func ordered() []string {
	return []string{"\x00", " ", "-", "0", "10", "9", "A", "Z", "_", "a", "a\x00", "aa", "aaa", "ab", "b", "xmk", "xml", "xmla", "z", "\x80", "é", "ÿ", "\u0100", "\ufffd", "\U00010000", "\xff"}
}

// Promise 14.2: Prefix tells the least, and All goes up, by bytes, in whatever order they were declared, in one level or in many.
func TestOrder(t *testing.T) {
	l := ordered()
	want := []api.Attr{bind("", "u")}
	for _, prefix := range l {
		want = append(want, bind(prefix, "u"))
	}
	at := slices.Index(l, "xml") + 1
	want[at].Value = xmlURI
	orders := [][]string{slices.Clone(l), slices.Clone(l)}
	slices.Reverse(orders[1])
	for seed := range uint64(20) {
		o := slices.Clone(l)
		rand.New(rand.NewPCG(seed, 2)).Shuffle(len(o), func(i, j int) { o[i], o[j] = o[j], o[i] })
		orders = append(orders, o)
	}
	for _, o := range orders {
		one, many := New(), New()
		var level []api.Attr
		for _, prefix := range append(o, "") {
			a := bind(prefix, "u")
			if prefix == "xml" {
				a.Value = xmlURI
			}
			level = append(level, a)
			many.Push([]api.Attr{a})
		}
		one.Push(level)
		for _, s := range []*Scope{one, many} {
			if all := s.All(); !slices.Equal(all, want) {
				t.Fatalf("declared as %q: All = %q", o, all)
			}
			if prefix, is := s.Prefix("u"); prefix != "\x00" || !is {
				t.Fatalf("declared as %q: the least is %q, %t", o, prefix, is)
			}
		}
		for _, prefix := range l {
			if prefix == "xml" {
				continue
			}
			if least, is := one.Prefix("u"); least != prefix || !is {
				t.Fatalf("without those below %q: %q, %t", prefix, least, is)
			}
			one.Push([]api.Attr{bind(prefix, "other")})
		}
		if prefix, is := one.Prefix("u"); prefix != "" || is {
			t.Fatalf("of the default alone: %q, %t", prefix, is)
		}
	}
}

// Promise 14.2: a prefix that means something else by now is not told of what it meant farther out; behind the level it is again.
func TestHidden(t *testing.T) {
	b := newBoth(t)
	b.push(bind("a", "u"), bind("b", "u"), bind("", "u"))
	b.push(bind("a", "v"))
	if prefix, is := b.s.Prefix("u"); prefix != "b" || !is {
		t.Errorf("Prefix(u) = %q, %t", prefix, is)
	}
	b.whole()
	b.push(bind("b", "v"), bind("", ""))
	if prefix, is := b.s.Prefix("u"); prefix != "" || is {
		t.Errorf("Prefix(u) = %q, %t", prefix, is)
	}
	if uri, is := b.s.URI(""); uri != "" || !is {
		t.Errorf("the default: %q, %t", uri, is)
	}
	if prefix, is := b.s.Prefix(""); prefix != "" || is {
		t.Errorf("Prefix of nothing = %q, %t", prefix, is)
	}
	if l := b.s.All(); !slices.Equal(l, []api.Attr{bind("a", "v"), bind("b", "v"), bind("xml", xmlURI)}) {
		t.Errorf("All = %q", l)
	}
	b.whole()
	b.push(bind("b", "u"), bind("c", "u"))
	b.whole()
	for range 4 {
		b.pop()
		b.whole()
	}
}

// Promise 14.3: what a prefix means within levels is what the nearest of all that bind it says, for all rows of what six levels may do to it; each level that goes takes its own away alone.
func TestMeanings(t *testing.T) {
	levels := []struct {
		l          []api.Attr
		p, without string // "-": nothing is said of it
	}{
		{nil, "-", "-"},
		{[]api.Attr{bind("p", "u")}, "u", "-"},
		{[]api.Attr{bind("", "v"), bind("p", "v")}, "v", "v"},
		{[]api.Attr{bind("q", "u"), bind("", "")}, "-", ""},
	}
	check := func(s *Scope, p, without string) {
		t.Helper()
		if uri, is := s.URI("p"); uri != p || is != (p != "") {
			t.Fatalf("p is %q, %t, not %q", uri, is, p)
		}
		if uri, is := s.URI(""); uri != without || !is {
			t.Fatalf("without a prefix: %q, %t, not %q", uri, is, without)
		}
	}
	rows(len(levels), 6, func(row []int) {
		s := New()
		ps, withouts := []string{""}, []string{""}
		for d, k := range row {
			p, without := levels[k].p, levels[k].without
			if p == "-" {
				p = ps[d]
			}
			if without == "-" {
				without = withouts[d]
			}
			ps, withouts = append(ps, p), append(withouts, without)
			if s.Push(levels[k].l) != api.OK || s.Depth() != d+1 {
				t.Fatalf("Push of level %d of %v", d, row)
			}
			check(s, p, without)
		}
		for d := len(row) - 1; d >= 0; d-- {
			if !s.Pop() || s.Depth() != d {
				t.Fatalf("Pop of level %d of %v", d, row)
			}
			check(s, ps[d], withouts[d])
		}
	})
}

// Promise 14.3: a prefix that is told means what was asked; and All, as one level, is bound just as all levels together.
func TestAllAndPrefixAgreeWithURI(t *testing.T) {
	l := kinds()
	rows(len(l), 3, func(row []int) {
		s := New()
		for _, k := range row {
			s.Push([]api.Attr{l[k]})
		}
		for _, uri := range uris() {
			if prefix, is := s.Prefix(uri); is {
				if back, bound := s.URI(prefix); back != uri || !bound {
					t.Fatalf("%v: %q is of prefix %q, which is of %q", row, uri, prefix, back)
				}
			}
		}
		flat := New()
		if flat.Push(s.All()) != api.OK || !slices.Equal(flat.All(), s.All()) {
			t.Fatalf("%v: %q became %q", row, s.All(), flat.All())
		}
	})
}

// xml may be declared over and over, and is never bound to anything else, nor unbound by what goes.
func TestXML(t *testing.T) {
	b := newBoth(t)
	for range 5 {
		b.push(bind("xml", xmlURI))
		b.push(bind("xml", xmlURI), bind("xml", xmlURI))
		b.push(bind("a", "u"), bind("xml", xmlURI))
		b.whole()
	}
	for range 12 {
		b.pop()
		b.whole()
	}
}

// A declaration of a prefix that is nothing is one of the default: with another of it, twice.
func TestPrefixOfNothing(t *testing.T) {
	nothing := func(uri string) api.Attr { return api.Attr{Prefix: "xmlns", URI: xmlnsURI, Value: uri} }
	b := newBoth(t)
	b.push(nothing("u"))
	if uri, is := b.s.URI(""); uri != "u" || !is {
		t.Errorf("the default: %q, %t", uri, is)
	}
	if prefix, is := b.s.Prefix("u"); prefix != "" || is {
		t.Errorf("Prefix(u) = %q, %t", prefix, is)
	}
	if l := b.s.All(); len(l) != 2 || l[0] != bind("", "u") {
		t.Errorf("All = %q", l)
	}
	b.push(nothing(""))
	b.whole()
	for _, l := range [][]api.Attr{{nothing("a"), bind("", "b")}, {bind("", "a"), nothing("a")}, {nothing(""), nothing("")}, {nothing(xmlURI)}, {nothing(xmlnsURI)}} {
		if code := b.s.Push(l); code != api.ErrSyntax || b.s.Depth() != 2 {
			t.Errorf("Push(%q) = %d", l, code)
		}
	}
	b.whole()
}

// Promise 14.2, of nil, whatever is asked of it.
func TestOfNil(t *testing.T) {
	var s *Scope
	for _, a := range kinds() {
		if code := s.Push([]api.Attr{a}); code != api.ErrArg {
			t.Errorf("Push(%q) = %d", a, code)
		}
	}
	if code := s.Push(nil); code != api.ErrArg {
		t.Errorf("Push(nil) = %d", code)
	}
	for _, prefix := range prefixes() {
		if uri, is := s.URI(prefix); uri != "" || is {
			t.Errorf("URI(%q) = %q, %t", prefix, uri, is)
		}
	}
	for _, uri := range uris() {
		if prefix, is := s.Prefix(uri); prefix != "" || is {
			t.Errorf("Prefix(%q) = %q, %t", uri, prefix, is)
		}
	}
	if s.Pop() || len(s.All()) != 0 || s.Depth() != 0 {
		t.Errorf("All %q, Depth %d", s.All(), s.Depth())
	}
}

// One that nobody made does as one that New made, whichever call comes first.
func TestOfNothing(t *testing.T) {
	first := []func(b both){
		both.whole,
		both.pop,
		func(b both) { b.push() },
		func(b both) { b.push(bind("xml", xmlURI)) },
		func(b both) { b.push(bind("p", "u"), bind("p", "u")) },
		func(b both) { b.same([]string{"xml"}, nil) },
		func(b both) { b.same(nil, []string{xmlURI}) },
		func(b both) { b.same(nil, nil) },
	}
	for _, do := range first {
		b := both{t, &Scope{}, &model{}}
		do(b)
		b.whole()
		b.push(bind("p", "u"), bind("", "d"))
		b.whole()
		b.pop()
		b.pop()
		b.whole()
	}
}

// Rule 5 of DOC.md: an empty list and none begin a level alike.
func TestEmptyLevels(t *testing.T) {
	b := newBoth(t)
	for k, l := range [][]api.Attr{nil, {}, make([]api.Attr, 0, 9)} {
		if code := b.s.Push(l); code != api.OK || b.s.Depth() != k+1 {
			t.Errorf("Push = %d, Depth %d", code, b.s.Depth())
		}
		b.m.push(l)
		b.whole()
	}
}

// Rule 1 of DOC.md: many levels, and a level of many, in time that grows as they do.
func TestMany(t *testing.T) {
	const many = 1 << 18
	s := New()
	for k := range many {
		uri := "u" + strconv.Itoa(k)
		if s.Push([]api.Attr{bind("p", uri), bind("", uri)}) != api.OK || s.Depth() != k+1 {
			t.Fatalf("level %d", k)
		}
	}
	for k := many - 1; k >= 0; k-- {
		uri := "u" + strconv.Itoa(k)
		got, is := s.URI("p")
		prefix, found := s.Prefix(uri)
		if got != uri || !is || prefix != "p" || !found || len(s.All()) != 3 || !s.Pop() {
			t.Fatalf("level %d: %q, %t, %q, %t", k, got, is, prefix, found)
		}
	}
	var level []api.Attr
	for k := range many {
		level = append(level, bind("p"+strconv.Itoa(k), "u"+strconv.Itoa(k%5)))
	}
	if s.Push(level) != api.OK || s.Push(level) != api.OK || s.Depth() != 2 {
		t.Fatal("a level of many")
	}
	if s.Push(append(level, bind("p7", "u"))) != api.ErrSyntax || s.Depth() != 2 {
		t.Fatal("a level of many, and one again")
	}
	for k := range many {
		if uri, is := s.URI("p" + strconv.Itoa(k)); uri != "u"+strconv.Itoa(k%5) || !is {
			t.Fatalf("p%d: %q, %t", k, uri, is)
		}
	}
	if prefix, _ := s.Prefix("u3"); prefix != "p100003" {
		t.Fatalf("the least of u3: %q", prefix)
	}
	if l := s.All(); len(l) != many+1 || l[0] != bind("p0", "u0") || l[many-1] != bind("p99999", "u4") || l[many] != bind("xml", xmlURI) {
		t.Fatalf("All: %d, %q", len(l), l[0])
	}
}

// Rule 1 of DOC.md: a long prefix with a long URI, asked of very often: answers are no longer, the longer they are.
func TestLong(t *testing.T) {
	prefix, uri := strings.Repeat("p", 1<<22), strings.Repeat("u", 1<<22)
	b := newBoth(t)
	b.push(bind(prefix, uri), bind("", uri+"d"), bind(prefix[1:], uri))
	b.same([]string{"", prefix, prefix[1:], prefix[2:]}, []string{uri, uri + "d", uri[1:]})
	if n := testing.AllocsPerRun(100, func() { b.s.URI("") }); n != 0 {
		t.Errorf("of each URI %f new memories", n)
	}
	for range 1 << 20 {
		if got, is := b.s.URI(""); len(got) != 1<<22+1 || !is {
			t.Fatalf("%d, %t", len(got), is)
		}
	}
}

// Rule 3 of DOC.md: the same calls give the same answers, and what is done to one is done to no other one.
func TestEachOnItsOwn(t *testing.T) {
	x, y := New(), New()
	for _, a := range append(kinds(), kinds()...) {
		ahead := y.All()
		code := x.Push([]api.Attr{a})
		if !slices.Equal(y.All(), ahead) {
			t.Fatalf("Push(%q) of one is told by the other: %q", a, y.All())
		}
		if again := y.Push([]api.Attr{a}); again != code || x.Depth() != y.Depth() || !slices.Equal(x.All(), y.All()) {
			t.Fatalf("Push(%q) = %d, and %d: %q, and %q", a, code, again, x.All(), y.All())
		}
		for range 10 {
			p, _ := x.Prefix("u")
			if q, _ := y.Prefix("u"); p != q {
				t.Fatalf("behind %q: %q, and %q", a, p, q)
			}
		}
	}
}

// fresh is s in bytes that nobody else has.
func fresh(s string) string {
	b := []byte(s)
	return unsafe.String(unsafe.SliceData(b), len(b))
}

// spoil changes all bytes of s.
func spoil(s string) {
	b := unsafe.Slice(unsafe.StringData(s), len(s))
	for k := range b {
		b[k] ^= 0x55
	}
}

// Rule 2 of DOC.md: attributes that are handed in are neither changed nor kept, not even the bytes of a text; nor are they by a Push that pushes nothing.
func TestAttributesAreNotKept(t *testing.T) {
	level := func() []api.Attr {
		return []api.Attr{bind("p", "u"), bind("", "v"), {Local: "x", Value: "y"}, bind("a", "u"), bind("xml", xmlURI)}
	}
	for _, last := range [][]api.Attr{nil, {bind("p", "u")}} {
		b := newBoth(t)
		b.push(bind("p", "old"))
		want := append(level(), last...)
		b.m.push(want)
		given := slices.Clone(want)
		for k, a := range given {
			given[k] = api.Attr{Prefix: fresh(a.Prefix), Local: fresh(a.Local), URI: fresh(a.URI), Value: fresh(a.Value)}
		}
		b.s.Push(given)
		if !slices.Equal(given, want) {
			t.Fatalf("they became %q", given)
		}
		for k, a := range given {
			for _, s := range []string{a.Prefix, a.Local, a.URI, a.Value} {
				spoil(s)
			}
			given[k] = bind("q", "other")
		}
		b.whole()
		b.pop()
		b.whole()
	}
}

// Rule 2 of DOC.md: what is asked with is neither changed nor kept.
func TestQuestionsAreNotKept(t *testing.T) {
	b := newBoth(t)
	b.push(bind("p", "u"))
	for _, s := range []string{"p", "u", "q", "xml", xmlURI} {
		asked := fresh(s)
		b.s.URI(asked)
		b.s.Prefix(asked)
		if asked != s {
			t.Fatalf("it became %q", asked)
		}
		spoil(asked)
		b.whole()
	}
}

// Rule 2 of DOC.md: a list that is answered is the caller's own, whatever is put into it or behind it.
func TestListsAreTheCallersOwn(t *testing.T) {
	b := newBoth(t)
	b.push(bind("p", "u"), bind("", "v"))
	x, y := b.s.All(), b.s.All()
	for k := range x {
		x[k] = bind("q", "other")
	}
	x = append(x[:1], bind("q", "other"))
	if !slices.Equal(y, b.m.all()) {
		t.Errorf("the other one became %q beside %q", y, x)
	}
	b.whole()
	b.pop()
	if !slices.Equal(y, []api.Attr{bind("", "v"), bind("p", "u"), bind("xml", xmlURI)}) {
		t.Errorf("behind Pop it became %q", y)
	}
}

// What is popped is kept no longer: a Scope of no levels holds xml alone.
func TestNothingIsKept(t *testing.T) {
	s := New()
	for range 100 {
		s.Push([]api.Attr{bind("p", "u"), bind("", "v")})
		s.Push([]api.Attr{bind("p", "w"), bind("q", "")})
	}
	for s.Pop() {
	}
	if len(s.nearest) != 1 || len(s.levels) != 0 {
		t.Errorf("%d bound, %d levels", len(s.nearest), len(s.levels))
	}
	for k, level := range s.levels[:cap(s.levels)] {
		if level != nil {
			t.Errorf("level %d is kept", k)
		}
	}
}

// The document's example.
func TestExample(t *testing.T) {
	if uri, is := New().URI("xml"); uri != api.XMLURI || !is {
		t.Errorf("xml: %q, %t", uri, is)
	}
}

package tree

import (
	"math"
	"slices"
	"strconv"
	"strings"
	"testing"
	"time"
	"unsafe"

	"bracken/api"
	"bracken/read"
)

// of is the tree that s denotes.
func of(t *testing.T, s string) api.Tree {
	t.Helper()
	x, code := read.Tree([]byte(s), most())
	if code != api.OK {
		t.Fatalf("%q: %d", s, code)
	}
	return x
}

// copied is x, whole, in memory of its own.
func copied(x api.Tree) api.Tree {
	y := slices.Clone(x)
	for k := range y {
		y[k].Attrs = slices.Clone(y[k].Attrs)
	}
	return y
}

// samples are trees of all that there is.
func samples(t *testing.T) []api.Tree {
	t.Helper()
	var l []api.Tree
	for _, s := range []string{
		"<a/>",
		"<!--c--><?p?><a xmlns:p='u' p:k='1' k='2'>t<p:b/>v<?q r?><c xmlns='d'>w<!----></c></a><?q?><!--e-->",
		"<p:a xmlns:p='u' xmlns='v'><p:b xmlns:p='w' p:c='' c=''>x<d xmlns=''><e xmlns='v' xmlns:q='u'/></d>y</p:b><f xml:lang='&lt;&#13;'/><xml:g/>z</p:a>",
		"<a><b><c>x</c>y</b>z<d><e/><f>&#13;&#10;</f></d></a>",
	} {
		l = append(l, of(t, s))
	}
	return l
}

func doc() api.Node { return api.Node{Kind: api.NDoc} }

func elem(depth int, local string, attrs ...api.Attr) api.Node {
	return api.Node{Kind: api.NElem, Depth: depth, Local: local, Attrs: attrs}
}

func text(depth int, s string) api.Node {
	return api.Node{Kind: api.NText, Depth: depth, Value: s}
}

func remark(depth int, s string) api.Node {
	return api.Node{Kind: api.NComment, Depth: depth, Value: s}
}

func pi(depth int, local, s string) api.Node {
	return api.Node{Kind: api.NPI, Depth: depth, Local: local, Value: s}
}

// bind is a declaration: of a prefix, or, of "", of the default.
func bind(prefix, uri string) api.Attr {
	if prefix == "" {
		return api.Attr{Local: "xmlns", URI: xmlnsURI, Value: uri}
	}
	return api.Attr{Prefix: "xmlns", Local: prefix, URI: xmlnsURI, Value: uri}
}

// Promises 16.1 and 16.2: all short rows of nodes of all kinds, at several depths.
func TestAllShort(t *testing.T) {
	var pieces []api.Node
	for depth := range 4 {
		pieces = append(pieces, elem(depth, "a"), text(depth, "x"), remark(depth, ""))
	}
	pieces = append(pieces, doc(), pi(1, "p", ""), pi(2, "p", "q"), text(2, ""), api.Node{Kind: 6, Depth: 2}, api.Node{Depth: 1}, api.Node{Kind: api.NDoc, Depth: 1})
	are := 0
	for _, start := range [][]api.Node{nil, {doc()}, {doc(), elem(1, "r")}} {
		rows(start, 4, pieces, func(x []api.Node) {
			if check(t, x) {
				are++
			}
			checkPlaces(t, x)
		})
	}
	if are < 1000 {
		t.Errorf("%d trees only", are)
	}
}

// Promises 16.1 and 16.2: longer rows of such nodes as stand in most trees.
func TestAllLonger(t *testing.T) {
	pieces := []api.Node{elem(2, "a"), elem(3, "b"), elem(4, "c"), text(2, "x"), text(3, "y"), text(4, "z"), pi(3, "p", "q"), remark(1, "-c")}
	are := 0
	rows([]api.Node{doc(), elem(1, "r", bind("p", "u"))}, 5, pieces, func(x []api.Node) {
		if check(t, x) {
			are++
			checkPlaces(t, x)
		}
	})
	if are < 900 {
		t.Errorf("%d trees only", are)
	}
}

// Promise 16.1: trees that may be, told one by one.
func TestMay(t *testing.T) {
	for k, x := range []api.Tree{
		{doc(), elem(1, "a")},
		{doc(), remark(1, ""), elem(1, "a"), pi(1, "p", "")},
		{doc(), elem(1, "a"), text(2, "x"), elem(2, "b"), text(2, "y")},
		{doc(), elem(1, "a"), text(2, "x"), remark(2, ""), text(2, "y"), pi(2, "p", ""), text(2, "z")},
		{doc(), elem(1, "a"), elem(2, "b"), text(3, "x"), text(2, "y")},
		{doc(), elem(1, "a"), elem(2, "b"), text(3, "x"), elem(2, "b"), text(3, "y")},
		{doc(), elem(1, "xmlns"), elem(2, "xml")},
		{doc(), {Kind: api.NElem, Depth: 1, Prefix: "xml", Local: "a", URI: xmlURI}},
		{doc(), elem(1, "a", bind("xml", xmlURI))},
		{doc(), elem(1, "a", bind("", ""))},
		{doc(), elem(1, "a", api.Attr{Local: "b", Value: "\r\n\t\"<&>'"}, api.Attr{Local: "c"})},
		{doc(), elem(1, "a", bind("p", "u"), api.Attr{Prefix: "p", Local: "xmlns", URI: "u"}, api.Attr{Prefix: "p", Local: "p", URI: "u"}, api.Attr{Local: "p"})},
		{doc(), elem(1, "a", api.Attr{Prefix: "p", Local: "b", URI: "u"}, bind("p", "u"))},
		{doc(), {Kind: api.NElem, Depth: 1, Local: "a", URI: "u", Attrs: []api.Attr{bind("", "u"), bind("p", "u"), {Local: "b"}, {Prefix: "p", Local: "b", URI: "u"}}}},
		{doc(), elem(1, "a", bind("p", "u")), elem(2, "b", bind("p", "v"), api.Attr{Prefix: "p", Local: "c", URI: "v"}), {Kind: api.NElem, Depth: 2, Prefix: "p", Local: "d", URI: "u"}},
		{doc(), elem(1, "a"), text(2, " \r]]>&<\u00e9\U0010FFFF")},
		{doc(), elem(1, "a"), remark(2, "-a - b?>\n")},
		{doc(), elem(1, "a"), pi(2, "xmlns", "?"), pi(2, "XMLa", "? >--"), pi(2, "p", "a ")},
	} {
		if !check(t, x) {
			t.Errorf("%d: %s", k, show(x))
		}
	}
}

// Promise 16.1: trees that may not be, told one by one.
func TestMayNot(t *testing.T) {
	long := elem(1, "a", bind("p", "u"), bind("q", "u"))
	for k, x := range []api.Tree{
		nil, {}, {doc()}, {{}}, {elem(0, "a")}, {elem(1, "a")}, {doc(), doc()}, {doc(), elem(1, "a"), doc()}, {doc(), elem(1, "a"), {Kind: api.NDoc, Depth: 2}},
		{{Kind: api.NDoc, Depth: 1}, elem(2, "a")}, {{Kind: api.NDoc, Depth: -1}, elem(0, "a")}, {{Kind: api.NDoc, Value: "x"}, elem(1, "a")}, {{Kind: api.NDoc, Local: "x"}, elem(1, "a")}, {{Kind: api.NDoc, Prefix: "x"}, elem(1, "a")}, {{Kind: api.NDoc, URI: "x"}, elem(1, "a")}, {{Kind: api.NDoc, Attrs: []api.Attr{{}}}, elem(1, "a")},
		{doc(), remark(1, "")}, {doc(), elem(2, "a")}, {doc(), elem(0, "a")}, {doc(), elem(-1, "a")}, {doc(), elem(1, "a"), elem(1, "b")}, {doc(), elem(1, "a"), elem(2, "b"), elem(1, "c")}, {doc(), elem(1, "a"), elem(3, "b")}, {doc(), elem(1, "a"), elem(2, "b"), elem(0, "c")},
		{doc(), remark(1, ""), elem(2, "a")}, {doc(), elem(1, "a"), text(2, "x"), text(3, "y")}, {doc(), elem(1, "a"), pi(2, "p", ""), elem(3, "b")}, {doc(), elem(1, "a"), remark(2, ""), remark(3, "")},
		{doc(), text(1, " "), elem(1, "a")}, {doc(), elem(1, "a"), text(1, "\n")}, {doc(), elem(1, "a"), text(2, "")}, {doc(), elem(1, "a"), text(2, "x"), text(2, "y")}, {doc(), elem(1, "a"), text(2, "x"), text(2, "")},
		{doc(), elem(1, "")}, {doc(), elem(1, "1")}, {doc(), elem(1, "p:a", bind("p", "u"))}, {doc(), elem(1, "a b")}, {doc(), elem(1, "a\xff")}, {doc(), {Kind: api.NElem, Depth: 1, Local: "a", Value: "x"}},
		{doc(), {Kind: api.NElem, Depth: 1, Prefix: "p", Local: "a"}}, {doc(), {Kind: api.NElem, Depth: 1, Prefix: "p", Local: "a", URI: "u"}}, {doc(), {Kind: api.NElem, Depth: 1, Local: "a", URI: "u"}}, {doc(), {Kind: api.NElem, Depth: 1, Prefix: "xmlns", Local: "a", URI: xmlnsURI}}, {doc(), {Kind: api.NElem, Depth: 1, Prefix: "xml", Local: "a"}}, {doc(), elem(1, "a", bind("", "u"))},
		{doc(), {Kind: api.NElem, Depth: 1, Prefix: "p:", Local: "a", URI: "u", Attrs: []api.Attr{bind("p", "u")}}}, {doc(), {Kind: api.NElem, Depth: 1, Prefix: "p", Local: "", URI: "u", Attrs: []api.Attr{bind("p", "u")}}},
		{doc(), elem(1, "a", bind("p", ""))}, {doc(), elem(1, "a", bind("xmlns", "u"))}, {doc(), elem(1, "a", bind("xmlns", xmlnsURI))}, {doc(), elem(1, "a", bind("xml", "u"))}, {doc(), elem(1, "a", bind("p", xmlURI))}, {doc(), elem(1, "a", bind("p", xmlnsURI))}, {doc(), elem(1, "a", bind("p", "u"), bind("p", "u"))}, {doc(), elem(1, "a", bind("1", "u"))}, {doc(), elem(1, "a", bind("p:q", "u"))}, {doc(), elem(1, "a", bind("p", "\x00"))},
		{doc(), {Kind: api.NElem, Depth: 1, Local: "a", URI: xmlURI, Attrs: []api.Attr{bind("", xmlURI)}}}, {doc(), {Kind: api.NElem, Depth: 1, Local: "a", URI: xmlnsURI, Attrs: []api.Attr{bind("", xmlnsURI)}}},
		{doc(), elem(1, "a", api.Attr{Local: "xmlns", Value: ""})}, {doc(), elem(1, "a", api.Attr{Prefix: "xmlns", Local: "p", Value: "u"})}, {doc(), elem(1, "a", api.Attr{Local: "b", URI: xmlnsURI})}, {doc(), elem(1, "a", api.Attr{Prefix: "xmlns", URI: xmlnsURI})},
		{doc(), elem(1, "a", api.Attr{Local: "b", URI: "u"})}, {doc(), elem(1, "a", api.Attr{Prefix: "p", Local: "b"})}, {doc(), elem(1, "a", api.Attr{Prefix: "p", Local: "b", URI: "u"})}, {doc(), elem(1, "a", bind("p", "u"), api.Attr{Prefix: "p", Local: "b"})}, {doc(), elem(1, "a", api.Attr{})}, {doc(), elem(1, "a", api.Attr{Local: "b:c"})}, {doc(), elem(1, "a", api.Attr{Local: "b", Value: "\xff"})},
		{doc(), elem(1, "a", api.Attr{Local: "b"}, api.Attr{Local: "b", Value: "x"})}, {doc(), elem(1, "a", bind("p", "u"), bind("q", "u"), api.Attr{Prefix: "p", Local: "b", URI: "u"}, api.Attr{Prefix: "q", Local: "b", URI: "u"})}, {doc(), long, elem(2, "a", api.Attr{Prefix: "q", Local: "b", URI: "u"}, api.Attr{Local: "b"}, api.Attr{Prefix: "p", Local: "b", URI: "u"})},
		{doc(), elem(1, "a"), elem(2, "b", bind("p", "u")), {Kind: api.NElem, Depth: 2, Prefix: "p", Local: "c", URI: "u"}},
		{doc(), elem(1, "a"), remark(2, "--")}, {doc(), elem(1, "a"), remark(2, "-")}, {doc(), elem(1, "a"), remark(2, "a\r")}, {doc(), elem(1, "a"), remark(2, "\x01")}, {doc(), elem(1, "a"), {Kind: api.NComment, Depth: 2, Local: "b"}},
		{doc(), elem(1, "a"), pi(2, "", "x")}, {doc(), elem(1, "a"), pi(2, "p:q", "x")}, {doc(), elem(1, "a"), pi(2, "xml", "x")}, {doc(), elem(1, "a"), pi(2, "XmL", "x")}, {doc(), elem(1, "a"), pi(2, "p", "\tx")}, {doc(), elem(1, "a"), pi(2, "p", " ")}, {doc(), elem(1, "a"), pi(2, "p", "a?>")}, {doc(), elem(1, "a"), pi(2, "p", "a\rb")}, {doc(), elem(1, "a"), {Kind: api.NPI, Depth: 2, Prefix: "p", Local: "q"}},
	} {
		if check(t, x) {
			t.Errorf("%d: %s", k, show(x))
		}
		checkPlaces(t, x)
	}
}

// Promise 16.1: all rows of up to three attributes of many kinds, of several elements, below several others.
func TestNamesOfAllShort(t *testing.T) {
	pieces := []api.Attr{
		{Local: "b"}, {Local: "b", URI: "u", Value: "x"}, {Local: "b", URI: "d"}, {Prefix: "p", Local: "b", URI: "u"}, {Prefix: "p", Local: "b", URI: "v"}, {Prefix: "q", Local: "b", URI: "u"}, {Prefix: "q", Local: "c", URI: "v"}, {Prefix: "p", Local: "b"},
		bind("", "u"), bind("", ""), bind("p", "u"), bind("p", "v"), bind("q", "u"), bind("p", ""), bind("xml", xmlURI), bind("p", xmlURI), bind("xmlns", "u"), bind("", xmlnsURI),
		{Prefix: "xml", Local: "b", URI: xmlURI}, {Prefix: "xmlns", Local: "p", Value: "u"}, {Local: "xmlns", Value: "u"}, {Prefix: "xmlns", Local: "", URI: xmlnsURI, Value: "u"}, {Prefix: "p", Local: "xmlns", URI: "u"}, {Prefix: "p", Local: "b:c", URI: "u"}, {Local: "p:b", URI: "u"}, {Local: "q", URI: xmlnsURI},
	}
	elems := []api.Node{{Local: "a"}, {Local: "a", URI: "u"}, {Prefix: "p", Local: "a", URI: "u"}, {Prefix: "q", Local: "a", URI: "v"}, {Local: "p:a", URI: "u"}}
	around := [][]api.Attr{nil, {bind("", "u"), bind("p", "u")}, {bind("p", "u"), bind("q", "v")}}
	are := 0
	rows(nil, 3, pieces, func(l []api.Attr) {
		for _, n := range elems {
			n.Kind, n.Depth, n.Attrs = api.NElem, 2, l
			for k, m := range around {
				if k > 0 && len(l) > 2 {
					continue
				}
				r := elem(1, "r", m...)
				if k == 1 {
					r.URI = "u"
				}
				x := api.Tree{doc(), r, n, text(3, "x")}
				if check(t, x) {
					are++
					checkPlaces(t, x)
				}
			}
		}
	})
	if are < 500 {
		t.Errorf("%d trees only", are)
	}
}

// Promise 16.1: each part of each node of a sample, with many others in its place.
func TestEachPart(t *testing.T) {
	texts := []string{"", "x", "p", "u", "a:b", "1", "-", "--", "-x", "x-", " x", "x ", "\tx", "\n", "\r", "x\ry", "?", "?>", "x?>y", "> ?", "xml", "xMl", "xmlns", "\x00", "\x1f", "\ufffd", "\ufffe", "\xff", "x\xed\xa0\x80", "\U0010ffff", "<", "&", "\"", "]]>", xmlURI, xmlnsURI, "\u00e9", "\u00b7"}
	numbers := []int{math.MinInt, -1, 0, 1, 2, 3, 4, 5, 6, math.MaxInt}
	for _, s := range samples(t) {
		if !check(t, s) {
			t.Fatalf("%s may not be", show(s))
		}
		checkPlaces(t, s)
		for k := range s {
			x := copied(s)
			for _, p := range []*int{&x[k].Kind, &x[k].Depth} {
				was := *p
				for _, *p = range numbers {
					check(t, x)
				}
				*p = was
			}
			parts := []*string{&x[k].Prefix, &x[k].Local, &x[k].URI, &x[k].Value}
			for j := range x[k].Attrs {
				a := &x[k].Attrs[j]
				parts = append(parts, &a.Prefix, &a.Local, &a.URI, &a.Value)
			}
			for _, p := range parts {
				was := *p
				for _, *p = range texts {
					check(t, x)
				}
				*p = was
			}
			for _, a := range []api.Attr{{}, {Local: "z"}, bind("z", "z"), bind("p", "z"), bind("", "z")} {
				for j := range len(x[k].Attrs) + 1 {
					y := copied(x)
					y[k].Attrs = slices.Insert(y[k].Attrs, j, a)
					check(t, y)
				}
			}
		}
	}
}

// Promise 16.1: each sample without each piece of it, with each of its nodes at each other place, and each beginning and end of it.
func TestEachPlace(t *testing.T) {
	for _, s := range samples(t) {
		for k := range s {
			check(t, s[:k])
			check(t, s[k:])
			for j := k; j <= len(s); j++ {
				check(t, slices.Concat(s[:k], s[j:]))
				check(t, slices.Insert(slices.Clone(s), j, s[k]))
			}
		}
	}
}

// Promise 16.1: all short rows of marks, as each kind of text.
func TestTextsOfAllShort(t *testing.T) {
	pieces := []string{"x", "-", "?", ">", " ", "\t", "\n", "\r", "\x0b", "\xff", "\u00e9", "]", "<", "&", ":", "'", "\""}
	rows(nil, 3, pieces, func(l []string) {
		s := strings.Join(l, "")
		for _, n := range []api.Node{text(2, s), remark(2, s), pi(2, "p", s), pi(2, s, "x"), elem(2, s), elem(2, "a", api.Attr{Local: "b", Value: s}), elem(2, "a", api.Attr{Local: s}), elem(2, "a", bind("", s)), {Kind: api.NElem, Depth: 2, Local: "a", URI: s, Attrs: []api.Attr{bind("", s), bind("q", s)}}, {Kind: api.NElem, Depth: 2, Prefix: s, Local: "a", URI: "u", Attrs: []api.Attr{bind(s, "u")}}} {
			check(t, api.Tree{doc(), elem(1, "r"), n})
		}
		check(t, api.Tree{doc(), elem(1, "r"), pi(1, "p", s), remark(1, s)})
	})
}

// Promise 16.1: every number as a character of each kind of text.
func TestEachChar(t *testing.T) {
	trees := []api.Tree{{doc(), elem(1, "a"), text(2, "")}, {doc(), elem(1, "a"), remark(2, "")}, {doc(), elem(1, "a"), pi(2, "p", "")}}
	attr := api.Tree{doc(), elem(1, "a", api.Attr{Local: "b"})}
	for r := range rune(0x110000) {
		s := string(r)
		char := r == 9 || r == 10 || r == 13 || r >= 0x20 && r <= 0xd7ff || r >= 0xe000 && r <= 0xfffd || r >= 0x10000
		if r >= 0xd800 && r < 0xe000 {
			// As its bytes would be, were it one.
			s = string([]byte{0xed, byte(0x80 | r>>6&0x3f), byte(0x80 | r&0x3f)})
		}
		for k, x := range trees {
			x[2].Value = "x" + s + "y"
			if May(x) != (char && (k == 0 || r != 13)) {
				t.Fatalf("%d, %#x: %t", k, r, May(x))
			}
		}
		attr[1].Attrs[0].Value = s
		if May(attr) != char {
			t.Fatalf("%#x: %t", r, May(attr))
		}
	}
}

// nested is n elements within one another.
func nested(n int) api.Tree {
	x := api.Tree{doc()}
	for k := range n {
		x = append(x, elem(k+1, "a"))
	}
	return x
}

// Promise 16.1: Depths up to MaxDepth and one, of all kinds.
func TestDeep(t *testing.T) {
	for n := 1; n < 205; n++ {
		x := nested(n)
		if May(x) != (n <= 201) {
			t.Errorf("%d elements within one another: %t", n, May(x))
		}
		for _, last := range []api.Node{text(n+1, "x"), remark(n+1, ""), pi(n+1, "p", ""), elem(n+1, "a")} {
			y := append(x[:n+1:n+1], last)
			if May(y) != (n <= 200) || Parent(y, n+1) != n || End(y, 0) != n+2 {
				t.Errorf("%d elements, and within the last one a %d: %t", n, last.Kind, May(y))
			}
		}
		for _, depth := range []int{math.MinInt, -1, 0, 1, 2, n + 2, n + 3, 201, 202, math.MaxInt} {
			y := append(x[:n+1:n+1], remark(depth, ""))
			if May(y) != modelMay(y) {
				t.Errorf("%d elements, and a comment of Depth %d: %t", n, depth, May(y))
			}
		}
		if n <= 200 && !denoted(x) {
			t.Errorf("%d elements are not read as they were", n)
		}
	}
}

// Promise 16.1: as many nodes as may be, and one more, in time that grows as they do.
func TestMany(t *testing.T) {
	begun := time.Now()
	const many = 1 << 20
	for _, two := range [][]api.Node{{elem(2, "b"), text(2, "x")}, {elem(2, "b", bind("p", "u")), remark(3, "c")}, {pi(2, "p", ""), remark(2, "")}, {elem(2, "b", api.Attr{Local: "c"}, api.Attr{Local: "d"}), elem(3, "b")}} {
		x := api.Tree{doc(), elem(1, "a")}
		for len(x) < many {
			x = append(x, two...)
		}
		if len(x) != many || !May(x) {
			t.Errorf("%d nodes may not be", len(x))
		}
		if May(append(x, elem(2, "b"))) {
			t.Error("one more may be")
		}
		if End(x, 1) != many || Parent(x, many-1) < 1 || !Same(x, copied(x)) || len(Scope(x, 1)) != 1 {
			t.Error("places of many")
		}
		x[many-1].Value = "\x00"
		if May(x) || Diff(x, x[:many-1]) != many-1 || Scope(x, 1) != nil {
			t.Error("the last one may not be")
		}
	}
	if took := time.Since(begun); took > 20*time.Second {
		t.Errorf("it took %v", took)
	}
}

// Promise 16.1: very many attributes, which no number is told of.
func TestManyAttributes(t *testing.T) {
	const many = 1 << 17
	var l []api.Attr
	for k := range many {
		p := "p" + strconv.Itoa(k)
		l = append(l, bind(p, "u"+p), api.Attr{Prefix: p, Local: "a", URI: "u" + p}, api.Attr{Local: p})
	}
	x := api.Tree{doc(), elem(1, "a", l...), elem(2, "b")}
	if !May(x) || len(Scope(x, 2)) != many+1 {
		t.Error("may not be")
	}
	l[len(l)-1].Local = "p0"
	if May(x) {
		t.Error("with two of one name it may be")
	}
}

// Promise 16.2: all rows of Depths, also of such as no tree has.
func TestPlacesOfAllDepths(t *testing.T) {
	var pieces []api.Node
	for _, depth := range []int{math.MinInt, -1, 0, 1, 2, math.MaxInt} {
		pieces = append(pieces, remark(depth, ""))
	}
	rows(nil, 5, pieces, func(x []api.Node) {
		checkPlaces(t, x)
		for _, k := range []int{math.MinInt, math.MaxInt} {
			if Parent(x, k) != -1 || End(x, k) != -1 || Scope(x, k) != nil {
				t.Fatalf("of no node %d", k)
			}
		}
	})
}

// Promise 16.2: places of samples, told one by one.
func TestPlaces(t *testing.T) {
	x := of(t, "<!--c--><a>t<b>u<c/></b>v<d/></a><?p?>")
	for k, want := range [][2]int{{-1, 10}, {0, 2}, {0, 9}, {2, 4}, {2, 7}, {4, 6}, {4, 7}, {2, 8}, {2, 9}, {0, 10}} {
		if Parent(x, k) != want[0] || End(x, k) != want[1] {
			t.Errorf("%d: %d, %d", k, Parent(x, k), End(x, k))
		}
	}
}

// Promise 16.2: trees that are unlike in one part of one node; parts that a node of its kind does not have count, too.
func TestSame(t *testing.T) {
	for _, x := range append(samples(t), api.Tree{{}, {Kind: -1, Depth: -1, Value: "\xff"}}) {
		if !Same(x, x) || Diff(x, x) != -1 || !Same(x, copied(x)) || Diff(x, copied(x)) != -1 {
			t.Errorf("%s is unlike itself", show(x))
		}
		for k := range x {
			for j, change := range []func(n *api.Node){
				func(n *api.Node) { n.Kind++ }, func(n *api.Node) { n.Depth-- }, func(n *api.Node) { n.Prefix += "x" }, func(n *api.Node) { n.Local += "x" }, func(n *api.Node) { n.URI += "x" }, func(n *api.Node) { n.Value += "x" }, func(n *api.Node) { n.Attrs = append(n.Attrs, api.Attr{}) }, func(n *api.Node) { n.Attrs = append([]api.Attr{{Local: "z"}}, n.Attrs...) },
			} {
				y := copied(x)
				change(&y[k])
				if Same(x, y) || Same(y, x) || Diff(x, y) != k || Diff(y, x) != k {
					t.Errorf("%s: %d of %d: %d, %d", show(x), j, k, Diff(x, y), Diff(y, x))
				}
				y = append(y, doc())
				if Same(x, y) || Diff(x, y) != k || Diff(y, x) != k {
					t.Errorf("%s, and a longer one: %d of %d: %d, %d", show(x), j, k, Diff(x, y), Diff(y, x))
				}
			}
			for j := range x[k].Attrs {
				for i, change := range []func(a *api.Attr){func(a *api.Attr) { a.Prefix += "x" }, func(a *api.Attr) { a.Local += "x" }, func(a *api.Attr) { a.URI += "x" }, func(a *api.Attr) { a.Value += "x" }} {
					y := copied(x)
					change(&y[k].Attrs[j])
					if Same(x, y) || Diff(x, y) != k || Diff(y, x) != k {
						t.Errorf("%s: part %d of attribute %d of %d: %d", show(x), i, j, k, Diff(x, y))
					}
				}
			}
			if Same(x, x[:k]) || Same(x[:k], x) || Diff(x, x[:k]) != k || Diff(x[:k], x) != k {
				t.Errorf("%s and the first %d of it: %d", show(x), k, Diff(x, x[:k]))
			}
		}
	}
}

// Promise 16.2: attributes in another order are unlike; of two places the first one is told.
func TestDiff(t *testing.T) {
	x := of(t, "<a b='1' c='2'>x<d/>y</a>")
	y := copied(x)
	y[1].Attrs[0], y[1].Attrs[1] = y[1].Attrs[1], y[1].Attrs[0]
	if Same(x, y) || Diff(x, y) != 1 {
		t.Errorf("another order: %d", Diff(x, y))
	}
	for k := range x {
		for j := range x {
			z := copied(x)
			z[k].Value += "z"
			z[j].Local += "z"
			if Diff(x, z) != min(k, j) || Diff(z, x) != min(k, j) {
				t.Errorf("%d and %d: %d", k, j, Diff(x, z))
			}
		}
	}
	// Alike up to where one part of a text is another's.
	if v, w := (api.Tree{{Prefix: "a", Local: "b"}}), (api.Tree{{Prefix: "ab"}}); Same(v, w) || Diff(v, w) != 0 {
		t.Error("a, b and ab")
	}
}

// Rule 5 of DOC.md: nothing and an empty list are the same.
func TestNothing(t *testing.T) {
	for _, x := range []api.Tree{nil, {}} {
		for _, y := range []api.Tree{nil, {}} {
			if !Same(x, y) || Diff(x, y) != -1 {
				t.Error("nothing is unlike nothing")
			}
		}
		z := api.Tree{doc(), elem(1, "a")}
		if May(x) || Same(x, z) || Diff(x, z) != 0 || Diff(z, x) != 0 {
			t.Error("nothing and a tree")
		}
		for _, k := range []int{math.MinInt, -1, 0, 1, math.MaxInt} {
			if Parent(x, k) != -1 || End(x, k) != -1 || Scope(x, k) != nil {
				t.Errorf("place %d of nothing", k)
			}
		}
	}
	x, y := api.Tree{doc(), elem(1, "a"), text(2, "x")}, api.Tree{doc(), elem(1, "a"), text(2, "x")}
	for k := range y {
		y[k].Attrs = []api.Attr{}
	}
	if !May(x) || !May(y) || !Same(x, y) || Diff(y, x) != -1 {
		t.Error("no attributes, and an empty list of them")
	}
}

// Promise 16.2: what is bound, told one by one.
func TestScope(t *testing.T) {
	x := of(t, "<a xmlns='d' xmlns:q='u' xmlns:p='u'>t<b xmlns='' xmlns:p='v'><c xmlns:xml='"+xmlURI+"' xmlns:r='w'/></b><d xmlns='e'/><!--c--><?p?></a>")
	of := map[int]string{1: "=d p=u q=u xml=XML", 3: "p=v q=u xml=XML", 4: "p=v q=u r=w xml=XML", 5: "=e p=u q=u xml=XML"}
	for k := -1; k <= len(x); k++ {
		var l []string
		for _, a := range Scope(x, k) {
			prefix := a.Local
			if a.Prefix == "" && a.Local == "xmlns" {
				prefix = ""
			} else if a.Prefix != "xmlns" {
				t.Errorf("%v is no declaration", a)
			}
			if a.URI != xmlnsURI {
				t.Errorf("%v is no declaration", a)
			}
			l = append(l, prefix+"="+strings.Replace(a.Value, xmlURI, "XML", 1))
		}
		if got := strings.Join(l, " "); got != of[k] {
			t.Errorf("%d: %s, not %s", k, got, of[k])
		}
	}
	// Nothing is told of a tree that may not be, wherever its fault is.
	for k := range x {
		y := copied(x)
		y[k].Value += "\x00"
		for j := range y {
			if Scope(y, j) != nil {
				t.Errorf("%d may not be, and at %d: %v", k, j, Scope(y, j))
			}
		}
	}
	for k := range x {
		for j := k + 1; j < len(x); j++ {
			if y := x[:j]; !slices.Equal(Scope(y, k), Scope(x, k)) {
				t.Errorf("of a shorter one, %d: %v", k, Scope(y, k))
			}
		}
	}
}

// Promise 16.2: what is bound within as many elements as may be.
func TestScopeDeep(t *testing.T) {
	x := nested(201)
	for k := range x[1:] {
		x[k+1].Attrs = []api.Attr{bind("p"+strconv.Itoa(k%3), "u"+strconv.Itoa(k))}
	}
	want := []api.Attr{bind("p0", "u198"), bind("p1", "u199"), bind("p2", "u200"), bind("xml", xmlURI)}
	if got := Scope(x, 201); !slices.Equal(got, want) {
		t.Errorf("%v", got)
	}
	if got := Scope(x, 1); !slices.Equal(got, []api.Attr{bind("p0", "u0"), bind("xml", xmlURI)}) {
		t.Errorf("%v", got)
	}
}

// Promise 16.3 and theorem T3 of DOC.md: each tree that is read may be, and what is written of it is read as it was; written again it is the same.
func TestWhatIsRead(t *testing.T) {
	pieces := []string{"<a>", "</a>", "<b c='1 &lt;&#13;&#10;'/>", "<p:b xmlns:p='u'>", "</p:b>", "<p:c p:d='' d='\"'/>", "<a xmlns='u'>", "x", "\r\n", "&gt;&e;", "&f;", "<!--c - -->", "<?p q??>", "<?p?>", "<![CDATA[<y>]]]]>", "&#13;"}
	trees := 0
	rows(nil, 4, pieces, func(l []string) {
		for _, end := range []string{"</a>", "</p:c></a><!---->"} {
			if len(l) > 3 && end != "</a>" {
				continue
			}
			s := "<!DOCTYPE a [<!ENTITY e 'y'><!ENTITY f '<f>z</f>'><!ATTLIST a k CDATA '1'>]><!--d--><a xmlns:p='v'>" + strings.Join(l, "") + end
			x, code := read.Tree([]byte(s), most())
			if code != api.OK {
				continue
			}
			trees++
			if !check(t, x) {
				t.Fatalf("%q: %s may not be", s, show(x))
			}
			y, _ := read.Tree([]byte(write(x)), most())
			if !Same(x, y) || write(x) != write(y) {
				t.Fatalf("%q: %q", write(x), write(y))
			}
		}
	})
	if trees < 3000 {
		t.Errorf("%d trees only", trees)
	}
}

// Rule 3 of DOC.md: the same tree gives the same answers, whatever was asked ahead.
func TestAgain(t *testing.T) {
	for _, x := range samples(t) {
		first := make([][]api.Attr, len(x))
		for k := range x {
			first[k] = Scope(x, k)
		}
		for _, other := range []api.Tree{nil, {doc()}, {doc(), elem(1, "a", bind("p", "z")), elem(2, "b", bind("p", ""))}} {
			May(other)
			Scope(other, 1)
			for k := range x {
				if !slices.Equal(Scope(x, k), first[k]) || !May(x) {
					t.Errorf("%s: %d: %v", show(x), k, Scope(x, k))
				}
			}
		}
	}
}

// Rule 2 of DOC.md: a tree that is handed in is not changed.
func TestNothingChanges(t *testing.T) {
	for _, x := range samples(t) {
		for _, bad := range []bool{false, true} {
			if bad {
				x = append(copied(x), text(1, "x"))
			}
			was := copied(x)
			May(x)
			Same(x, x[1:])
			Diff(x, was)
			for k := range x {
				Parent(x, k)
				End(x, k)
				Scope(x, k)
			}
			if !slices.EqualFunc(x, was, sameNodes) {
				t.Errorf("%s became %s", show(was), show(x))
			}
		}
	}
}

// fresh is s in bytes that nobody else has.
func fresh(s string) string {
	b := []byte(s)
	return unsafe.String(unsafe.SliceData(b), len(b))
}

// spoil changes all bytes of s.
func spoil(s string) {
	b := unsafe.Slice(unsafe.StringData(s), len(s))
	for k := range b {
		b[k] ^= 0x55
	}
}

// Rule 2 of DOC.md: what is bound shares no memory with the tree, not even the bytes of a text; each answer is the caller's own.
func TestScopeIsOwn(t *testing.T) {
	x := api.Tree{doc(), elem(1, "a", api.Attr{Prefix: fresh("xmlns"), Local: fresh("p"), URI: fresh(xmlnsURI), Value: fresh("u")}), elem(2, "b")}
	l, other := Scope(x, 2), Scope(x, 2)
	want := []api.Attr{bind("p", "u"), bind("xml", xmlURI)}
	if !slices.Equal(l, want) {
		t.Fatalf("%v", l)
	}
	for _, s := range []string{x[1].Attrs[0].Prefix, x[1].Attrs[0].Local, x[1].Attrs[0].URI, x[1].Attrs[0].Value} {
		spoil(s)
	}
	if !slices.Equal(l, want) {
		t.Errorf("it became %v", l)
	}
	for k := range l {
		l[k] = api.Attr{}
	}
	if !slices.Equal(other, want) {
		t.Errorf("the other became %v", other)
	}
}

// The document's example.
func TestExample(t *testing.T) {
	if May(api.Tree{{Kind: api.NDoc}}) {
		t.Error("a document alone may be")
	}
}

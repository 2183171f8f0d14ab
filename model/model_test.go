package model

import (
	"encoding/xml"
	"io"
	"math"
	"slices"
	"strconv"
	"strings"
	"testing"
	"time"
	"unsafe"

	"bracken/api"
	"bracken/read"
	"bracken/tree"
)

// of is the tree that s denotes.
func of(t *testing.T, s string) api.Tree {
	t.Helper()
	x, code := read.Tree([]byte(s), api.Limits{Bytes: 1 << 20, Depth: 200, Expand: 1 << 20, Attrs: 100})
	if code != api.OK {
		t.Fatalf("%q: %d", s, code)
	}
	return x
}

// sampleTexts hold all that there is.
func sampleTexts() []string {
	return []string{
		"<a/>",
		"<!--c--><?p?><a xmlns:p='u' p:k='1' k='2'>t<p:b/>v<?q r?><c xmlns='d'>w<!----></c></a><?q?><!--e-->",
		"<p:a xmlns:p='u' xmlns='v'><p:b xmlns:p='w' p:c='' c=''>x<d xmlns=''><e xmlns='v' xmlns:q='u'/></d>y</p:b><f xml:lang='&lt;&#13;'/><xml:g/>z</p:a>",
		"<a><b><c>x</c>y</b>z<d><e/><f>&#13;&#10;</f></d></a>",
		"<a xmlns='u'><b xmlns:b='u' xmlns:A='u' xmlns:a='u'><c xmlns:A='v'/></b>x<?y z?><!--*--></a>",
	}
}

func samples(t *testing.T) []api.Tree {
	t.Helper()
	var l []api.Tree
	for _, s := range sampleTexts() {
		l = append(l, of(t, s))
	}
	return l
}

// copied is x, whole, in memory of its own.
func copied(x api.Tree) api.Tree {
	y := slices.Clone(x)
	for k := range y {
		y[k].Attrs = slices.Clone(y[k].Attrs)
	}
	return y
}

func doc() api.Node { return api.Node{Kind: api.NDoc} }

func elem(depth int, local string, attrs ...api.Attr) api.Node {
	return api.Node{Kind: api.NElem, Depth: depth, Local: local, Attrs: attrs}
}

func text(depth int, s string) api.Node {
	return api.Node{Kind: api.NText, Depth: depth, Value: s}
}

func remark(depth int, s string) api.Node {
	return api.Node{Kind: api.NComment, Depth: depth, Value: s}
}

func pi(depth int, local, s string) api.Node {
	return api.Node{Kind: api.NPI, Depth: depth, Local: local, Value: s}
}

// bind is a declaration: of a prefix, or, of "", of the default.
func bind(prefix, uri string) api.Attr {
	if prefix == "" {
		return api.Attr{Local: "xmlns", URI: xmlnsURI, Value: uri}
	}
	return api.Attr{Prefix: "xmlns", Local: prefix, URI: xmlnsURI, Value: uri}
}

// Promises 17.1 and 17.2: all short rows of nodes of all kinds, at several depths, those that are no trees, too.
func TestAllShort(t *testing.T) {
	pieces := []api.Node{elem(1, "a"), elem(2, "b"), elem(3, "c"), text(2, "x"), text(3, "y"), remark(1, "d"), remark(3, ""), pi(2, "p", "q")}
	are := 0
	for _, start := range []api.Tree{nil, {doc()}, {doc(), elem(1, "r")}} {
		rows(start, 5, pieces, func(x []api.Node) {
			if tree.May(x) {
				are++
				checkPlaces(t, x)
			} else if len(x) < 4 {
				checkPlaces(t, x)
			}
		})
	}
	if are < 1000 {
		t.Errorf("%d trees only", are)
	}
}

// Promises 17.1 and 17.2: longer rows of such nodes as stand in most trees.
func TestAllLonger(t *testing.T) {
	pieces := []api.Node{elem(2, "a"), elem(3, "b"), elem(4, "c"), text(3, "y"), text(4, "z"), remark(1, "-c")}
	are := 0
	rows([]api.Node{doc(), elem(1, "r", bind("p", "u"))}, 6, pieces, func(x []api.Node) {
		if len(x) > 6 && tree.May(x) {
			are++
			checkPlaces(t, x)
		}
	})
	if are < 800 {
		t.Errorf("%d trees only", are)
	}
}

// Promise 17.2: what is asked of names, of elements with all mixes of up to three attributes, below others with some.
func TestNamesOfAllShort(t *testing.T) {
	pieces := []api.Attr{
		{Local: "b", Value: "x"}, {Prefix: "p", Local: "b", URI: "u"}, {Prefix: "p", Local: "b", URI: "v", Value: "y"}, {Prefix: "q", Local: "c", URI: "v", Value: "*"}, {Prefix: "xml", Local: "b", URI: xmlURI}, {Prefix: "p", Local: "xmlns", URI: "u"},
		bind("", "u"), bind("", ""), bind("p", "u"), bind("p", "v"), bind("q", "u"), bind("Q", "v"), bind("xml", xmlURI), bind("b", "*"),
	}
	around := [][]api.Attr{nil, {bind("", "u"), bind("p", "u")}, {bind("p", "u"), bind("q", "v")}}
	uris := []string{"*", "u", "", "v", xmlURI, xmlnsURI, "p"}
	locals := []string{"p", "*", "b", "", "a", "c", "q", "Q", "xml", "xmlns", "u"}
	are := 0
	rows(nil, 3, pieces, func(l []api.Attr) {
		for k, m := range around {
			for _, n := range []api.Node{{Local: "a"}, {Local: "a", URI: "u"}, {Prefix: "p", Local: "b", URI: "u"}, {Prefix: "q", Local: "c", URI: "v"}} {
				n.Kind, n.Depth, n.Attrs = api.NElem, 2, l
				r := elem(1, "r", m...)
				if k == 1 {
					r.URI = "u"
				}
				x := api.Tree{doc(), remark(1, ""), r, n, text(3, "x"), pi(2, "b", "c")}
				if !tree.May(x) {
					continue
				}
				are++
				if len(l) < 3 {
					checkNames(t, x, uris, locals)
				} else {
					checkNames(t, x[:4], uris[:3], locals[:3])
				}
			}
		}
	})
	if are < 1000 {
		t.Errorf("%d trees only", are)
	}
}

// Promises 17.1 and 17.2: samples, whole, and with each node taken away or of another kind.
func TestSamples(t *testing.T) {
	uris := []string{"", "*", "u", "v", "w", "d", "z", xmlURI, xmlnsURI}
	locals := []string{"", "*", "a", "b", "c", "d", "k", "p", "q", "A", "xml", "xmlns", "lang"}
	for _, x := range samples(t) {
		checkPlaces(t, x)
		checkNames(t, x, uris, locals)
		for k := range x {
			checkPlaces(t, slices.Delete(copied(x), k, k+1))
			checkPlaces(t, x[:k])
			y := copied(x)
			y[k] = remark(y[k].Depth, "new")
			checkPlaces(t, y)
		}
	}
}

// sample is 0 document, 1 comment, 2 a, 3 t, 4 p:b, 5 v, 6 q, 7 c, 8 w, 9 p:b, 10 x, 11 comment.
func sample(t *testing.T) api.Tree {
	return of(t, "<!--c--><a xmlns:p='u' p:k='1' k='2'>t<p:b/>v<?q r?><c xmlns='d'>w<p:b xmlns:o='u' x=''>x</p:b></c></a><!--e-->")
}

// Promise 17.1: the axes of a sample, told one by one.
func TestAxes(t *testing.T) {
	x := sample(t)
	for _, c := range []struct {
		axis, k int
		want    []int
	}{
		{api.XSelf, 0, []int{0}}, {api.XSelf, 5, []int{5}}, {api.XSelf, 11, []int{11}},
		{api.XChild, 0, []int{1, 2, 11}}, {api.XChild, 2, []int{3, 4, 5, 6, 7}}, {api.XChild, 7, []int{8, 9}}, {api.XChild, 9, []int{10}}, {api.XChild, 4, nil}, {api.XChild, 3, nil}, {api.XChild, 11, nil},
		{api.XParent, 0, nil}, {api.XParent, 1, []int{0}}, {api.XParent, 2, []int{0}}, {api.XParent, 7, []int{2}}, {api.XParent, 8, []int{7}}, {api.XParent, 10, []int{9}}, {api.XParent, 11, []int{0}},
		{api.XAncestor, 0, nil}, {api.XAncestor, 2, []int{0}}, {api.XAncestor, 10, []int{0, 2, 7, 9}}, {api.XAncestor, 11, []int{0}},
		{api.XAncestorOrSelf, 0, []int{0}}, {api.XAncestorOrSelf, 10, []int{0, 2, 7, 9, 10}}, {api.XAncestorOrSelf, 5, []int{0, 2, 5}},
		{api.XDescendant, 0, []int{1, 2, 3, 4, 5, 6, 7, 8, 9, 10, 11}}, {api.XDescendant, 2, []int{3, 4, 5, 6, 7, 8, 9, 10}}, {api.XDescendant, 7, []int{8, 9, 10}}, {api.XDescendant, 10, nil},
		{api.XDescendantOrSelf, 7, []int{7, 8, 9, 10}}, {api.XDescendantOrSelf, 1, []int{1}}, {api.XDescendantOrSelf, 11, []int{11}},
		{api.XFollowing, 0, nil}, {api.XFollowing, 1, []int{2, 3, 4, 5, 6, 7, 8, 9, 10, 11}}, {api.XFollowing, 2, []int{11}}, {api.XFollowing, 4, []int{5, 6, 7, 8, 9, 10, 11}}, {api.XFollowing, 8, []int{9, 10, 11}}, {api.XFollowing, 10, []int{11}}, {api.XFollowing, 11, nil},
		{api.XPreceding, 0, nil}, {api.XPreceding, 1, nil}, {api.XPreceding, 2, []int{1}}, {api.XPreceding, 3, []int{1}}, {api.XPreceding, 7, []int{1, 3, 4, 5, 6}}, {api.XPreceding, 10, []int{1, 3, 4, 5, 6, 8}}, {api.XPreceding, 11, []int{1, 2, 3, 4, 5, 6, 7, 8, 9, 10}},
		{api.XFollowingSibling, 0, nil}, {api.XFollowingSibling, 1, []int{2, 11}}, {api.XFollowingSibling, 2, []int{11}}, {api.XFollowingSibling, 3, []int{4, 5, 6, 7}}, {api.XFollowingSibling, 7, nil}, {api.XFollowingSibling, 8, []int{9}}, {api.XFollowingSibling, 10, nil},
		{api.XPrecedingSibling, 0, nil}, {api.XPrecedingSibling, 1, nil}, {api.XPrecedingSibling, 11, []int{1, 2}}, {api.XPrecedingSibling, 7, []int{3, 4, 5, 6}}, {api.XPrecedingSibling, 9, []int{8}}, {api.XPrecedingSibling, 3, nil},
		{api.XAttribute, 2, nil}, {api.XNamespace, 2, nil},
	} {
		if nodes, texts, code := Axis(x, c.k, c.axis); code != api.OK || !slices.Equal(nodes, c.want) || c.axis < api.XAttribute && len(texts) > 0 {
			t.Errorf("axis %d of %d: %v, %q, %d, not %v", c.axis, c.k, nodes, texts, code, c.want)
		}
	}
	for _, c := range []struct {
		axis, k int
		want    []string
	}{
		{api.XAttribute, 2, []string{"{u}k=1", "{}k=2"}}, {api.XAttribute, 7, nil}, {api.XAttribute, 9, []string{"{}x="}}, {api.XAttribute, 0, nil}, {api.XAttribute, 1, nil}, {api.XAttribute, 3, nil}, {api.XAttribute, 6, nil},
		{api.XNamespace, 2, []string{"p=u", "xml=" + xmlURI}}, {api.XNamespace, 7, []string{"=d", "p=u", "xml=" + xmlURI}}, {api.XNamespace, 9, []string{"=d", "o=u", "p=u", "xml=" + xmlURI}}, {api.XNamespace, 0, nil}, {api.XNamespace, 1, nil}, {api.XNamespace, 8, nil}, {api.XNamespace, 6, nil},
	} {
		if _, texts, code := Axis(x, c.k, c.axis); code != api.OK || !slices.Equal(texts, c.want) {
			t.Errorf("axis %d of %d: %q, %d, not %q", c.axis, c.k, texts, code, c.want)
		}
	}
}

// Promise 17.2: calls on a sample, told one by one.
func TestAsk(t *testing.T) {
	x := sample(t)
	one := func(s ...string) api.Answer { return api.Answer{Texts: s} }
	fails := func(code int) api.Answer { return api.Answer{Code: code} }
	for _, c := range []struct {
		call api.Call
		want api.Answer
	}{
		{api.Call{Kind: api.CKind}, api.Answer{N: api.NDoc}}, {api.Call{Kind: api.CKind, A: 1}, api.Answer{N: api.NComment}}, {api.Call{Kind: api.CKind, A: 2}, api.Answer{N: api.NElem}}, {api.Call{Kind: api.CKind, A: 3}, api.Answer{N: api.NText}}, {api.Call{Kind: api.CKind, A: 6}, api.Answer{N: api.NPI}},
		{api.Call{Kind: api.CName}, one("", "", "")}, {api.Call{Kind: api.CName, A: 2}, one("", "a", "")}, {api.Call{Kind: api.CName, A: 4}, one("p", "b", "u")}, {api.Call{Kind: api.CName, A: 7}, one("", "c", "d")}, {api.Call{Kind: api.CName, A: 6}, one("", "q", "")}, {api.Call{Kind: api.CName, A: 8}, one("", "", "")},
		{api.Call{Kind: api.CValue}, one("")}, {api.Call{Kind: api.CValue, A: 1}, one("c")}, {api.Call{Kind: api.CValue, A: 2}, one("")}, {api.Call{Kind: api.CValue, A: 3}, one("t")}, {api.Call{Kind: api.CValue, A: 6}, one("r")},
		{api.Call{Kind: api.CAttr, A: 2, S: "u", T: "k"}, one("1")}, {api.Call{Kind: api.CAttr, A: 2, T: "k"}, one("2")}, {api.Call{Kind: api.CAttr, A: 2, S: xmlnsURI, T: "p"}, one("u")}, {api.Call{Kind: api.CAttr, A: 7, S: xmlnsURI, T: "xmlns"}, one("d")}, {api.Call{Kind: api.CAttr, A: 9, T: "x"}, one("")},
		{api.Call{Kind: api.CAttr, A: 2, S: "*", T: "k"}, fails(api.ErrNone)}, {api.Call{Kind: api.CAttr, A: 2, S: "u", T: "*"}, fails(api.ErrNone)}, {api.Call{Kind: api.CAttr, A: 2}, fails(api.ErrNone)}, {api.Call{Kind: api.CAttr, A: 4, S: "u", T: "k"}, fails(api.ErrNone)}, {api.Call{Kind: api.CAttr, A: 2, S: "p", T: "k"}, fails(api.ErrNone)}, {api.Call{Kind: api.CAttr, A: 2, S: "k", T: "u"}, fails(api.ErrNone)},
		{api.Call{Kind: api.CAttr, T: "k"}, fails(api.ErrKind)}, {api.Call{Kind: api.CAttr, A: 1}, fails(api.ErrKind)}, {api.Call{Kind: api.CAttr, A: 3, T: "k"}, fails(api.ErrKind)}, {api.Call{Kind: api.CAttr, A: 6}, fails(api.ErrKind)},
		{api.Call{Kind: api.CParent}, api.Answer{N: -1}}, {api.Call{Kind: api.CParent, A: 1}, api.Answer{}}, {api.Call{Kind: api.CParent, A: 10}, api.Answer{N: 9}}, {api.Call{Kind: api.CParent, A: 11}, api.Answer{}},
		{api.Call{Kind: api.CFirst}, api.Answer{N: 1}}, {api.Call{Kind: api.CFirst, A: 2}, api.Answer{N: 3}}, {api.Call{Kind: api.CFirst, A: 4}, api.Answer{N: -1}}, {api.Call{Kind: api.CFirst, A: 11}, api.Answer{N: -1}},
		{api.Call{Kind: api.CLast}, api.Answer{N: 11}}, {api.Call{Kind: api.CLast, A: 2}, api.Answer{N: 7}}, {api.Call{Kind: api.CLast, A: 9}, api.Answer{N: 10}}, {api.Call{Kind: api.CLast, A: 4}, api.Answer{N: -1}}, {api.Call{Kind: api.CLast, A: 6}, api.Answer{N: -1}},
		{api.Call{Kind: api.CNext}, api.Answer{N: -1}}, {api.Call{Kind: api.CNext, A: 1}, api.Answer{N: 2}}, {api.Call{Kind: api.CNext, A: 2}, api.Answer{N: 11}}, {api.Call{Kind: api.CNext, A: 7}, api.Answer{N: -1}}, {api.Call{Kind: api.CNext, A: 10}, api.Answer{N: -1}}, {api.Call{Kind: api.CNext, A: 11}, api.Answer{N: -1}},
		{api.Call{Kind: api.CPrev}, api.Answer{N: -1}}, {api.Call{Kind: api.CPrev, A: 1}, api.Answer{N: -1}}, {api.Call{Kind: api.CPrev, A: 11}, api.Answer{N: 2}}, {api.Call{Kind: api.CPrev, A: 3}, api.Answer{N: -1}}, {api.Call{Kind: api.CPrev, A: 7}, api.Answer{N: 6}}, {api.Call{Kind: api.CPrev, A: 9}, api.Answer{N: 8}},
		{api.Call{Kind: api.CAxis, A: 7, B: api.XChild}, api.Answer{Nodes: []int{8, 9}}}, {api.Call{Kind: api.CAxis, A: 2, B: api.XAttribute}, one("{u}k=1", "{}k=2")}, {api.Call{Kind: api.CAxis, A: 7, B: api.XNamespace}, one("=d", "p=u", "xml="+xmlURI)}, {api.Call{Kind: api.CAxis, A: 2}, fails(api.ErrArg)}, {api.Call{Kind: api.CAxis, A: 2, B: 14}, fails(api.ErrArg)}, {api.Call{Kind: api.CAxis, A: 12, B: 14}, fails(api.ErrRange)},
		{api.Call{Kind: api.CTags, S: "*", T: "*"}, api.Answer{Nodes: []int{2, 4, 7, 9}}}, {api.Call{Kind: api.CTags, A: 2, S: "*", T: "*"}, api.Answer{Nodes: []int{4, 7, 9}}}, {api.Call{Kind: api.CTags, A: 2, S: "u", T: "*"}, api.Answer{Nodes: []int{4, 9}}}, {api.Call{Kind: api.CTags, A: 7, S: "u", T: "b"}, api.Answer{Nodes: []int{9}}}, {api.Call{Kind: api.CTags, T: "*"}, api.Answer{Nodes: []int{2}}}, {api.Call{Kind: api.CTags, S: "*", T: "c"}, api.Answer{Nodes: []int{7}}},
		{api.Call{Kind: api.CTags, S: "d", T: "c"}, api.Answer{Nodes: []int{7}}}, {api.Call{Kind: api.CTags, A: 7, S: "*", T: "c"}, api.Answer{}}, {api.Call{Kind: api.CTags, S: "*"}, api.Answer{}}, {api.Call{Kind: api.CTags, T: "q"}, api.Answer{}}, {api.Call{Kind: api.CTags, A: 3, S: "*", T: "*"}, api.Answer{}}, {api.Call{Kind: api.CTags, S: "b", T: "u"}, api.Answer{}},
		{api.Call{Kind: api.CURI, S: "p"}, one("u")}, {api.Call{Kind: api.CURI}, one("")}, {api.Call{Kind: api.CURI, A: 8}, one("d")}, {api.Call{Kind: api.CURI, A: 5}, one("")}, {api.Call{Kind: api.CURI, A: 10, S: "o"}, one("u")}, {api.Call{Kind: api.CURI, A: 6, S: "xml"}, one(xmlURI)}, {api.Call{Kind: api.CURI, S: "o"}, fails(api.ErrNone)}, {api.Call{Kind: api.CURI, A: 8, S: "o"}, fails(api.ErrNone)}, {api.Call{Kind: api.CURI, A: 8, S: "xmlns"}, fails(api.ErrNone)}, {api.Call{Kind: api.CURI, A: 8, S: "*"}, fails(api.ErrNone)}, {api.Call{Kind: api.CURI, A: 1, S: "p"}, fails(api.ErrNone)}, {api.Call{Kind: api.CURI, A: 1}, fails(api.ErrNone)}, {api.Call{Kind: api.CURI, A: 11, S: "xml"}, fails(api.ErrNone)},
		{api.Call{Kind: api.CPrefix, S: "u"}, one("p")}, {api.Call{Kind: api.CPrefix, A: 9, S: "u"}, one("o")}, {api.Call{Kind: api.CPrefix, A: 10, S: "u"}, one("o")}, {api.Call{Kind: api.CPrefix, A: 8, S: xmlURI}, one("xml")}, {api.Call{Kind: api.CPrefix, A: 8, S: "d"}, fails(api.ErrNone)}, {api.Call{Kind: api.CPrefix, A: 8}, fails(api.ErrNone)}, {api.Call{Kind: api.CPrefix, A: 8, S: xmlnsURI}, fails(api.ErrNone)}, {api.Call{Kind: api.CPrefix, A: 1, S: xmlURI}, fails(api.ErrNone)}, {api.Call{Kind: api.CPrefix, A: 11, S: "u"}, fails(api.ErrNone)},
		{api.Call{Kind: api.CText}, one("tvwx")}, {api.Call{Kind: api.CText, A: 2}, one("tvwx")}, {api.Call{Kind: api.CText, A: 7}, one("wx")}, {api.Call{Kind: api.CText, A: 4}, one("")}, {api.Call{Kind: api.CText, A: 1}, one("c")}, {api.Call{Kind: api.CText, A: 3}, one("t")}, {api.Call{Kind: api.CText, A: 6}, one("r")},
		{api.Call{Kind: api.COrder, A: 3, B: 2}, api.Answer{N: 1}}, {api.Call{Kind: api.COrder, A: 2, B: 11}, api.Answer{N: -1}}, {api.Call{Kind: api.COrder, A: 3, B: 3}, api.Answer{}}, {api.Call{Kind: api.COrder, A: 3, B: 12}, fails(api.ErrRange)}, {api.Call{Kind: api.COrder, A: 3, B: -1}, fails(api.ErrRange)}, {api.Call{Kind: api.COrder, A: 12, B: 3}, fails(api.ErrRange)},
		{api.Call{Kind: api.CSize}, api.Answer{N: 12}}, {api.Call{Kind: api.CSize, A: 12, B: -1}, api.Answer{N: 12}},
		{api.Call{Kind: api.CDepth}, api.Answer{}}, {api.Call{Kind: api.CDepth, A: 2}, api.Answer{N: 1}}, {api.Call{Kind: api.CDepth, A: 10}, api.Answer{N: 4}},
		{api.Call{}, fails(api.ErrArg)}, {api.Call{Kind: 18}, fails(api.ErrArg)}, {api.Call{Kind: -1, A: 11}, fails(api.ErrArg)}, {api.Call{Kind: 18, A: 12}, fails(api.ErrRange)}, {api.Call{A: -1}, fails(api.ErrRange)},
	} {
		if got := Ask(x, c.call); !same(got, c.want) {
			t.Errorf("%+v: %+v, not %+v", c.call, got, c.want)
		}
		if got := Ask(x[:2], c.call); !same(got, fails(api.ErrArg)) {
			t.Errorf("%+v of what is no tree: %+v", c.call, got)
		}
	}
}

// wrongs are numbers beside what is asked for.
func wrongs() []int {
	return []int{math.MinInt, math.MinInt + 1, -1 << 32, -1, 1 << 20, 1 << 32, math.MaxInt - 1, math.MaxInt}
}

// Promises 17.1 and 17.2: of several errors the first is told: the tree's, the node's, the axis's or the kind's; beside it nothing is.
func TestErrors(t *testing.T) {
	x := sample(t)
	bad := copied(x)
	bad[4].URI = "v"
	for _, k := range append(wrongs(), 0, 2, 11, 12) {
		for _, b := range append(wrongs(), 0, 1, 2, 12, 13, 14) {
			checkAxis(t, x, k, b)
			for _, y := range []api.Tree{nil, {}, {doc()}, bad, x[1:]} {
				if nodes, texts, code := Axis(y, k, b); code != api.ErrArg || len(nodes)+len(texts) > 0 {
					t.Errorf("axis %d of %d of what is no tree: %v, %q, %d", b, k, nodes, texts, code)
				}
			}
			for _, kind := range append(wrongs(), 0, 1, 2, 3, 4, 5, 6, 7, 8, 9, 10, 11, 12, 13, 14, 15, 16, 17, 18) {
				c := api.Call{Kind: kind, A: k, B: b, S: "u", T: "k"}
				check(t, x, c)
				for _, y := range []api.Tree{nil, {}, {doc()}, bad} {
					if got := Ask(y, c); !same(got, api.Answer{Code: api.ErrArg}) {
						t.Errorf("%+v of what is no tree: %+v", c, got)
					}
				}
			}
		}
	}
}

// Promises 17.1 and 17.2: a tree with any one of its parts spoilt, so that it may not be, is told as such, whatever is asked of it.
func TestSpoiltTrees(t *testing.T) {
	for _, x := range samples(t) {
		for k := range x {
			for _, change := range []func(n *api.Node){
				func(n *api.Node) { n.Kind = 0 }, func(n *api.Node) { n.Kind = 6 }, func(n *api.Node) { n.Kind = math.MaxInt }, func(n *api.Node) { n.Depth += 300 }, func(n *api.Node) { n.Depth = math.MinInt }, func(n *api.Node) { n.Depth = math.MaxInt },
				func(n *api.Node) { n.Prefix += "\xff" }, func(n *api.Node) { n.Local += " " }, func(n *api.Node) { n.URI += "x" }, func(n *api.Node) { n.Value += "\x00" }, func(n *api.Node) { n.Attrs = append(n.Attrs, api.Attr{}) },
			} {
				y := copied(x)
				if change(&y[k]); tree.May(y) {
					t.Fatalf("%s may be", show(y))
				}
				for j := range y {
					for b := 1; b <= 17; b++ {
						check(t, y, api.Call{Kind: b, A: j, B: j, S: "*", T: "*"})
						checkAxis(t, y, j, b)
					}
				}
			}
		}
	}
}

// Promise 17.1: Before goes by the numbers, of any tree and of such as are no nodes, too.
func TestBefore(t *testing.T) {
	x := sample(t)
	l := append(wrongs(), 0, 1, 2, 5, 11, 12, 13)
	slices.Sort(l)
	for _, y := range []api.Tree{x, nil, {}, x[1:], {doc()}} {
		for i, a := range l {
			for j, b := range l {
				want := 0
				if i < j {
					want = -1
				} else if i > j {
					want = 1
				}
				if got := Before(y, a, b); got != want {
					t.Errorf("%d and %d: %d, not %d", a, b, got, want)
				}
			}
		}
	}
}

// Promise 17.3: each node stands along just one of five axes from each, and axes belong to each other in pairs.
func TestAxesTogether(t *testing.T) {
	for _, x := range samples(t) {
		along := func(k, axis int) []int {
			l, texts, code := Axis(x, k, axis)
			if code != api.OK || len(texts) > 0 || !slices.IsSorted(l) {
				t.Fatalf("axis %d of %d: %v, %q, %d", axis, k, l, texts, code)
			}
			return l
		}
		for k := range x {
			all := slices.Concat(along(k, api.XAncestor), along(k, api.XPreceding), along(k, api.XSelf), along(k, api.XDescendant), along(k, api.XFollowing))
			slices.Sort(all)
			beside := slices.Concat(along(k, api.XPrecedingSibling), along(k, api.XSelf), along(k, api.XFollowingSibling))
			if len(all) != len(x) || all[0] != 0 || all[len(x)-1] != len(x)-1 || len(slices.Compact(all)) != len(x) {
				t.Errorf("%d: %v are not all", k, all)
			}
			for _, up := range along(k, api.XParent) {
				if !slices.Equal(along(up, api.XChild), beside) {
					t.Errorf("%d: %v, but its parent has %v", k, beside, along(up, api.XChild))
				}
			}
			for j := range x {
				for axis, back := range map[int]int{api.XChild: api.XParent, api.XAncestor: api.XDescendant, api.XAncestorOrSelf: api.XDescendantOrSelf, api.XFollowing: api.XPreceding, api.XFollowingSibling: api.XPrecedingSibling} {
					if slices.Contains(along(k, axis), j) != slices.Contains(along(j, back), k) {
						t.Errorf("axes %d and %d of %d and %d", axis, back, k, j)
					}
				}
			}
		}
	}
}

// Promise 17.3: single steps lead where the axes do; texts and depths are those of what is below and above.
func TestStepsTogether(t *testing.T) {
	for _, x := range samples(t) {
		n := func(kind, k int) int {
			a := Ask(x, api.Call{Kind: kind, A: k})
			if a.Code != api.OK || len(a.Texts)+len(a.Nodes) > 0 {
				t.Fatalf("%d of %d: %+v", kind, k, a)
			}
			return a.N
		}
		s := func(k int) string { return Ask(x, api.Call{Kind: api.CText, A: k}).Texts[0] }
		for k := range x {
			children, _, _ := Axis(x, k, api.XChild)
			var from, back []int
			texts := ""
			for at := n(api.CFirst, k); at >= 0; at = n(api.CNext, at) {
				from = append(from, at)
				if kind := n(api.CKind, at); kind == api.NText || kind == api.NElem {
					texts += s(at)
				}
			}
			for at := n(api.CLast, k); at >= 0; at = n(api.CPrev, at) {
				back = append(back, at)
			}
			slices.Reverse(back)
			if !slices.Equal(from, children) || !slices.Equal(back, children) {
				t.Errorf("%d: %v, %v, %v", k, children, from, back)
			}
			if kind := n(api.CKind, k); (kind == api.NDoc || kind == api.NElem) && s(k) != texts {
				t.Errorf("%d: %q, but those within make %q", k, s(k), texts)
			}
			deep := 0
			for at := n(api.CParent, k); at >= 0; at = n(api.CParent, at) {
				deep++
			}
			if n(api.CDepth, k) != deep || n(api.CSize, k) != len(x) {
				t.Errorf("%d: %d, not %d; %d", k, n(api.CDepth, k), deep, n(api.CSize, k))
			}
		}
	}
}

// Promise 17.3 and theorem T2 of DOC.md: elements, their names, attributes and texts are those that Go's own reader finds.
func TestAgainstGo(t *testing.T) {
	for i, s := range sampleTexts() {
		x := of(t, s)
		elems := Ask(x, api.Call{Kind: api.CTags, S: "*", T: "*"}).Nodes
		var open []int
		all := ""
		within := map[int]string{}
		for d := xml.NewDecoder(strings.NewReader(s)); ; {
			token, err := d.Token()
			if err == io.EOF {
				break
			} else if err != nil {
				t.Fatal(err)
			}
			switch e := token.(type) {
			case xml.StartElement:
				k := elems[0]
				elems = elems[1:]
				if got := Ask(x, api.Call{Kind: api.CName, A: k}).Texts; !slices.Equal(got[1:], []string{e.Name.Local, e.Name.Space}) {
					t.Errorf("%d: %d is %q, not %v", i, k, got, e.Name)
				}
				if up := append([]int{0}, open...)[len(open)]; Ask(x, api.Call{Kind: api.CParent, A: k}).N != up {
					t.Errorf("%d: %d is not below %d", i, k, up)
				}
				var l []string
				for _, a := range e.Attr {
					if a.Name.Space != "xmlns" && a.Name.Local != "xmlns" {
						l = append(l, "{"+a.Name.Space+"}"+a.Name.Local+"="+a.Value)
					}
				}
				if _, got, _ := Axis(x, k, api.XAttribute); !slices.Equal(got, l) {
					t.Errorf("%d: of %d %q, not %q", i, k, got, l)
				}
				open = append(open, k)
			case xml.EndElement:
				open = open[:len(open)-1]
			case xml.CharData:
				all += string(e)
				for _, k := range open {
					within[k] += string(e)
				}
			}
		}
		within[0] = all
		for k, want := range within {
			if got := Ask(x, api.Call{Kind: api.CText, A: k}).Texts; got[0] != want {
				t.Errorf("%d: text of %d: %q, not %q", i, k, got, want)
			}
		}
		if len(elems) > 0 {
			t.Errorf("%d: %v are more", i, elems)
		}
	}
}

// nested is a tree of that many elements, each within the one ahead.
func nested(n int) api.Tree {
	x := api.Tree{doc()}
	for k := range n {
		x = append(x, elem(k+1, "a"))
	}
	return x
}

// Promises 17.1 and 17.2: as deep as may be.
func TestDeep(t *testing.T) {
	x := nested(200)
	for k := range x[1:] {
		x[k+1].Attrs = []api.Attr{bind("p"+strconv.Itoa(k%3), "u"+strconv.Itoa(k))}
	}
	x = append(x, text(201, "x"), remark(200, ""), text(2, "y"))
	for _, k := range []int{0, 1, 2, 100, 199, 200, 201, 202, 203} {
		for b := range 15 {
			checkAxis(t, x, k, b)
		}
		for kind := range 18 {
			check(t, x, api.Call{Kind: kind, A: k, B: 6, S: "u198", T: "*"})
			check(t, x, api.Call{Kind: kind, A: k, B: 4, S: "p2", T: "a"})
		}
	}
}

// Promises 17.1 and 17.2: as many nodes as may be, beside one another, in far less than a minute; of one more nothing is told.
func TestWide(t *testing.T) {
	start := time.Now()
	const many = 1 << 20
	x := api.Tree{doc(), elem(1, "a")}
	for len(x) < many {
		x = append(x, elem(2, "b"), text(3, "x"))
	}
	x = x[:many]
	last := many - 2 // an element, the text of which is the last one
	for c, want := range map[api.Call]int{
		{Kind: api.CSize}: many, {Kind: api.CLast, A: 1}: last, {Kind: api.CNext, A: last}: -1, {Kind: api.CPrev, A: last}: last - 2, {Kind: api.CParent, A: last}: 1, {Kind: api.CFirst, A: 1}: 2, {Kind: api.CNext, A: 2}: 4, {Kind: api.CDepth, A: many - 1}: 3, {Kind: api.COrder, A: last, B: 2}: 1,
	} {
		if a := Ask(x, c); a.Code != api.OK || a.N != want {
			t.Errorf("%+v: %d, %d, not %d", c, a.Code, a.N, want)
		}
	}
	const half = many/2 - 1
	for axis, want := range map[int]int{api.XChild: 1, api.XAncestor: 2, api.XFollowing: 0, api.XPreceding: many - 4, api.XPrecedingSibling: half - 1, api.XFollowingSibling: 0} {
		if l, _, code := Axis(x, last, axis); code != api.OK || len(l) != want {
			t.Errorf("axis %d: %d, %d, not %d", axis, code, len(l), want)
		}
	}
	if l := Ask(x, api.Call{Kind: api.CTags, A: 1, S: "*", T: "b"}).Nodes; len(l) != half || l[0] != 2 || l[half-1] != last {
		t.Errorf("%d elements", len(l))
	}
	if s := Ask(x, api.Call{Kind: api.CText}).Texts; len(s) != 1 || s[0] != strings.Repeat("x", half) {
		t.Error("another text")
	}
	if a := Ask(append(x, elem(2, "b")), api.Call{Kind: api.CSize}); !same(a, api.Answer{Code: api.ErrArg}) {
		t.Errorf("one more: %+v", a)
	}
	if took := time.Since(start); took > time.Minute {
		t.Errorf("it took %v", took)
	}
}

// Promises 17.1 and 17.2: very many attributes of one element.
func TestManyAttributes(t *testing.T) {
	const many = 1 << 15
	var l []api.Attr
	var want []string
	prefixes := []string{"xml"}
	for k := range many {
		p := "p" + strconv.Itoa(k)
		prefixes = append(prefixes, p)
		l = append(l, bind(p, "u"+p), api.Attr{Prefix: p, Local: "a", URI: "u" + p, Value: strconv.Itoa(k)})
		want = append(want, "{u"+p+"}a="+strconv.Itoa(k))
	}
	x := api.Tree{doc(), elem(1, "a", l...), elem(2, "b")}
	if _, got, code := Axis(x, 1, api.XAttribute); code != api.OK || !slices.Equal(got, want) {
		t.Error("other attributes")
	}
	slices.Sort(prefixes)
	_, bound, code := Axis(x, 2, api.XNamespace)
	if code != api.OK || len(bound) != many+1 {
		t.Fatalf("%d, %d bound", code, len(bound))
	}
	for k, p := range prefixes[:many] {
		if bound[k] != p+"=u"+p {
			t.Fatalf("%d: %q", k, bound[k])
		}
	}
	last := "p" + strconv.Itoa(many-1)
	for c, s := range map[api.Call]string{{Kind: api.CAttr, A: 1, S: "u" + last, T: "a"}: strconv.Itoa(many - 1), {Kind: api.CURI, A: 2, S: last}: "u" + last, {Kind: api.CPrefix, A: 0, S: "u" + last}: last} {
		if got := Ask(x, c); !same(got, api.Answer{Texts: []string{s}}) {
			t.Errorf("%+v: %+v", c, got)
		}
	}
}

// questions are calls of all kinds that x answers with something.
func questions(x api.Tree) []api.Call {
	var l []api.Call
	for k := range x {
		for kind := 1; kind <= 17; kind++ {
			for b := range 14 {
				if kind == api.CAxis || kind == api.COrder && b < len(x) || b == 1 {
					l = append(l, api.Call{Kind: kind, A: k, B: b, S: "u", T: "k"}, api.Call{Kind: kind, A: k, B: b, S: "p", T: "*"}, api.Call{Kind: kind, A: k, B: b, S: "*", T: "b"})
				}
			}
		}
	}
	return l
}

// Rule 3 of DOC.md: the same calls give the same answers, whatever was asked ahead.
func TestAgain(t *testing.T) {
	x, other := sample(t), of(t, "<a xmlns='w' xmlns:p='v'><p:b k='9'/></a>")
	calls := questions(x)
	var ahead []api.Answer
	for _, c := range calls {
		ahead = append(ahead, Ask(x, c))
		Ask(other, c)
	}
	for k, c := range slices.Backward(calls) {
		if got := Ask(x, c); !same(got, ahead[k]) {
			t.Errorf("%+v: %+v, ahead %+v", c, got, ahead[k])
		}
	}
}

// Rule 2 of DOC.md: a tree that is handed in is not changed.
func TestNothingChanges(t *testing.T) {
	for _, x := range append(samples(t), sample(t)[:5], sample(t)[1:]) {
		was := copied(x)
		for _, c := range questions(x) {
			Ask(x, c)
			Axis(x, c.A, c.B)
			Before(x, c.A, c.B)
		}
		if !tree.Same(x, was) {
			t.Errorf("%s became %s", show(was), show(x))
		}
	}
}

// fresh is s in bytes that nobody else has.
func fresh(s string) string {
	b := []byte(s)
	return unsafe.String(unsafe.SliceData(b), len(b))
}

// spoil changes all bytes of s, which is fresh.
func spoil(s string) {
	b := unsafe.Slice(unsafe.StringData(s), len(s))
	for k := range b {
		b[k] ^= 0x55
	}
}

// freshTree is x with no byte that another one has.
func freshTree(x api.Tree) api.Tree {
	y := copied(x)
	for k := range y {
		n := &y[k]
		n.Prefix, n.Local, n.URI, n.Value = fresh(n.Prefix), fresh(n.Local), fresh(n.URI), fresh(n.Value)
		for j, a := range n.Attrs {
			n.Attrs[j] = api.Attr{Prefix: fresh(a.Prefix), Local: fresh(a.Local), URI: fresh(a.URI), Value: fresh(a.Value)}
		}
	}
	return y
}

// spoilTree changes all bytes of x, which is fresh.
func spoilTree(x api.Tree) {
	for k := range x {
		n := &x[k]
		for _, s := range []string{n.Prefix, n.Local, n.URI, n.Value} {
			spoil(s)
		}
		for _, a := range n.Attrs {
			for _, s := range []string{a.Prefix, a.Local, a.URI, a.Value} {
				spoil(s)
			}
		}
	}
}

// Rule 2 of DOC.md: answers share no memory with the tree or with the call, not even the bytes of a text, nor with one another.
func TestAnswersAreOwn(t *testing.T) {
	x := freshTree(sample(t))
	calls := questions(x)
	var got, other, want []api.Answer
	for _, c := range calls {
		f := c
		f.S, f.T = fresh(c.S), fresh(c.T)
		got = append(got, Ask(x, f))
		other = append(other, Ask(x, c))
		want = append(want, toldAsk(sample(t), c))
		spoil(f.S)
		spoil(f.T)
	}
	spoilTree(x)
	for k, c := range calls {
		if !same(got[k], want[k]) {
			t.Fatalf("%+v: it became %+v, from %+v", c, got[k], want[k])
		}
		clear(got[k].Texts[:cap(got[k].Texts)])
		clear(got[k].Nodes[:cap(got[k].Nodes)])
	}
	for k, c := range calls {
		if !same(other[k], want[k]) {
			t.Fatalf("%+v: the other became %+v, from %+v", c, other[k], want[k])
		}
	}
}

// Rule 2 of DOC.md: so with what stands along the axes.
func TestAxesAreOwn(t *testing.T) {
	x := freshTree(sample(t))
	type answer struct {
		nodes []int
		texts []string
	}
	var got []answer
	for k := range x {
		for axis := 1; axis <= 13; axis++ {
			nodes, texts, _ := Axis(x, k, axis)
			got = append(got, answer{nodes, texts})
		}
	}
	spoilTree(x)
	y := sample(t)
	for k := range y {
		for axis := 1; axis <= 13; axis++ {
			a := got[0]
			got = got[1:]
			if nodes, texts, _ := toldAxis(y, k, axis); !slices.Equal(a.nodes, nodes) || !slices.Equal(a.texts, texts) {
				t.Errorf("axis %d of %d: it became %v, %q", axis, k, a.nodes, a.texts)
			}
			clear(a.nodes[:cap(a.nodes)])
			clear(a.texts[:cap(a.texts)])
		}
	}
}

// Rule 5 of DOC.md: no attributes and an empty list of them are the same.
func TestNothing(t *testing.T) {
	for _, x := range samples(t) {
		y := copied(x)
		for k := range y {
			if len(y[k].Attrs) == 0 {
				y[k].Attrs = []api.Attr{}
			}
		}
		for _, c := range questions(x) {
			if a, b := Ask(x, c), Ask(y, c); !same(a, b) {
				t.Errorf("%+v: %+v, %+v", c, a, b)
			}
		}
	}
}

// The document's example.
func TestExample(t *testing.T) {
	if a := Ask(of(t, "<a/>"), api.Call{Kind: api.CSize}); !same(a, api.Answer{N: 2}) {
		t.Errorf("%+v", a)
	}
}

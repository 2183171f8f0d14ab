package model

import (
	"cmp"
	"slices"
	"strconv"
	"strings"
	"testing"

	"bracken/api"
	"bracken/tree"
)

// What the document calls XMLURI and XMLNSURI.
const (
	xmlURI   = "http://www.w3.org/XML/1998/namespace"
	xmlnsURI = "http://www.w3.org/2000/xmlns/"
)

// toldUp: the last node ahead of k with a lesser Depth.
func toldUp(t api.Tree, k int) int {
	found := -1
	for j := range max(k, 0) {
		if t[j].Depth < t[k].Depth {
			found = j
		}
	}
	return found
}

// toldBelow: k is a parent of j, or a parent's parent, and so on.
func toldBelow(t api.Tree, j, k int) bool {
	for j > k {
		j = toldUp(t, j)
		if j == k {
			return true
		}
	}
	return false
}

// toldOn tells whether j stands along an axis from k: 17.1.
func toldOn(t api.Tree, j, k, axis int) bool {
	switch axis {
	case 1: // self
		return j == k
	case 2: // child
		return toldUp(t, j) == k
	case 3: // parent
		return j == toldUp(t, k)
	case 4: // ancestor
		return toldBelow(t, k, j)
	case 5: // ancestor-or-self
		return j == k || toldBelow(t, k, j)
	case 6: // descendant
		return toldBelow(t, j, k)
	case 7: // descendant-or-self
		return j == k || toldBelow(t, j, k)
	case 8: // following
		return j > k && !toldBelow(t, j, k)
	case 9: // preceding
		return j < k && !toldBelow(t, k, j)
	case 10: // following-sibling
		return j > k && toldUp(t, j) == toldUp(t, k)
	case 11: // preceding-sibling
		return j < k && toldUp(t, j) == toldUp(t, k)
	}
	return false
}

// toldNodes: all of them, in document order.
func toldNodes(t api.Tree, k, axis int) []int {
	var l []int
	for j := range t {
		if toldOn(t, j, k, axis) {
			l = append(l, j)
		}
	}
	return l
}

// toldURI is what prefix means at the element k: the nearest declaration around it.
func toldURI(t api.Tree, k int, prefix string) (string, bool) {
	for at := k; at > 0; at = toldUp(t, at) {
		for _, a := range t[at].Attrs {
			if a.URI == xmlnsURI && (a.Prefix == "xmlns" && a.Local == prefix || a.Prefix == "" && prefix == "") {
				return a.Value, true
			}
		}
	}
	if prefix == "xml" {
		return xmlURI, true
	}
	return "", prefix == ""
}

// toldPrefixes are all that are declared around the element k, and xml, in their order.
func toldPrefixes(t api.Tree, k int) []string {
	l := []string{"xml"}
	for at := k; at > 0; at = toldUp(t, at) {
		for _, a := range t[at].Attrs {
			if a.URI == xmlnsURI && a.Prefix == "xmlns" {
				l = append(l, a.Local)
			}
		}
	}
	slices.Sort(l)
	return slices.Compact(l)
}

// toldTexts: the attributes that are no declarations, or what each prefix means.
func toldTexts(t api.Tree, k, axis int) []string {
	var l []string
	if axis == 12 {
		for _, a := range t[k].Attrs {
			if a.URI != xmlnsURI {
				l = append(l, strings.Join([]string{"{", a.URI, "}", a.Local, "=", a.Value}, ""))
			}
		}
	}
	if axis == 13 && t[k].Kind == api.NElem {
		if uri, _ := toldURI(t, k, ""); uri != "" {
			l = append(l, "="+uri)
		}
		for _, p := range toldPrefixes(t, k) {
			uri, _ := toldURI(t, k, p)
			l = append(l, p+"="+uri)
		}
	}
	return l
}

// toldAxis is 17.1.
func toldAxis(t api.Tree, k, axis int) ([]int, []string, int) {
	switch {
	case !tree.May(t):
		return nil, nil, api.ErrArg
	case k < 0 || k >= len(t):
		return nil, nil, api.ErrRange
	case axis < 1 || axis > 13:
		return nil, nil, api.ErrArg
	}
	return toldNodes(t, k, axis), toldTexts(t, k, axis), api.OK
}

// toldText: the texts below k of those that hold others, or k's own.
func toldText(t api.Tree, k int) string {
	if t[k].Kind != api.NDoc && t[k].Kind != api.NElem {
		return t[k].Value
	}
	s := ""
	for j := range t {
		if t[j].Kind == api.NText && toldBelow(t, j, k) {
			s += t[j].Value
		}
	}
	return s
}

// toldTags: the elements below k that are named so.
func toldTags(t api.Tree, k int, uri, local string) []int {
	var l []int
	for j, n := range t {
		if n.Kind == api.NElem && toldBelow(t, j, k) && slices.Contains([]string{n.URI, "*"}, uri) && slices.Contains([]string{n.Local, "*"}, local) {
			l = append(l, j)
		}
	}
	return l
}

// toldNearest: the nearest element at k or above, of a document the root; -1.
func toldNearest(t api.Tree, k int) int {
	if t[k].Kind == api.NDoc {
		return slices.IndexFunc(t, func(n api.Node) bool { return n.Kind == api.NElem && n.Depth == 1 })
	}
	for k >= 0 && t[k].Kind != api.NElem {
		k = toldUp(t, k)
	}
	return k
}

// toldBound: what prefix means, or the least prefix that means uri.
func toldBound(t api.Tree, c api.Call) api.Answer {
	at := toldNearest(t, c.A)
	if at < 0 {
		return api.Answer{Code: api.ErrNone}
	}
	if c.Kind == api.CURI {
		if uri, is := toldURI(t, at, c.S); is {
			return api.Answer{Texts: []string{uri}}
		}
		return api.Answer{Code: api.ErrNone}
	}
	for _, p := range toldPrefixes(t, at) {
		if uri, _ := toldURI(t, at, p); uri == c.S {
			return api.Answer{Texts: []string{p}}
		}
	}
	return api.Answer{Code: api.ErrNone}
}

// toldAttr: the value of the attribute that has such a name.
func toldAttr(n api.Node, uri, local string) api.Answer {
	if n.Kind != api.NElem {
		return api.Answer{Code: api.ErrKind}
	}
	k := slices.IndexFunc(n.Attrs, func(a api.Attr) bool { return a.URI == uri && a.Local == local })
	if k < 0 {
		return api.Answer{Code: api.ErrNone}
	}
	return api.Answer{Texts: []string{n.Attrs[k].Value}}
}

// firstOf is the first of those along an axis that comes, from the left or from the right; -1.
func firstOf(t api.Tree, k, axis int, left bool) api.Answer {
	l := toldNodes(t, k, axis)
	if !left {
		slices.Reverse(l)
	}
	return api.Answer{N: append(l, -1)[0]}
}

// toldAsk is 17.2.
func toldAsk(t api.Tree, c api.Call) api.Answer {
	is := func(k int) bool { return k >= 0 && k < len(t) }
	switch {
	case !tree.May(t):
		return api.Answer{Code: api.ErrArg}
	case c.Kind == api.CSize:
		return api.Answer{N: len(t)}
	case !is(c.A), c.Kind == api.COrder && !is(c.B):
		return api.Answer{Code: api.ErrRange}
	}
	n := t[c.A]
	switch c.Kind {
	case api.CKind:
		return api.Answer{N: n.Kind}
	case api.CName:
		return api.Answer{Texts: []string{n.Prefix, n.Local, n.URI}}
	case api.CValue:
		return api.Answer{Texts: []string{n.Value}}
	case api.CAttr:
		return toldAttr(n, c.S, c.T)
	case api.CParent:
		return api.Answer{N: toldUp(t, c.A)}
	case api.CFirst:
		return firstOf(t, c.A, api.XChild, true)
	case api.CLast:
		return firstOf(t, c.A, api.XChild, false)
	case api.CNext:
		return firstOf(t, c.A, api.XFollowingSibling, true)
	case api.CPrev:
		return firstOf(t, c.A, api.XPrecedingSibling, false)
	case api.CAxis:
		nodes, texts, code := toldAxis(t, c.A, c.B)
		return api.Answer{Code: code, Nodes: nodes, Texts: texts}
	case api.CTags:
		return api.Answer{Nodes: toldTags(t, c.A, c.S, c.T)}
	case api.CURI, api.CPrefix:
		return toldBound(t, c)
	case api.CText:
		return api.Answer{Texts: []string{toldText(t, c.A)}}
	case api.COrder:
		return api.Answer{N: cmp.Compare(c.A, c.B)}
	case api.CDepth:
		return api.Answer{N: n.Depth}
	}
	return api.Answer{Code: api.ErrArg}
}

// same tells whether a and b are alike in all parts: nothing and an empty list are.
func same(a, b api.Answer) bool {
	return a.Code == b.Code && a.N == b.N && slices.Equal(a.Texts, b.Texts) && slices.Equal(a.Nodes, b.Nodes)
}

// check holds the answer of c against what is told.
func check(t *testing.T, x api.Tree, c api.Call) {
	t.Helper()
	if got, want := Ask(x, c), toldAsk(x, c); !same(got, want) {
		t.Fatalf("%s: %+v: %+v, not %+v", show(x), c, got, want)
	}
}

// checkAxis holds what stands along an axis against what is told.
func checkAxis(t *testing.T, x api.Tree, k, axis int) {
	t.Helper()
	nodes, texts, code := Axis(x, k, axis)
	got := api.Answer{Code: code, Nodes: nodes, Texts: texts}
	nodes, texts, code = toldAxis(x, k, axis)
	if want := (api.Answer{Code: code, Nodes: nodes, Texts: texts}); !same(got, want) {
		t.Fatalf("%s: axis %d of %d: %+v, not %+v", show(x), axis, k, got, want)
	}
}

// checkPlaces holds all that is asked of places in x, and beside it, without names, against what is told.
func checkPlaces(t *testing.T, x api.Tree) {
	t.Helper()
	for k := -2; k < len(x)+2; k++ {
		for axis := -1; axis <= 15; axis++ {
			checkAxis(t, x, k, axis)
			check(t, x, api.Call{Kind: api.CAxis, A: k, B: axis})
		}
		for kind := -1; kind <= 19; kind++ {
			if kind != api.CAxis && kind != api.COrder {
				check(t, x, api.Call{Kind: kind, A: k})
			}
		}
		for j := -2; j < len(x)+2; j++ {
			check(t, x, api.Call{Kind: api.COrder, A: k, B: j})
		}
	}
}

// checkNames holds all that is asked of names in x against what is told, of each pair of these texts.
func checkNames(t *testing.T, x api.Tree, uris, locals []string) {
	t.Helper()
	for k := range x {
		for _, axis := range []int{api.XAttribute, api.XNamespace} {
			checkAxis(t, x, k, axis)
		}
		for _, uri := range uris {
			check(t, x, api.Call{Kind: api.CPrefix, A: k, S: uri})
			for _, local := range locals {
				check(t, x, api.Call{Kind: api.CAttr, A: k, S: uri, T: local})
				check(t, x, api.Call{Kind: api.CTags, A: k, S: uri, T: local})
			}
		}
		for _, prefix := range locals {
			check(t, x, api.Call{Kind: api.CURI, A: k, S: prefix})
		}
	}
}

// rows calls do with start, and with it and all rows of at most n pieces behind it; what it gets is its own as long as it runs.
func rows[T any](start []T, n int, pieces []T, do func([]T)) {
	do(start)
	if n == 0 {
		return
	}
	for _, p := range pieces {
		rows(append(start[:len(start):len(start)], p), n-1, pieces, do)
	}
}

// show is x as a text.
func show(x api.Tree) string {
	out := make([]string, 0, len(x))
	for _, n := range x[:min(len(x), 20)] {
		s := strconv.Itoa(n.Kind) + "/" + strconv.Itoa(n.Depth)
		for _, part := range []string{n.Prefix, n.Local, n.URI, n.Value} {
			s += " " + strconv.Quote(part)
		}
		for _, a := range n.Attrs {
			s += " " + strconv.Quote(a.Prefix) + ":" + strconv.Quote(a.Local) + "{" + a.URI + "}=" + strconv.Quote(a.Value)
		}
		out = append(out, s)
	}
	return cmp.Or(strings.Join(out, "; "), "nothing")
}

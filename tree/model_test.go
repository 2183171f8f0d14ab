package tree

import (
	"cmp"
	"slices"
	"strconv"
	"strings"
	"testing"
	"unicode/utf8"

	"bracken/api"
	"bracken/read"
	"bracken/runes"
	"bracken/value"
)

// What the document calls XMLURI and XMLNSURI.
const (
	xmlURI   = "http://www.w3.org/XML/1998/namespace"
	xmlnsURI = "http://www.w3.org/2000/xmlns/"
)

// modelParent: the last node ahead of k with a lesser Depth.
func modelParent(t api.Tree, k int) int {
	found := -1
	for j := range t {
		if k >= 0 && k < len(t) && j < k && t[j].Depth < t[k].Depth {
			found = j
		}
	}
	return found
}

// modelEnd: behind the last of those that have k as a parent, or as a parent's parent, and so on.
func modelEnd(t api.Tree, k int) int {
	if k < 0 || k >= len(t) {
		return -1
	}
	end := k + 1
	for j := k + 1; j < len(t); j++ {
		at := j
		for at > k {
			at = modelParent(t, at)
		}
		if at == k {
			end = j + 1
		}
	}
	return end
}

// modelChars: all of s are Chars, which bytes that are no UTF-8 are not.
func modelChars(s string) bool {
	for at := 0; at < len(s); {
		r, size := utf8.DecodeRuneInString(s[at:])
		if r == utf8.RuneError && size < 2 || !runes.Char(r) {
			return false
		}
		at += size
	}
	return true
}

// modelName: what runes.Split takes, and splits so.
func modelName(prefix, local string) bool {
	name := local
	if prefix != "" {
		name = prefix + ":" + local
	}
	p, l, is := runes.Split(name)
	return is && p == prefix && l == local
}

// modelShape: 16.1 of Kinds and Depths.
func modelShape(t api.Tree) bool {
	if len(t) < 1 || len(t) > 1<<20 || t[0].Kind != api.NDoc || t[0].Depth != 0 {
		return false
	}
	roots := 0
	for k, n := range t[1:] {
		ahead := t[k]
		switch {
		case n.Kind != api.NElem && n.Kind != api.NText && n.Kind != api.NComment && n.Kind != api.NPI:
			return false
		case n.Depth < 1 || n.Depth > 201 || n.Depth > ahead.Depth+1:
			return false
		case n.Depth == ahead.Depth+1 && ahead.Kind != api.NDoc && ahead.Kind != api.NElem:
			return false
		case n.Depth == 1 && n.Kind == api.NText:
			return false
		case n.Kind == api.NText && ahead.Kind == api.NText && n.Depth == ahead.Depth:
			return false
		case n.Depth == 1 && n.Kind == api.NElem:
			roots++
		}
	}
	return roots == 1
}

// modelTexts: 16.1 of the texts of a node, but for what its names mean.
func modelTexts(n api.Node) bool {
	if n.Kind != api.NElem && (n.Prefix != "" || n.URI != "" || len(n.Attrs) > 0) {
		return false
	}
	if n.Kind != api.NElem && n.Kind != api.NPI && n.Local != "" {
		return false
	}
	for _, a := range n.Attrs {
		if !modelName(a.Prefix, a.Local) || !modelChars(a.Value) {
			return false
		}
	}
	aside := modelChars(n.Value) && !strings.ContainsRune(n.Value, 13)
	switch n.Kind {
	case api.NElem:
		return n.Value == "" && modelName(n.Prefix, n.Local)
	case api.NText:
		return n.Value != "" && modelChars(n.Value)
	case api.NComment:
		return aside && !strings.Contains(n.Value+"-", "--")
	case api.NPI:
		begins := n.Value != "" && runes.Blank(n.Value[:1])
		return aside && runes.NCName(n.Local) && strings.ToLower(n.Local) != "xml" && !strings.Contains(n.Value, "?>") && !begins
	}
	return n.Value == ""
}

// modelDeclares tells what a declares, if it has the name of a declaration: a prefix, or "" for the default.
func modelDeclares(a api.Attr) (string, bool) {
	if a.Prefix == "" && a.Local == "xmlns" {
		return "", true
	}
	return a.Local, a.Prefix == "xmlns"
}

// modelURI is what prefix means at the element k: 14.2, the nearest declaration around it.
func modelURI(t api.Tree, k int, prefix string) (string, bool) {
	for at := k; at > 0; at = modelParent(t, at) {
		for _, a := range t[at].Attrs {
			if p, is := modelDeclares(a); is && p == prefix {
				return a.Value, true
			}
		}
	}
	if prefix == "xml" {
		return xmlURI, true
	}
	return "", prefix == ""
}

// modelLevel: 14.1 of all that an element declares.
func modelLevel(l []api.Attr) bool {
	var ahead []string
	for _, a := range l {
		p, is := modelDeclares(a)
		if !is {
			continue
		}
		if p == "xmlns" || a.Value == xmlnsURI || (p == "xml") != (a.Value == xmlURI) || p != "" && a.Value == "" || slices.Contains(ahead, p) {
			return false
		}
		ahead = append(ahead, p)
	}
	return true
}

// modelNames: 16.1 of what the names of the element k mean.
func modelNames(t api.Tree, k int) bool {
	n := t[k]
	if uri, is := modelURI(t, k, n.Prefix); !is || n.URI != uri || n.Prefix == "xmlns" || !modelLevel(n.Attrs) {
		return false
	}
	for j, a := range n.Attrs {
		uri, is := "", true
		if _, declares := modelDeclares(a); declares {
			uri = xmlnsURI
		} else if a.Prefix != "" {
			uri, is = modelURI(t, k, a.Prefix)
		}
		if !is || a.URI != uri {
			return false
		}
		for _, b := range n.Attrs[:j] {
			if b.URI == a.URI && b.Local == a.Local {
				return false
			}
		}
	}
	return true
}

// modelMay is 16.1.
func modelMay(t api.Tree) bool {
	if !modelShape(t) {
		return false
	}
	for k, n := range t {
		if !modelTexts(n) || n.Kind == api.NElem && !modelNames(t, k) {
			return false
		}
	}
	return true
}

// modelScope: what each prefix around k means, by prefix, but for a default that means nothing.
func modelScope(t api.Tree, k int) []api.Attr {
	if !modelMay(t) || k < 0 || k >= len(t) || t[k].Kind != api.NElem {
		return nil
	}
	prefixes := []string{"", "xml"}
	for at := k; at > 0; at = modelParent(t, at) {
		for _, a := range t[at].Attrs {
			if p, is := modelDeclares(a); is {
				prefixes = append(prefixes, p)
			}
		}
	}
	slices.Sort(prefixes)
	var l []api.Attr
	for _, p := range slices.Compact(prefixes) {
		uri, _ := modelURI(t, k, p)
		if p != "" {
			l = append(l, api.Attr{Prefix: "xmlns", Local: p, URI: xmlnsURI, Value: uri})
		} else if uri != "" {
			l = append(l, api.Attr{Local: "xmlns", URI: xmlnsURI, Value: uri})
		}
	}
	return l
}

// write is t as a text: whatever it is, as one that is denoted by a text would be written.
func write(t api.Tree) string {
	var out strings.Builder
	var open []api.Node
	for k, n := range t {
		for len(open) > 0 && open[len(open)-1].Depth >= n.Depth {
			out.WriteString("</" + nameOf(open[len(open)-1]) + ">")
			open = open[:len(open)-1]
		}
		switch n.Kind {
		case api.NElem:
			out.WriteString("<" + nameOf(n))
			for _, a := range n.Attrs {
				out.WriteString(" " + nameOf(api.Node{Prefix: a.Prefix, Local: a.Local}) + "=\"" + value.Attr(a.Value) + "\"")
			}
			if k+1 == len(t) || t[k+1].Depth <= n.Depth {
				out.WriteString("/>")
				continue
			}
			out.WriteString(">")
			open = append(open, n)
		case api.NText:
			out.WriteString(value.Text(n.Value))
		case api.NComment:
			out.WriteString("<!--" + n.Value + "-->")
		case api.NPI:
			out.WriteString("<?" + n.Local)
			if n.Value != "" {
				out.WriteString(" " + n.Value)
			}
			out.WriteString("?>")
		}
	}
	for _, n := range slices.Backward(open) {
		out.WriteString("</" + nameOf(n) + ">")
	}
	return out.String()
}

// nameOf is the name of n.
func nameOf(n api.Node) string {
	if n.Prefix == "" {
		return n.Local
	}
	return n.Prefix + ":" + n.Local
}

// most are the limits that let most.
func most() api.Limits {
	return api.Limits{Bytes: 1 << 20, Depth: 200, Expand: 1 << 20, Attrs: 100}
}

func sameNodes(a, b api.Node) bool {
	return a.Kind == b.Kind && a.Depth == b.Depth && a.Prefix == b.Prefix && a.Local == b.Local && a.URI == b.URI && a.Value == b.Value && slices.Equal(a.Attrs, b.Attrs)
}

// denoted tells whether t, written, is read as t: a text denotes it.
func denoted(t api.Tree) bool {
	back, code := read.Tree([]byte(write(t)), most())
	return code == api.OK && slices.EqualFunc(back, t, sameNodes)
}

// check holds May of t against the model, and against what is read.
func check(t *testing.T, x api.Tree) bool {
	t.Helper()
	is := May(x)
	if want := modelMay(x); is != want {
		t.Fatalf("%s: %t, not %t", show(x), is, want)
	}
	if want := denoted(x); is != want {
		t.Fatalf("%s: %t, but %q is read: %t", show(x), is, write(x), want)
	}
	return is
}

// checkPlaces holds what is asked of each place of x, and of places beside, against the model.
func checkPlaces(t *testing.T, x api.Tree) {
	t.Helper()
	for k := -2; k < len(x)+2; k++ {
		if got, want := Parent(x, k), modelParent(x, k); got != want {
			t.Fatalf("Parent(%s, %d) = %d, not %d", show(x), k, got, want)
		}
		if got, want := End(x, k), modelEnd(x, k); got != want {
			t.Fatalf("End(%s, %d) = %d, not %d", show(x), k, got, want)
		}
		if got, want := Scope(x, k), modelScope(x, k); !slices.Equal(got, want) {
			t.Fatalf("Scope(%s, %d) = %v, not %v", show(x), k, got, want)
		}
	}
}

// rows calls do with start, and with it and all rows of at most n pieces behind it; what it gets is its own as long as it runs.
func rows[T any](start []T, n int, pieces []T, do func([]T)) {
	do(start)
	if n == 0 {
		return
	}
	for _, p := range pieces {
		rows(append(start[:len(start):len(start)], p), n-1, pieces, do)
	}
}

// show is x as a text.
func show(x api.Tree) string {
	out := make([]string, 0, len(x))
	for _, n := range x[:min(len(x), 20)] {
		s := strconv.Itoa(n.Kind) + "/" + strconv.Itoa(n.Depth)
		for _, part := range []string{n.Prefix, n.Local, n.URI, n.Value} {
			s += " " + strconv.Quote(part)
		}
		for _, a := range n.Attrs {
			s += " " + strconv.Quote(a.Prefix) + ":" + strconv.Quote(a.Local) + "{" + a.URI + "}=" + strconv.Quote(a.Value)
		}
		out = append(out, s)
	}
	return cmp.Or(strings.Join(out, "; "), "nothing")
}

package model

import (
	"slices"

	"bracken/api"
	"bracken/tree"
)

// along gives what stands along an axis from k, which stands in t.
func along(t api.Tree, k, axis int) ([]int, []string, int) {
	if axis < api.XSelf || axis > api.XNamespace {
		return nil, nil, api.ErrArg
	}
	return places(t, k, axis), names(t, k, axis), api.OK
}

// places gives the nodes along an axis of nodes; none of another.
func places(t api.Tree, k, axis int) []int {
	switch axis {
	case api.XSelf:
		return []int{k}
	case api.XChild:
		return row(t, k+1, tree.End(t, k))
	case api.XParent:
		l := ancestors(t, k)
		return l[max(len(l)-1, 0):]
	case api.XAncestor:
		return ancestors(t, k)
	case api.XAncestorOrSelf:
		return append(ancestors(t, k), k)
	case api.XDescendant:
		return span(k+1, tree.End(t, k))
	case api.XDescendantOrSelf:
		return span(k, tree.End(t, k))
	case api.XFollowing:
		return span(tree.End(t, k), len(t))
	case api.XPreceding:
		return preceding(t, k)
	case api.XFollowingSibling:
		return row(t, tree.End(t, k), tree.End(t, tree.Parent(t, k)))
	case api.XPrecedingSibling:
		return row(t, tree.Parent(t, k)+1, k)
	}
	return nil
}

// names gives the texts along an axis of texts; none of another.
func names(t api.Tree, k, axis int) []string {
	switch axis {
	case api.XAttribute:
		if e, is := partOf(&t[k]).(element); is {
			return e.attributes()
		}
	case api.XNamespace:
		return namespaces(tree.Scope(t, k))
	}
	return nil
}

// ancestors gives what k stands below, the document first.
func ancestors(t api.Tree, k int) []int {
	var l []int
	for at := tree.Parent(t, k); at >= 0; at = tree.Parent(t, at) {
		l = append(l, at)
	}
	slices.Reverse(l)
	return l
}

// preceding gives all ahead of k, but for what k stands below.
func preceding(t api.Tree, k int) []int {
	var l []int
	from := 0
	for _, at := range append(ancestors(t, k), k) {
		l = append(l, span(from, at)...)
		from = at + 1
	}
	return l
}

// row gives the node at from, and those that stand beside it, up to end.
func row(t api.Tree, from, end int) []int {
	var l []int
	for at := from; at < end; at = tree.End(t, at) {
		l = append(l, at)
	}
	return l
}

// span gives all from from on, up to end.
func span(from, end int) []int {
	l := make([]int, 0, end-from)
	for at := from; at < end; at++ {
		l = append(l, at)
	}
	return l
}

// namespaces gives what is bound, as prefixes and URIs.
func namespaces(bound []api.Attr) []string {
	var l []string
	for _, a := range bound {
		prefix := a.Local
		if a.Prefix == "" {
			prefix = ""
		}
		l = append(l, prefix+"="+a.Value)
	}
	return l
}

package model

import (
	"strings"

	"bracken/api"
	"bracken/scope"
	"bracken/tree"
)

// answer answers c, of a tree that may be and of nodes that stand in it.
func answer(t api.Tree, c api.Call) api.Answer {
	n := &t[c.A]
	switch c.Kind {
	case api.CKind:
		return number(n.Kind)
	case api.CName:
		return texts(n.Prefix, n.Local, n.URI)
	case api.CValue:
		return texts(n.Value)
	case api.CAttr:
		return attr(n, c.S, c.T)
	case api.CParent:
		return number(tree.Parent(t, c.A))
	case api.CFirst:
		return number(first(places(t, c.A, api.XChild)))
	case api.CLast:
		return number(last(places(t, c.A, api.XChild)))
	case api.CNext:
		return number(first(places(t, c.A, api.XFollowingSibling)))
	case api.CPrev:
		return number(last(places(t, c.A, api.XPrecedingSibling)))
	case api.CAxis:
		nodes, names, code := along(t, c.A, c.B)
		return api.Answer{Code: code, Nodes: nodes, Texts: names}
	case api.CTags:
		return api.Answer{Nodes: tags(t, c.A, c.S, c.T)}
	case api.CURI:
		return bound(t, c.A, func(sc *scope.Scope) (string, bool) { return sc.URI(c.S) })
	case api.CPrefix:
		return bound(t, c.A, func(sc *scope.Scope) (string, bool) { return sc.Prefix(c.S) })
	case api.CText:
		return texts(partOf(n).text(t[c.A+1 : tree.End(t, c.A)]))
	case api.COrder:
		return number(Before(t, c.A, c.B))
	case api.CDepth:
		return number(n.Depth)
	}
	return failure(api.ErrArg)
}

// attr answers the value of an attribute of n.
func attr(n *api.Node, uri, local string) api.Answer {
	e, is := partOf(n).(element)
	if !is {
		return failure(api.ErrKind)
	}
	v, is := e.value(uri, local)
	if !is {
		return failure(api.ErrNone)
	}
	return texts(v)
}

// tags gives the elements below k that are called so.
func tags(t api.Tree, k int, uri, local string) []int {
	var l []int
	for _, at := range span(k+1, tree.End(t, k)) {
		if e, is := partOf(&t[at]).(element); is && e.called(uri, local) {
			l = append(l, at)
		}
	}
	return l
}

// bound answers what of tells of the namespaces at k.
func bound(t api.Tree, k int, of func(*scope.Scope) (string, bool)) api.Answer {
	at := nearest(t, k)
	if at < 0 {
		return failure(api.ErrNone)
	}
	sc := scope.New()
	sc.Push(tree.Scope(t, at))
	s, is := of(sc)
	if !is {
		return failure(api.ErrNone)
	}
	return texts(s)
}

// nearest gives the element whose namespaces hold at k; -1, if there is none.
func nearest(t api.Tree, k int) int {
	if _, is := partOf(&t[k]).(document); is {
		return first(tags(t, k, "*", "*"))
	}
	for at := k; at >= 0; at = tree.Parent(t, at) {
		if _, is := partOf(&t[at]).(element); is {
			return at
		}
	}
	return -1
}

func failure(code int) api.Answer { return api.Answer{Code: code} }
func number(n int) api.Answer     { return api.Answer{N: n} }

// texts answers copies of l: what its texts are pieces of is not the caller's own.
func texts(l ...string) api.Answer {
	var a api.Answer
	for _, s := range l {
		a.Texts = append(a.Texts, strings.Clone(s))
	}
	return a
}

// first gives the first of l; -1 of none.
func first(l []int) int {
	if len(l) == 0 {
		return -1
	}
	return l[0]
}

// last gives the last of l; -1 of none.
func last(l []int) int {
	if len(l) == 0 {
		return -1
	}
	return l[len(l)-1]
}

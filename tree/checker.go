package tree

import (
	"bracken/api"
	"bracken/scope"
)

// checker goes over a tree from the second node on.
type checker struct {
	ahead  part // the node ahead of the next one
	depth  int  // its Depth
	rooted bool // the root has come
	scope  *scope.Scope
}

// take takes the next node, and tells whether it may be that.
func (c *checker) take(n *api.Node) bool {
	p := partOf(n)
	if p == nil || !p.may() || !c.reaches(n.Depth) || !c.follows(p, n.Depth) {
		return false
	}
	if e, is := p.(element); is && !c.begin(e) {
		return false
	}
	c.ahead, c.depth = p, n.Depth
	return true
}

// reaches tells whether a node of that depth has a place behind the node ahead.
func (c *checker) reaches(depth int) bool {
	// What an element of MaxDepth holds is one deeper.
	if depth < 1 || depth > api.MaxDepth+1 || depth > c.depth+1 {
		return false
	}
	return depth <= c.depth || c.ahead.holds()
}

// follows tells whether p, at that depth, may stand behind what came ahead.
func (c *checker) follows(p part, depth int) bool {
	if _, is := p.(document); is {
		return false
	}
	if _, is := p.(element); is && depth == 1 {
		return !c.rooted
	}
	if _, is := p.(characters); is {
		// One that stands behind another of its depth would be read as one with it.
		_, behind := c.ahead.(characters)
		return depth > 1 && !(behind && depth == c.depth)
	}
	return true
}

// begin pushes what e declares, and tells whether its names have the URIs that they must have.
func (c *checker) begin(e element) bool {
	c.rooted = true
	for c.scope.Depth() >= e.Depth {
		c.scope.Pop()
	}
	if c.scope.Push(e.Attrs) != api.OK {
		return false
	}
	// A prefix xmlns has none, as nothing binds it.
	uri, is := c.scope.URI(e.Prefix)
	if !is || e.URI != uri {
		return false
	}
	for _, a := range e.Attrs {
		if uri, is := c.meant(a); !is || a.URI != uri {
			return false
		}
	}
	return !twice(e.Attrs)
}

// meant gives the URI that a must have, if it may have any.
func (c *checker) meant(a api.Attr) (string, bool) {
	switch {
	case a.Prefix == "xmlns", a.Prefix == "" && a.Local == "xmlns":
		return api.XMLNSURI, true
	case a.Prefix == "":
		// Whatever the default is.
		return "", true
	}
	return c.scope.URI(a.Prefix)
}

// twice tells whether two of l have one URI and Local.
func twice(l []api.Attr) bool {
	if len(l) < 2 {
		return false
	}
	found := map[api.Attr]struct{}{}
	for _, a := range l {
		name := api.Attr{URI: a.URI, Local: a.Local}
		if _, is := found[name]; is {
			return true
		}
		found[name] = struct{}{}
	}
	return false
}

package model

import (
	"strings"

	"bracken/api"
)

// part is a node as its kind makes it: text is what can be read of it, where those nodes stand below it.
type part interface {
	text(below []api.Node) string
}

type (
	document   struct{ *api.Node }
	element    struct{ *api.Node }
	characters struct{ *api.Node }
	aside      struct{ *api.Node } // a comment, a PI
)

// partOf gives n, which is of some kind, as a part.
func partOf(n *api.Node) part {
	switch n.Kind {
	case api.NDoc:
		return document{n}
	case api.NElem:
		return element{n}
	case api.NText:
		return characters{n}
	}
	return aside{n}
}

func (document) text(below []api.Node) string { return gathered(below) }
func (element) text(below []api.Node) string  { return gathered(below) }
func (c characters) text(_ []api.Node) string { return c.Value }
func (a aside) text(_ []api.Node) string      { return a.Value }

// gathered gives the characters among l, one behind the other.
func gathered(l []api.Node) string {
	var b strings.Builder
	for k := range l {
		if c, is := partOf(&l[k]).(characters); is {
			b.WriteString(c.Value)
		}
	}
	return b.String()
}

// called tells whether e has that URI and Local, or any where "*" is asked for.
func (e element) called(uri, local string) bool {
	return (uri == "*" || e.URI == uri) && (local == "*" || e.Local == local)
}

// value gives the Value of e's attribute of that URI and Local. (There is one at most.)
func (e element) value(uri, local string) (string, bool) {
	for _, a := range e.Attrs {
		if a.URI == uri && a.Local == local {
			return a.Value, true
		}
	}
	return "", false
}

// attributes gives those of e that declare nothing, as names and values.
func (e element) attributes() []string {
	var l []string
	for _, a := range e.Attrs {
		if a.URI != api.XMLNSURI {
			l = append(l, "{"+a.URI+"}"+a.Local+"="+a.Value)
		}
	}
	return l
}

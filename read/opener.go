package read

import (
	"bracken/api"
	"bracken/refs"
	"bracken/runes"
	"bracken/scope"
	"bracken/value"
)

// opener makes elements of their starts.
type opener struct {
	limits api.Limits
	refs   *refs.Refs
	scope  *scope.Scope
}

// element gives the element that t begins, of whose attributes d is declared, and pushes what it declares.
func (o opener) element(t api.Token, d *declared) (api.Node, int) {
	if len(t.Attrs) > o.limits.Attrs {
		return api.Node{}, api.ErrLimit
	}
	prefix, local, is := runes.Split(t.Name)
	if !is || !named(t.Attrs) {
		return api.Node{}, api.ErrSyntax
	}
	read, code := o.values(t.Attrs, d)
	if code == api.OK {
		read, code = o.defaults(read, d)
	}
	if code != api.OK {
		return api.Node{}, code
	}
	attrs, is := split(read)
	if !is || o.scope.Push(attrs) != api.OK {
		return api.Node{}, api.ErrSyntax
	}
	n := api.Node{Kind: api.NElem, Prefix: prefix, Local: local, Attrs: attrs}
	if !o.bind(&n) {
		o.scope.Pop()
		return api.Node{}, api.ErrSyntax
	}
	return n, api.OK
}

// named tells whether all of l have names, and each another one.
func named(l []api.Raw) bool {
	for _, a := range l {
		if _, _, is := runes.Split(a.Name); !is {
			return false
		}
	}
	return len(names(l)) == len(l)
}

// names are those of l.
func names(l []api.Raw) map[string]struct{} {
	all := map[string]struct{}{}
	for _, a := range l {
		all[a.Name] = struct{}{}
	}
	return all
}

// values gives l with what its values, which stand there as they are written, are read as.
func (o opener) values(l []api.Raw, d *declared) ([]api.Raw, int) {
	read := make([]api.Raw, 0, len(l))
	for _, a := range l {
		v, code := value.Read(o.refs, a.Value, d.kind(a.Name), o.limits.Expand)
		if code != api.OK {
			return nil, code
		}
		read = append(read, api.Raw{Name: a.Name, Value: v})
	}
	return read, api.OK
}

// defaults gives l with the attributes behind it that stand where none of their names does.
func (o opener) defaults(l []api.Raw, d *declared) ([]api.Raw, int) {
	has := names(l)
	for _, a := range d.given() {
		if _, is := has[a.Name]; is {
			continue
		}
		has[a.Name] = struct{}{}
		if len(l) >= o.limits.Attrs || o.refs.Spend(len(a.Name)+len(a.Value), o.limits.Expand) != api.OK {
			return nil, api.ErrLimit
		}
		v, code := value.Read(o.refs, a.Value, d.kind(a.Name), o.limits.Expand)
		if code != api.OK {
			return nil, code
		}
		l = append(l, api.Raw{Name: a.Name, Value: v})
	}
	return l, api.OK
}

// split gives l as attributes: those that declare a namespace have their URI, the others have none yet.
func split(l []api.Raw) ([]api.Attr, bool) {
	attrs := make([]api.Attr, 0, len(l))
	for _, a := range l {
		prefix, local, is := runes.Split(a.Name)
		if !is {
			return nil, false
		}
		uri := ""
		if prefix == "xmlns" || a.Name == "xmlns" {
			uri = api.XMLNSURI
		}
		attrs = append(attrs, api.Attr{Prefix: prefix, Local: local, URI: uri, Value: a.Value})
	}
	return attrs, true
}

// bind gives the names of n their URIs, and tells whether they have such, no two attributes one name.
func (o opener) bind(n *api.Node) bool {
	// A prefix xmlns has none, as nothing binds it.
	uri, is := o.scope.URI(n.Prefix)
	if !is {
		return false
	}
	n.URI = uri
	for k, a := range n.Attrs {
		// What has no prefix is of no namespace, whatever the default is; what declares one has its URI.
		if a.Prefix == "" || a.URI != "" {
			continue
		}
		if n.Attrs[k].URI, is = o.scope.URI(a.Prefix); !is {
			return false
		}
	}
	return !twice(n.Attrs)
}

// twice tells whether two of l have one URI and Local.
func twice(l []api.Attr) bool {
	locals := map[string]int{}
	for _, a := range l {
		locals[a.Local]++
	}
	found := map[api.Attr]struct{}{}
	for _, a := range l {
		// URIs may be very long: they are looked at only where that may tell something.
		if locals[a.Local] < 2 {
			continue
		}
		name := api.Attr{URI: a.URI, Local: a.Local}
		if _, is := found[name]; is {
			return true
		}
		found[name] = struct{}{}
	}
	return false
}

package scope

import (
	"strings"

	"bracken/api"
)

// bond is what a declaration binds to a URI: a prefix, or the default. Each tells the name by which it is found.
type bond interface {
	name() string
	to() string
	may() bool
	declaration() api.Attr
}

// prefixed binds a prefix.
type prefixed struct{ prefix, uri string }

// unprefixed binds the default, which names without a prefix have.
type unprefixed struct{ uri string }

// declared gives what a binds, if it is a declaration. It keeps copies: what a's texts are pieces of may be far longer. (Answers share these copies, as texts are never changed: a long URI may be that of very many names.)
func declared(a api.Attr) (bond, bool) {
	switch {
	case a.URI != api.XMLNSURI:
		return nil, false
	case a.Prefix == "xmlns" && a.Local != "":
		return prefixed{strings.Clone(a.Local), strings.Clone(a.Value)}, true
	case a.Prefix == "xmlns", a.Prefix == "" && a.Local == "xmlns":
		// A prefix of nothing is none: what it is bound to is what names without a prefix have.
		return unprefixed{strings.Clone(a.Value)}, true
	}
	return nil, false
}

func (b prefixed) name() string { return b.prefix }
func (b prefixed) to() string   { return b.uri }

// may tells whether the prefix may be bound so: xml and its URI belong to each other alone, xmlns and its URI to nobody.
func (b prefixed) may() bool {
	if b.prefix == "xmlns" || b.uri == api.XMLNSURI || b.uri == "" {
		return false
	}
	return (b.prefix == "xml") == (b.uri == api.XMLURI)
}

func (b prefixed) declaration() api.Attr {
	return api.Attr{Prefix: "xmlns", Local: b.prefix, URI: api.XMLNSURI, Value: b.uri}
}

func (b unprefixed) name() string { return "" }
func (b unprefixed) to() string   { return b.uri }

// may tells whether the default may be bound so: to nothing it may.
func (b unprefixed) may() bool {
	return b.uri != api.XMLURI && b.uri != api.XMLNSURI
}

func (b unprefixed) declaration() api.Attr {
	return api.Attr{Local: "xmlns", URI: api.XMLNSURI, Value: b.uri}
}

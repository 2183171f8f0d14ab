package tree

import (
	"strings"
	"unicode/utf8"

	"bracken/api"
	"bracken/runes"
)

// part is a node as its kind makes it: may tells whether its texts are such as that kind has, holds whether others may stand below it.
type part interface {
	may() bool
	holds() bool
}

type (
	document    struct{ *api.Node }
	element     struct{ *api.Node }
	characters  struct{ *api.Node }
	comment     struct{ *api.Node }
	instruction struct{ *api.Node }
)

// partOf gives n as a part; nil, if it is of no kind.
func partOf(n *api.Node) part {
	switch n.Kind {
	case api.NDoc:
		return document{n}
	case api.NElem:
		return element{n}
	case api.NText:
		return characters{n}
	case api.NComment:
		return comment{n}
	case api.NPI:
		return instruction{n}
	}
	return nil
}

func (d document) may() bool {
	return bare(d.Node) && d.Local == "" && d.Value == ""
}

func (e element) may() bool {
	if !named(e.Prefix, e.Local) || e.Value != "" {
		return false
	}
	for _, a := range e.Attrs {
		if !named(a.Prefix, a.Local) || !chars(a.Value) {
			return false
		}
	}
	return true
}

func (c characters) may() bool {
	return bare(c.Node) && c.Local == "" && c.Value != "" && chars(c.Value)
}

func (c comment) may() bool {
	// Written, it would end too early, or not at all.
	ends := strings.Contains(c.Value, "--") || strings.HasSuffix(c.Value, "-")
	return bare(c.Node) && c.Local == "" && !ends && written(c.Value)
}

func (i instruction) may() bool {
	first, _ := utf8.DecodeRuneInString(i.Value)
	// Written, it would end too early, or begin behind the Space.
	breaks := strings.Contains(i.Value, "?>") || runes.Space(first)
	return bare(i.Node) && target(i.Local) && !breaks && written(i.Value)
}

func (document) holds() bool    { return true }
func (element) holds() bool     { return true }
func (characters) holds() bool  { return false }
func (comment) holds() bool     { return false }
func (instruction) holds() bool { return false }

// bare tells whether n has nothing that elements alone have.
func bare(n *api.Node) bool {
	return n.Prefix == "" && n.URI == "" && len(n.Attrs) == 0
}

// named tells whether prefix and local make a name that splits into them again.
func named(prefix, local string) bool {
	return runes.NCName(local) && (prefix == "" || runes.NCName(prefix))
}

func target(s string) bool {
	return runes.NCName(s) && !strings.EqualFold(s, "xml")
}

// written tells whether s is read as it stands where no references are.
func written(s string) bool {
	return chars(s) && !strings.Contains(s, "\r")
}

// chars tells whether s is of Chars alone.
func chars(s string) bool {
	// A range gives 0xFFFD in place of bytes that are no UTF-8, and that one is a Char.
	if !utf8.ValidString(s) {
		return false
	}
	for _, r := range s {
		if !runes.Char(r) {
			return false
		}
	}
	return true
}

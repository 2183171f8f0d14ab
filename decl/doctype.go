package decl

import (
	"strings"

	"bracken/api"
	"bracken/runes"
	"bracken/token"
)

// names are names that are declared already.
type names map[string]struct{}

// add keeps name, and tells whether it is a new one.
func (n names) add(name string) bool {
	if _, known := n[name]; known {
		return false
	}
	n[name] = struct{}{}
	return true
}

// doctype reads a document type: found is what it has declared up to here.
type doctype struct {
	reader
	found    api.Decls
	entities names
	atts     map[string]names // by elements, so that a long name of one is asked once a list of attributes
}

func newDoctype(s string, at int) *doctype {
	return &doctype{reader: reader{s, at}, entities: names{}, atts: map[string]names{}}
}

// whole takes a document type, from behind its mark on.
func (d *doctype) whole() bool {
	name, is := d.spacedName(qualified)
	if !is {
		return false
	}
	d.found.Name = name
	d.perhaps(func() bool { return d.space() && d.external() })
	d.space()
	if d.take("[") {
		if !d.subset() {
			return false
		}
		d.space()
	}
	return d.take(">")
}

// subset takes the subset, and the bracket that ends it.
func (d *doctype) subset() bool {
	for !d.take("]") {
		if !d.piece() {
			return false
		}
	}
	return true
}

func (d *doctype) piece() bool {
	switch {
	case d.space():
		return true
	case d.take("<!ENTITY"):
		return d.entity()
	case d.take("<!ATTLIST"):
		return d.attlist()
	case d.take("<!ELEMENT"), d.take("<!NOTATION"):
		return d.ignored()
	}
	return d.aside()
}

// aside takes a comment or a PI.
func (d *doctype) aside() bool {
	t, end, code := token.Next(d.s, d.at)
	d.at = end
	return code == api.OK && (t.Kind == api.TComment || t.Kind == api.TPI)
}

func (d *doctype) entity() bool {
	name, is := d.spacedName(runes.NCName)
	e := api.Entity{Name: name}
	if !is || !d.space() || !d.content(&e) {
		return false
	}
	if d.entities.add(name) {
		d.found.Entities = append(d.found.Entities, e)
	}
	d.space()
	return d.take(">")
}

// content takes the text of e, or where it stands.
func (d *doctype) content(e *api.Entity) bool {
	s, is := d.literal()
	if is {
		e.Value, is = Entity(s)
		return is
	}
	if !d.external() {
		return false
	}
	e.External = true
	d.perhaps(d.notation)
	return true
}

func (d *doctype) notation() bool {
	marked := d.space() && d.take("NDATA")
	_, is := d.spacedName(runes.NCName)
	return marked && is
}

func (d *doctype) attlist() bool {
	elem, is := d.spacedName(qualified)
	if !is {
		return false
	}
	if d.atts[elem] == nil {
		d.atts[elem] = names{}
	}
	declared := d.atts[elem]
	for {
		a := api.Att{Elem: elem}
		if !d.perhaps(func() bool { return d.att(&a) }) {
			break
		}
		if declared.add(a.Name) {
			d.found.Atts = append(d.found.Atts, a)
		}
	}
	d.space()
	return d.take(">")
}

// att takes one attribute, with the space ahead of it, into a.
func (d *doctype) att(a *api.Att) bool {
	is := false
	if a.Name, is = d.spacedName(qualified); !is || !d.space() {
		return false
	}
	if a.Type, is = d.kind(); !is || !d.space() {
		return false
	}
	return d.standard(a)
}

func (d *doctype) kind() (int, bool) {
	switch d.parts() {
	case "CDATA":
		return api.ACData, true
	case "ID", "IDREF", "IDREFS", "ENTITY", "ENTITIES", "NMTOKEN", "NMTOKENS":
		return api.ATok, true
	case "NOTATION":
		return api.ATok, d.space() && d.list()
	case "":
		return api.ATok, d.list()
	}
	return 0, false
}

// standard takes what a is where nobody writes it, or that it is nothing then.
func (d *doctype) standard(a *api.Att) bool {
	if d.take("#REQUIRED") || d.take("#IMPLIED") {
		return true
	}
	if d.take("#FIXED") && !d.space() {
		return false
	}
	a.Value, a.Has = d.literal()
	return a.Has && !strings.Contains(a.Value, "<")
}

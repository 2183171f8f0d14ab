package read

import (
	"strings"

	"bracken/api"
	"bracken/decl"
	"bracken/refs"
	"bracken/runes"
	"bracken/scope"
)

// reader goes over a document from the left: tree is what it has come to.
type reader struct {
	opener
	declared map[string]*declared
	from     *source // the text that is read now
	// A list, and no calls within calls: entities may hold one another deeper than calls can go.
	begun    []part // the last one is the innermost
	elements int    // how many of these are elements
	text     strings.Builder
	ahead    bool // neither the document type nor the root has come
	rooted   bool
	tree     api.Tree
}

// newReader is at the beginning of s.
func newReader(s string, l api.Limits) *reader {
	r := &reader{from: &source{text: s}, ahead: true, tree: api.Tree{{Kind: api.NDoc}}}
	r.opener = opener{limits: l, refs: refs.New(api.Decls{}), scope: scope.New()}
	return r
}

// document reads all.
func (r *reader) document() int {
	at, code := decl.XML(r.from.text)
	if code != api.OK {
		return api.ErrSyntax
	}
	r.from.at = at
	for !r.from.ended() {
		if code := r.beside(); code != api.OK {
			return code
		}
	}
	if !r.rooted {
		return api.ErrSyntax
	}
	return api.OK
}

// beside reads one piece of what stands ahead of the root or behind it, or the root.
func (r *reader) beside() int {
	if r.ahead {
		if code := r.doctype(); code != api.ErrNone {
			return code
		}
	}
	t, is := r.from.next()
	switch {
	case !is:
		return api.ErrSyntax
	case t.Kind == api.TText && runes.Blank(t.Text):
		return api.OK
	case t.Kind == api.TComment, t.Kind == api.TPI:
		return r.aside(t)
	case t.Kind == api.TStart && !r.rooted:
		return r.root(t)
	}
	return api.ErrSyntax
}

// doctype reads the document type, if it stands there.
func (r *reader) doctype() int {
	d, end, code := decl.Doctype(r.from.text, r.from.at)
	if code != api.OK {
		return code
	}
	r.from.at = end
	r.ahead = false
	r.declared = declaredBy(d.Atts)
	r.refs = refs.New(d)
	return api.OK
}

// root reads the root that t begins, with all that is in it.
func (r *reader) root(t api.Token) int {
	r.ahead, r.rooted = false, true
	code := r.start(t)
	for code == api.OK && len(r.begun) > 0 {
		code = r.content()
	}
	return code
}

// content reads one piece of content.
func (r *reader) content() int {
	if r.from.ended() {
		return r.endText()
	}
	t, is := r.from.next()
	if !is {
		return api.ErrSyntax
	}
	switch t.Kind {
	case api.TRef:
		return r.refer(t.Name)
	case api.TStart:
		return r.start(t)
	case api.TEnd:
		return r.endElement(t.Name)
	case api.TComment, api.TPI:
		return r.aside(t)
	}
	r.text.WriteString(t.Text)
	return api.OK
}

// refer takes what the reference of that name stands for.
func (r *reader) refer(name string) int {
	if c, five, _ := r.refs.Get(name); five {
		r.text.WriteString(c)
		return api.OK
	}
	s, code := r.refs.Open(name, r.limits.Expand)
	switch code {
	case api.OK:
		r.from = &source{name: name, text: s, outer: r.from}
		r.begun = append(r.begun, r.from)
		return api.OK
	case api.ErrLimit:
		return api.ErrLimit
	}
	return api.ErrSyntax
}

// endText ends the text that is read now: what began in it must have ended.
func (r *reader) endText() int {
	s, is := r.innermost().(*source)
	if !is {
		return api.ErrSyntax
	}
	r.end(s)
	return api.OK
}

// start begins the element of t; ends it, too, if it is empty.
func (r *reader) start(t api.Token) int {
	if r.elements >= r.limits.Depth {
		return api.ErrLimit
	}
	n, code := r.element(t, r.declared[t.Name])
	if code != api.OK {
		return code
	}
	r.add(n)
	if t.Empty {
		r.scope.Pop()
		return api.OK
	}
	r.begun = append(r.begun, element{t.Name})
	r.elements++
	return api.OK
}

// endElement ends the element of that name, which must be the innermost of what has begun.
func (r *reader) endElement(name string) int {
	e, is := r.innermost().(element)
	if !is || e.name != name {
		return api.ErrSyntax
	}
	r.end(e)
	return api.OK
}

// aside takes a comment or a PI.
func (r *reader) aside(t api.Token) int {
	// It could not be written so that it is read as it was.
	if strings.Contains(t.Text, "\r") {
		return api.ErrSyntax
	}
	n := api.Node{Kind: api.NComment, Value: t.Text}
	if t.Kind == api.TPI {
		n = api.Node{Kind: api.NPI, Local: t.Name, Value: t.Text}
	}
	r.add(n)
	return api.OK
}

// add adds n, behind the text that stands ahead of it.
func (r *reader) add(n api.Node) {
	r.flush()
	n.Depth = r.elements + 1
	r.tree = append(r.tree, n)
}

// flush adds the text that was read, if there is any.
func (r *reader) flush() {
	if r.text.Len() == 0 {
		return
	}
	r.tree = append(r.tree, api.Node{Kind: api.NText, Depth: r.elements + 1, Value: r.text.String()})
	r.text.Reset()
}

// innermost is the last that has begun.
func (r *reader) innermost() part {
	return r.begun[len(r.begun)-1]
}

// end ends p, the innermost.
func (r *reader) end(p part) {
	r.begun = r.begun[:len(r.begun)-1]
	p.end(r)
}

package read

import (
	"slices"
	"strconv"
	"strings"
	"testing"

	"bracken/api"
	"bracken/decl"
	"bracken/refs"
	"bracken/runes"
	"bracken/scope"
	"bracken/text"
	"bracken/token"
	"bracken/value"
)

// What the document calls XMLURI and XMLNSURI.
const (
	xmlURI   = "http://www.w3.org/XML/1998/namespace"
	xmlnsURI = "http://www.w3.org/2000/xmlns/"
)

// modelKind is the type that d tells of the attribute name of elem.
func modelKind(d api.Decls, elem, name string) int {
	for _, a := range d.Atts {
		if a.Elem == elem && a.Name == name {
			return a.Type
		}
	}
	return api.ACData
}

// modelNames: 15.2 up to the names.
func modelNames(t api.Token) int {
	ahead := []string{}
	if _, _, is := runes.Split(t.Name); !is {
		return api.ErrSyntax
	}
	for _, a := range t.Attrs {
		if _, _, is := runes.Split(a.Name); !is || slices.Contains(ahead, a.Name) {
			return api.ErrSyntax
		}
		ahead = append(ahead, a.Name)
	}
	return api.OK
}

// modelValues: 15.2 from the values to the defaults.
func modelValues(t api.Token, d api.Decls, r *refs.Refs, l api.Limits) ([]api.Raw, int) {
	var out []api.Raw
	for _, a := range t.Attrs {
		v, code := value.Read(r, a.Value, modelKind(d, t.Name, a.Name), l.Expand)
		if code != api.OK {
			return nil, code
		}
		out = append(out, api.Raw{Name: a.Name, Value: v})
	}
	for _, a := range d.Atts {
		if a.Elem != t.Name || !a.Has || slices.ContainsFunc(out, func(x api.Raw) bool { return x.Name == a.Name }) {
			continue
		}
		if len(out)+1 > l.Attrs {
			return nil, api.ErrLimit
		}
		if r.Spend(len(a.Name)+len(a.Value), l.Expand) != api.OK {
			return nil, api.ErrLimit
		}
		v, code := value.Read(r, a.Value, modelKind(d, t.Name, a.Name), l.Expand)
		if code != api.OK {
			return nil, code
		}
		out = append(out, api.Raw{Name: a.Name, Value: v})
	}
	return out, api.OK
}

// modelStart is 15.2 word for word, but that what was pushed may stay with an error.
func modelStart(t api.Token, d api.Decls, r *refs.Refs, sc *scope.Scope, l api.Limits) (api.Node, int) {
	n := api.Node{Kind: api.NElem}
	if len(t.Attrs) > l.Attrs {
		return n, api.ErrLimit
	}
	if code := modelNames(t); code != api.OK {
		return n, code
	}
	values, code := modelValues(t, d, r, l)
	if code != api.OK {
		return n, code
	}
	for _, a := range values {
		prefix, local, is := runes.Split(a.Name)
		if !is {
			return n, api.ErrSyntax
		}
		x := api.Attr{Prefix: prefix, Local: local, Value: a.Value}
		if strings.HasPrefix(a.Name+":", "xmlns:") {
			x.URI = xmlnsURI
		}
		n.Attrs = append(n.Attrs, x)
	}
	if sc.Push(n.Attrs) != api.OK {
		return n, api.ErrSyntax
	}
	n.Prefix, n.Local, _ = runes.Split(t.Name)
	uri, is := sc.URI(n.Prefix)
	if !is || n.Prefix == "xmlns" {
		return n, api.ErrSyntax
	}
	n.URI = uri
	for k, a := range n.Attrs {
		if a.URI == "" && a.Prefix != "" {
			if n.Attrs[k].URI, is = sc.URI(a.Prefix); !is {
				return n, api.ErrSyntax
			}
		}
		for _, b := range n.Attrs[:k] {
			if b.URI == n.Attrs[k].URI && b.Local == a.Local {
				return n, api.ErrSyntax
			}
		}
	}
	return n, api.OK
}

// model is 15.3 word for word: what is within an element or an entity is read by a call within a call.
type model struct {
	l   api.Limits
	d   api.Decls
	r   *refs.Refs
	sc  *scope.Scope
	out api.Tree
}

// say adds a text: to the one ahead, if that is a text of the same element.
func (m *model) say(depth int, s string) {
	last := len(m.out) - 1
	if m.out[last].Kind == api.NText && m.out[last].Depth == depth {
		m.out[last].Value += s
	} else if s != "" {
		m.out = append(m.out, api.Node{Kind: api.NText, Depth: depth, Value: s})
	}
}

func (m *model) aside(depth int, t api.Token) int {
	n := api.Node{Kind: map[int]int{api.TComment: api.NComment, api.TPI: api.NPI}[t.Kind], Depth: depth, Local: t.Name, Value: t.Text}
	m.out = append(m.out, n)
	if strings.ContainsRune(t.Text, 13) {
		return api.ErrSyntax
	}
	return api.OK
}

func (m *model) refer(depth int, name string) int {
	if c, five, _ := m.r.Get(name); five {
		m.say(depth, c)
		return api.OK
	}
	s, code := m.r.Open(name, m.l.Expand)
	if code == api.ErrLimit {
		return code
	} else if code != api.OK {
		return api.ErrSyntax
	}
	rest, code := m.content(depth, s, "")
	if code == api.OK && !m.r.Close(name) || rest != "" {
		panic(name)
	}
	return code
}

func (m *model) element(depth int, t api.Token, rest string) (string, int) {
	if depth > m.l.Depth {
		return "", api.ErrLimit
	}
	n, code := modelStart(t, m.d, m.r, m.sc, m.l)
	if code != api.OK {
		return "", code
	}
	n.Depth = depth
	m.out = append(m.out, n)
	if !t.Empty {
		rest, code = m.content(depth+1, rest, t.Name)
	}
	m.sc.Pop()
	return rest, code
}

// content reads s up to the end of the element of, or, without one, to its end.
func (m *model) content(depth int, s, of string) (string, int) {
	for s != "" {
		t, end, code := token.Next(s, 0)
		if code != api.OK {
			return "", api.ErrSyntax
		}
		s = s[end:]
		switch t.Kind {
		case api.TStart:
			s, code = m.element(depth, t, s)
		case api.TRef:
			code = m.refer(depth, t.Name)
		case api.TComment, api.TPI:
			code = m.aside(depth, t)
		case api.TEnd:
			if t.Name != of {
				return "", api.ErrSyntax
			}
			return s, api.OK
		default:
			m.say(depth, t.Text)
		}
		if code != api.OK {
			return "", code
		}
	}
	if of != "" {
		return "", api.ErrSyntax
	}
	return "", api.OK
}

func (m *model) document(s string) int {
	at, code := decl.XML(s)
	if code != api.OK {
		return code
	}
	doctypes, roots := 0, 0
	for s = s[at:]; s != ""; {
		if runes.Blank(s[:1]) {
			s = s[1:]
			continue
		}
		if d, end, code := decl.Doctype(s, 0); code != api.ErrNone {
			doctypes++
			if code != api.OK || doctypes > 1 || roots > 0 {
				return api.ErrSyntax
			}
			m.d, m.r, s = d, refs.New(d), s[end:]
			continue
		}
		t, end, code := token.Next(s, 0)
		if code != api.OK {
			return api.ErrSyntax
		}
		s = s[end:]
		switch {
		case t.Kind == api.TComment, t.Kind == api.TPI:
			code = m.aside(1, t)
		case t.Kind == api.TStart && roots == 0:
			roots++
			s, code = m.element(1, t, s)
		default:
			return api.ErrSyntax
		}
		if code != api.OK {
			return code
		}
	}
	if roots == 0 {
		return api.ErrSyntax
	}
	return api.OK
}

func modelMay(l api.Limits) bool {
	return l.Bytes >= 0 && l.Bytes <= 1<<20 && l.Depth >= 1 && l.Depth <= 200 && l.Expand >= 0 && l.Expand <= 1<<20 && l.Attrs >= 0 && l.Attrs <= 100
}

func modelTree(b []byte, l api.Limits) (api.Tree, int) {
	if !modelMay(l) {
		return nil, api.ErrArg
	}
	if len(b) > l.Bytes {
		return nil, api.ErrLimit
	}
	s, code := text.Read(b)
	if code != api.OK {
		return nil, api.ErrSyntax
	}
	m := &model{l: l, r: refs.New(api.Decls{}), sc: scope.New(), out: api.Tree{{Kind: api.NDoc}}}
	if code := m.document(s); code != api.OK {
		return nil, code
	}
	return m.out, api.OK
}

func sameNodes(a, b api.Node) bool {
	return a.Kind == b.Kind && a.Depth == b.Depth && a.Prefix == b.Prefix && a.Local == b.Local && a.URI == b.URI && a.Value == b.Value && slices.Equal(a.Attrs, b.Attrs)
}

// check holds Tree and Check of s against the model.
func check(t *testing.T, s string, l api.Limits) (api.Tree, int) {
	t.Helper()
	want, wantCode := modelTree([]byte(s), l)
	got, code := Tree([]byte(s), l)
	if code != wantCode || !slices.EqualFunc(got, want, sameNodes) {
		t.Fatalf("%+v: %.500q: %.500s, %d, not %.500s, %d", l, s, show(got), code, show(want), wantCode)
	}
	if again := Check([]byte(s), l); again != code {
		t.Fatalf("%+v: Check(%.500q) = %d, not %d", l, s, again, code)
	}
	return got, code
}

// shown is a name as it is shown, with its URI, if it has one.
func shown(prefix, local, uri string) string {
	if prefix != "" {
		local = prefix + ":" + local
	}
	switch uri {
	case "":
		return local
	case xmlURI:
		uri = "XML"
	case xmlnsURI:
		uri = "XMLNS"
	}
	return local + "{" + uri + "}"
}

func showNode(n api.Node) string {
	out := strconv.Itoa(n.Depth)
	switch n.Kind {
	case api.NDoc:
		out += "doc"
	case api.NElem:
		out += "<" + shown(n.Prefix, n.Local, n.URI)
	case api.NText:
		out += strconv.Quote(n.Value)
	case api.NComment:
		out += "!" + strconv.Quote(n.Value)
	case api.NPI:
		out += "?" + n.Local + strconv.Quote(n.Value)
	default:
		out += "kind " + strconv.Itoa(n.Kind)
	}
	for _, a := range n.Attrs {
		out += " " + shown(a.Prefix, a.Local, a.URI) + "=" + strconv.Quote(a.Value)
	}
	return out
}

// show is tree as a text: its nodes behind the document.
func show(tree api.Tree) string {
	out := ""
	for k, n := range tree {
		if k > 0 || n.Kind != api.NDoc {
			out += showNode(n) + "; "
		}
	}
	return strings.TrimSuffix(out, "; ")
}

package value

import (
	"strings"

	"bracken/api"
	"bracken/refs"
	"bracken/runes"
	"bracken/token"
)

// text is one that was begun: rest is what is not read of it yet. The raw one, which is no entity's, has no name.
type text struct{ name, rest string }

// reader reads a value: out is what it has come to.
type reader struct {
	refs *refs.Refs
	most int
	// A list, and no calls within calls: entities may hold one another deeper than calls can go.
	texts []text // those that are not at their ends yet, each within the one ahead
	out   strings.Builder
}

// read gives what raw stands for.
func (v *reader) read(raw string) (string, int) {
	v.texts = []text{{rest: raw}}
	for len(v.texts) > 0 {
		if code := v.step(); code != api.OK {
			return "", code
		}
	}
	return v.out.String(), api.OK
}

// step reads the innermost text up to its next reference, and that one; or up to its end, and ends it.
func (v *reader) step() int {
	in := &v.texts[len(v.texts)-1]
	done := 0
	for at, c := range in.rest {
		switch {
		case c == '&':
			// Whole pieces are taken over, so that bytes that are no UTF-8 stay as they are.
			v.out.WriteString(in.rest[done:at])
			in.rest = in.rest[at:]
			return v.reference(in)
		case c == '<' && in.name != "":
			return api.ErrSyntax
		case runes.Space(c):
			v.out.WriteString(in.rest[done:at])
			v.out.WriteByte(' ')
			done = at + 1
		}
	}
	v.out.WriteString(in.rest[done:])
	v.end(in.name)
	return api.OK
}

// reference takes the reference at which the innermost text stands.
func (v *reader) reference(in *text) int {
	t, end, code := token.Next(in.rest, 0)
	if code != api.OK {
		return api.ErrSyntax
	}
	in.rest = in.rest[end:]
	if t.Kind == api.TChar {
		v.out.WriteString(t.Text)
		return api.OK
	}
	if c, five, _ := v.refs.Get(t.Name); five {
		v.out.WriteString(c)
		return api.OK
	}
	return v.begin(t.Name)
}

// begin begins the text of the entity of that name, within all that were begun.
func (v *reader) begin(name string) int {
	s, code := v.refs.Open(name, v.most)
	switch code {
	case api.OK:
		v.texts = append(v.texts, text{name, s})
		return api.OK
	case api.ErrLimit:
		return api.ErrLimit
	}
	return api.ErrSyntax
}

// end ends the innermost text, which has that name.
func (v *reader) end(name string) {
	if name != "" {
		v.refs.Close(name)
	}
	v.texts = v.texts[:len(v.texts)-1]
}

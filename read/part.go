package read

import (
	"bracken/api"
	"bracken/token"
)

// part is what has begun and not ended: an element, or an entity's text. Each knows what r does at its end.
type part interface{ end(r *reader) }

// element is one of which the end has not come.
type element struct{ name string }

// source is a text that is read: the document's, which has no name, or an entity's.
type source struct {
	name, text string
	at         int
	outer      *source // that in which the reference to it stands
}

func (e element) end(r *reader) {
	r.flush()
	r.scope.Pop()
	r.elements--
}

func (s *source) end(r *reader) {
	r.refs.Close(s.name)
	r.from = s.outer
}

// ended tells whether all of it is read.
func (s *source) ended() bool {
	return s.at == len(s.text)
}

// next takes the next token.
func (s *source) next() (api.Token, bool) {
	t, end, code := token.Next(s.text, s.at)
	s.at = end
	return t, code == api.OK
}

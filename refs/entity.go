package refs

import (
	"strings"

	"bracken/api"
)

// entity is what a declared name stands for: each tells its text, if that is known.
type entity interface{ get() (string, int) }

// inner is an entity whose text is known.
type inner struct {
	name, text string
	open       bool
}

// outer is an entity whose text stands elsewhere: nothing is ever fetched.
type outer struct{}

func (e *inner) get() (string, int) {
	// A copy, as what is answered is the caller's own.
	return strings.Clone(e.text), api.OK
}

func (e outer) get() (string, int) {
	return "", api.ErrKind
}

// given gives the character that name stands for without being declared, if it is one of the five that do.
func given(name string) (string, bool) {
	switch name {
	case "lt":
		return "<", true
	case "gt":
		return ">", true
	case "amp":
		return "&", true
	case "apos":
		return "'", true
	case "quot":
		return "\"", true
	}
	return "", false
}

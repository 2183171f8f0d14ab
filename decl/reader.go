package decl

import (
	"strings"
	"unicode/utf8"

	"bracken/runes"
)

// reader goes over s from the left: what stands ahead of at is taken.
type reader struct {
	s  string
	at int
}

// settings takes what an XML declaration says, from its version on, and its end.
func (r *reader) settings() bool {
	if !r.setting("version", version) {
		return false
	}
	r.perhaps(func() bool { return r.space() && r.setting("encoding", encoding) })
	r.perhaps(func() bool { return r.space() && r.setting("standalone", standalone) })
	r.space()
	return r.take("?>")
}

// setting takes name, and what it is set to, if that is so.
func (r *reader) setting(name string, so func(string) bool) bool {
	if !r.take(name) || !r.equals() {
		return false
	}
	value, is := r.literal()
	return is && so(value)
}

func (r *reader) equals() bool {
	r.space()
	is := r.take("=")
	r.space()
	return is
}

func version(s string) bool {
	digits, is := strings.CutPrefix(s, "1.")
	for _, c := range digits {
		is = is && '0' <= c && c <= '9'
	}
	return is && digits != ""
}

func encoding(s string) bool {
	return strings.EqualFold(s, "utf-8")
}

func standalone(s string) bool {
	return s == "yes" || s == "no"
}

// external takes where a text stands that stands elsewhere.
func (r *reader) external() bool {
	switch {
	case r.take("SYSTEM"):
		return r.spacedLiteral()
	case r.take("PUBLIC"):
		return r.spacedLiteral() && r.spacedLiteral()
	}
	return false
}

func (r *reader) spacedLiteral() bool {
	spaced := r.space()
	_, is := r.literal()
	return spaced && is
}

// list takes the words that an attribute may be.
func (r *reader) list() bool {
	for stands := r.take("("); stands; stands = r.take("|") {
		r.space()
		if !r.word() {
			return false
		}
		r.space()
		if r.take(")") {
			return true
		}
	}
	return false
}

func (r *reader) word() bool {
	s := r.parts()
	// A range gives 0xFFFD, a Part, in place of bytes that are no UTF-8.
	return s != "" && utf8.ValidString(s)
}

// spacedName takes a space and a name that is so, as long as Parts go on.
func (r *reader) spacedName(so func(string) bool) (string, bool) {
	spaced := r.space()
	name := r.parts()
	// A clone, since what is answered shares no memory with what was handed in.
	return strings.Clone(name), spaced && so(name)
}

// qualified tells whether s is a name with a prefix or without one.
func qualified(s string) bool {
	_, _, is := runes.Split(s)
	return is
}

func (r *reader) literal() (string, bool) {
	s, end, is := Literal(r.s, r.at)
	r.at = end
	return s, is
}

// ignored takes all up to the next > that stands in no Literal, and that one.
func (r *reader) ignored() bool {
	if !r.space() {
		return false
	}
	for {
		r.while(func(c rune) bool { return !strings.ContainsRune(`<>"'`, c) })
		if r.take(">") {
			return true
		}
		if _, is := r.literal(); !is {
			return false
		}
	}
}

// perhaps takes what part takes, or, if that fails, nothing, and tells which.
func (r *reader) perhaps(part func() bool) bool {
	ahead := r.at
	is := part()
	if !is {
		r.at = ahead
	}
	return is
}

// space takes the Spaces that stand next, and tells whether there are any.
func (r *reader) space() bool {
	return r.while(runes.Space) != ""
}

func (r *reader) parts() string {
	return r.while(runes.Part)
}

// while takes the characters that stand next and are so, up to the first that is not.
func (r *reader) while(so func(rune) bool) string {
	taken := r.s[r.at:]
	for k, c := range taken {
		if !so(c) {
			taken = taken[:k]
			break
		}
	}
	r.at += len(taken)
	return taken
}

// take takes mark, if it stands next.
func (r *reader) take(mark string) bool {
	is := strings.HasPrefix(r.s[r.at:], mark)
	if is {
		r.at += len(mark)
	}
	return is
}

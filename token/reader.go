package token

import (
	"strings"

	"bracken/api"
	"bracken/runes"
)

// reader goes over a text from the left: rest is what it has not taken yet.
type reader struct{ rest string }

// token takes the token that stands at the beginning.
func (r *reader) token() (api.Token, bool) {
	switch {
	case r.take("<!--"):
		return r.comment()
	case r.take("<![CDATA["):
		return r.cdata()
	case r.take("<?"):
		return r.pi()
	case r.take("</"):
		return r.end()
	case r.take("<"):
		return r.start()
	case r.take("&#"):
		return r.char()
	case r.take("&"):
		return r.ref()
	}
	return r.text()
}

func (r *reader) comment() (api.Token, bool) {
	body, ends := r.upTo("--")
	return api.Token{Kind: api.TComment, Text: body}, ends && r.take(">")
}

func (r *reader) cdata() (api.Token, bool) {
	body, ends := r.upTo("]]>")
	return api.Token{Kind: api.TCData, Text: body}, ends
}

func (r *reader) pi() (api.Token, bool) {
	t := api.Token{Kind: api.TPI, Name: r.while(runes.Part)}
	if !Target(t.Name) {
		return t, false
	}
	if r.take("?>") {
		return t, true
	}
	spaced := r.space()
	body, ends := r.upTo("?>")
	t.Text = body
	return t, spaced && ends
}

func (r *reader) end() (api.Token, bool) {
	name, is := r.name()
	r.space()
	return api.Token{Kind: api.TEnd, Name: name}, is && r.take(">")
}

func (r *reader) start() (api.Token, bool) {
	name, is := r.name()
	t := api.Token{Kind: api.TStart, Name: name}
	for is {
		spaced := r.space()
		if t.Empty = r.take("/>"); t.Empty || r.take(">") {
			return t, true
		}
		a, stands := r.attr()
		t.Attrs = append(t.Attrs, a)
		is = spaced && stands
	}
	return t, false
}

func (r *reader) attr() (api.Raw, bool) {
	name, is := r.name()
	r.space()
	if !is || !r.take("=") {
		return api.Raw{}, false
	}
	r.space()
	value, is := r.value()
	return api.Raw{Name: name, Value: value}, is
}

// value takes an attribute's value, with its quotes, and gives what is between these.
func (r *reader) value() (string, bool) {
	for _, quote := range `"'` {
		if r.take(string(quote)) {
			value := r.while(func(c rune) bool { return c != quote && c != '<' })
			return value, r.take(string(quote))
		}
	}
	return "", false
}

func (r *reader) char() (api.Token, bool) {
	number, ends := r.upTo(";")
	c, is := numbered(number)
	return api.Token{Kind: api.TChar, Text: string(c)}, ends && is
}

func (r *reader) ref() (api.Token, bool) {
	name := r.while(runes.Part)
	return api.Token{Kind: api.TRef, Name: name}, runes.NCName(name) && r.take(";")
}

// text takes one byte at least: it is asked only where something stands, and that is neither a < nor a &.
func (r *reader) text() (api.Token, bool) {
	body := r.while(func(c rune) bool { return c != '<' && c != '&' })
	return api.Token{Kind: api.TText, Text: body}, !strings.Contains(body, "]]>")
}

// name takes a Name, as long as Parts go on. (A range gives 0xFFFD, a Part, in place of bytes that are no UTF-8, so these go on, too: what holds them is no Name, nor may they stand right behind one.)
func (r *reader) name() (string, bool) {
	s := r.while(runes.Part)
	return s, runes.Name(s)
}

// space takes the Spaces at the beginning, and tells whether there are any.
func (r *reader) space() bool {
	return r.while(runes.Space) != ""
}

// while takes the characters at the beginning that are so, up to the first that is not.
func (r *reader) while(so func(rune) bool) string {
	taken := r.rest
	for at, c := range r.rest {
		if !so(c) {
			taken = r.rest[:at]
			break
		}
	}
	r.rest = r.rest[len(taken):]
	return taken
}

// take takes mark, if it stands at the beginning.
func (r *reader) take(mark string) bool {
	rest, is := strings.CutPrefix(r.rest, mark)
	r.rest = rest
	return is
}

// upTo takes all up to the next mark, and that one, and gives what is ahead of it.
func (r *reader) upTo(mark string) (string, bool) {
	body, rest, is := strings.Cut(r.rest, mark)
	r.rest = rest
	return body, is
}

// Package runes is characters and names: see DOC.md, chapter 1.
package runes

import (
	"strings"
	"unicode/utf8"
)

// Char tells whether a text may hold r.
func Char(r rune) bool {
	switch {
	case r == 9, r == 10, r == 13:
		return true
	case within(r, 0x20, 0xD7FF), within(r, 0xE000, 0xFFFD), within(r, 0x10000, 0x10FFFF):
		return true
	}
	return false
}

// Space tells whether r is white space.
func Space(r rune) bool {
	return r == 0x20 || r == 9 || r == 13 || r == 10
}

// Start tells whether a name may begin with r.
func Start(r rune) bool {
	switch {
	case within(r, 'A', 'Z'), within(r, 'a', 'z'), r == '_', r == ':':
		return true
	case within(r, 0xC0, 0xD6), within(r, 0xD8, 0xF6), within(r, 0xF8, 0x2FF):
		return true
	case within(r, 0x370, 0x37D), within(r, 0x37F, 0x1FFF):
		return true
	case r == 0x200C, r == 0x200D, within(r, 0x2070, 0x218F):
		return true
	case within(r, 0x2C00, 0x2FEF), within(r, 0x3001, 0xD7FF):
		return true
	case within(r, 0xF900, 0xFDCF), within(r, 0xFDF0, 0xFFFD), within(r, 0x10000, 0xEFFFF):
		return true
	}
	return false
}

// Part tells whether a name may go on with r.
func Part(r rune) bool {
	switch {
	case Start(r), r == '-', r == '.', within(r, '0', '9'):
		return true
	case r == 0xB7, within(r, 0x300, 0x36F), r == 0x203F, r == 0x2040:
		return true
	}
	return false
}

// Name tells whether s is a Start and Parts behind it.
func Name(s string) bool {
	// A range gives 0xFFFD in place of bytes that are no UTF-8, and that one is a Start.
	if s == "" || !utf8.ValidString(s) {
		return false
	}
	for at, r := range s {
		if at == 0 && !Start(r) || !Part(r) {
			return false
		}
	}
	return true
}

// NCName tells whether s is a Name without a colon.
func NCName(s string) bool {
	return Name(s) && !strings.Contains(s, ":")
}

// Split gives prefix and local of a qualified name.
func Split(s string) (string, string, bool) {
	if NCName(s) {
		return "", strings.Clone(s), true
	}
	prefix, local, found := strings.Cut(s, ":")
	if !found || !NCName(prefix) || !NCName(local) {
		return "", "", false
	}
	// Clones, since what is answered shares no memory with what was handed in.
	return strings.Clone(prefix), strings.Clone(local), true
}

// Blank tells whether s holds Spaces alone.
func Blank(s string) bool {
	for _, r := range s {
		if !Space(r) {
			return false
		}
	}
	return true
}

func within(r, first, last rune) bool {
	return first <= r && r <= last
}

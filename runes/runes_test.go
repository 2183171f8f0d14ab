package runes

import (
	"math"
	"strings"
	"testing"
)

// span is a range of characters, its ends within.
type span struct{ first, last rune }

// The ranges of promise 1.1, written out a second time, apart from the program.
var (
	charSpans  = []span{{9, 10}, {13, 13}, {0x20, 0xD7FF}, {0xE000, 0xFFFD}, {0x10000, 0x10FFFF}}
	spaceSpans = []span{{9, 10}, {13, 13}, {0x20, 0x20}}
	startSpans = []span{
		{':', ':'}, {'A', 'Z'}, {'_', '_'}, {'a', 'z'},
		{0xC0, 0xD6}, {0xD8, 0xF6}, {0xF8, 0x2FF}, {0x370, 0x37D}, {0x37F, 0x1FFF},
		{0x200C, 0x200D}, {0x2070, 0x218F}, {0x2C00, 0x2FEF}, {0x3001, 0xD7FF},
		{0xF900, 0xFDCF}, {0xFDF0, 0xFFFD}, {0x10000, 0xEFFFF},
	}
	partSpans = []span{
		{'-', '.'}, {'0', ':'}, {'A', 'Z'}, {'_', '_'}, {'a', 'z'}, {0xB7, 0xB7},
		{0xC0, 0xD6}, {0xD8, 0xF6}, {0xF8, 0x37D}, {0x37F, 0x1FFF},
		{0x200C, 0x200D}, {0x203F, 0x2040}, {0x2070, 0x218F}, {0x2C00, 0x2FEF}, {0x3001, 0xD7FF},
		{0xF900, 0xFDCF}, {0xFDF0, 0xFFFD}, {0x10000, 0xEFFFF},
	}
)

func inSpans(l []span, r rune) bool {
	for _, s := range l {
		if s.first <= r && r <= s.last {
			return true
		}
	}
	return false
}

type kind struct {
	name  string
	is    func(rune) bool
	spans []span
}

func kinds() []kind {
	return []kind{{"Char", Char, charSpans}, {"Space", Space, spaceSpans}, {"Start", Start, startSpans}, {"Part", Part, partSpans}}
}

// Promise 1.1: of each range the first, the last, and one beyond on either side.
// (No two spans of one list touch, so that the one beyond is always outside.)
func TestEdgesOfRanges(t *testing.T) {
	for _, k := range kinds() {
		for _, s := range k.spans {
			if !k.is(s.first) || !k.is(s.last) {
				t.Errorf("%s: an end of %#x to %#x is refused", k.name, s.first, s.last)
			}
			if k.is(s.first-1) || k.is(s.last+1) {
				t.Errorf("%s: one beyond %#x to %#x is taken", k.name, s.first, s.last)
			}
		}
	}
}

// Promise 1.1: every number near the characters.
func TestEveryRune(t *testing.T) {
	for _, k := range kinds() {
		for r := rune(-0x100); r <= 0x110100; r++ {
			if want := inSpans(k.spans, r); k.is(r) != want {
				t.Fatalf("%s(%#x) = %v", k.name, r, !want)
			}
		}
	}
}

// Promise 1.1: numbers that are no characters, also those that would be some if they were cut to fewer bits.
func TestNoCharacters(t *testing.T) {
	wrong := []rune{
		-1, -'a', math.MinInt32, math.MinInt32 + 0x20, math.MinInt32 + 'a', math.MaxInt32,
		0, 0xD800, 0xDBFF, 0xDC00, 0xDFFF, 0xFFFE, 0xFFFF, 0x110000, 0x200020, 0x1000061,
	}
	for _, k := range kinds() {
		for _, r := range wrong {
			if k.is(r) {
				t.Errorf("%s(%#x) = true", k.name, r)
			}
		}
	}
}

// Promise 1.2: ordinary names, and texts that are none.
func TestNames(t *testing.T) {
	for _, x := range []struct {
		s            string
		name, ncname bool
	}{
		{"a", true, true},
		{"Z9", true, true},
		{"_", true, true},
		{"a-b.c_d", true, true},
		{"xml", true, true},
		{"été", true, true},
		{"名前", true, true},
		{"\U00010000\U000EFFFF", true, true},
		{"a\uFFFD", true, true},
		{"\uFFFDa", true, true},
		{"a:b", true, false},
		{":", true, false},
		{":a", true, false},
		{"a:", true, false},
		{"a:b:c", true, false},
		{"::", true, false},
		{"", false, false},
		{"1", false, false},
		{"1a", false, false},
		{"-a", false, false},
		{".a", false, false},
		{"\u00B7a", false, false},
		{"\u0300", false, false},
		{" a", false, false},
		{"a ", false, false},
		{"a b", false, false},
		{"a\n", false, false},
		{"a/", false, false},
		{"a<", false, false},
		{"a\x00", false, false},
		{"a\u00D7b", false, false},
		{"a\u037E", false, false},
		{"a\U000F0000", false, false},
	} {
		if Name(x.s) != x.name {
			t.Errorf("Name(%q) = %v", x.s, !x.name)
		}
		if NCName(x.s) != x.ncname {
			t.Errorf("NCName(%q) = %v", x.s, !x.ncname)
		}
	}
}

// Promise 1.2: each end of a range of Start and of Part, as a name's first character and as a later one.
func TestNamesOfEdges(t *testing.T) {
	for _, l := range [][]span{startSpans, partSpans} {
		for _, s := range l {
			for _, r := range []rune{s.first - 1, s.first, s.last, s.last + 1} {
				// string(r) makes 0xFFFD, a Start, of a number that is no character.
				if !inSpans(charSpans, r) {
					continue
				}
				first, later := string(r), "ab"+string(r)+"c"
				if Name(first) != inSpans(startSpans, r) {
					t.Errorf("Name(%q) = %v", first, Name(first))
				}
				if Name(later) != inSpans(partSpans, r) {
					t.Errorf("Name(%q) = %v", later, Name(later))
				}
				if NCName(later) != (r != ':' && inSpans(partSpans, r)) {
					t.Errorf("NCName(%q) = %v", later, NCName(later))
				}
			}
		}
	}
}

// badBytes are no UTF-8: stray, cut short, overlong, surrogates, above the last character.
func badBytes() []string {
	return []string{
		"\x80", "\xBF", "\xC3", "\xE2\x82", "\xF0\x90\x80", "\xFF", "\xFE",
		"\xC0\x80", "\xC1\xA1", "\xE0\x81\xA1", "\xF0\x80\x81\xA1",
		"\xED\xA0\x80", "\xED\xBF\xBF", "\xF4\x90\x80\x80", "\xF8\x88\x80\x80\x80",
	}
}

// Promise 1.2: bytes that are no UTF-8 make no name, wherever they stand.
func TestNoUTF8(t *testing.T) {
	for _, bad := range badBytes() {
		for _, s := range []string{bad, "a" + bad, bad + "a", "a" + bad + "b", "\uFFFD" + bad, "a:" + bad, bad + ":a"} {
			if Name(s) || NCName(s) {
				t.Errorf("%q is taken for a name", s)
			}
			if p, l, is := Split(s); is || p != "" || l != "" {
				t.Errorf("Split(%q) = %q, %q, %v", s, p, l, is)
			}
			if Blank(s) {
				t.Errorf("Blank(%q) = true", s)
			}
		}
		if Blank(" " + bad + " ") {
			t.Errorf("Blank of blanks around %q = true", bad)
		}
	}
}

// Promise 1.2: qualified names, and texts that are none.
func TestSplit(t *testing.T) {
	for _, x := range []struct {
		s, prefix, local string
		is               bool
	}{
		{"a", "", "a", true},
		{"a:b", "a", "b", true},
		{"a-1:b.2", "a-1", "b.2", true},
		{"xmlns", "", "xmlns", true},
		{"xmlns:a", "xmlns", "a", true},
		{"é:名", "é", "名", true},
		{"\uFFFD:\uFFFD", "\uFFFD", "\uFFFD", true},
		{"_:_", "_", "_", true},
		{"", "", "", false},
		{":", "", "", false},
		{"::", "", "", false},
		{":a", "", "", false},
		{"a:", "", "", false},
		{"a::b", "", "", false},
		{"a:b:c", "", "", false},
		{"a:b:", "", "", false},
		{":a:b", "", "", false},
		{"1:a", "", "", false},
		{"a:1", "", "", false},
		{"a:-", "", "", false},
		{"a: b", "", "", false},
		{"a :b", "", "", false},
		{"1", "", "", false},
		{" a", "", "", false},
	} {
		if p, l, is := Split(x.s); p != x.prefix || l != x.local || is != x.is {
			t.Errorf("Split(%q) = %q, %q, %v", x.s, p, l, is)
		}
	}
}

// Promise 1.2: Blank is of Spaces alone.
func TestBlank(t *testing.T) {
	for _, s := range []string{"", " ", "\t", "\n", "\r", " \t\r\n\n  ", strings.Repeat(" ", 1000)} {
		if !Blank(s) {
			t.Errorf("Blank(%q) = false", s)
		}
	}
	for _, s := range []string{"a", " a", "a ", " a ", "\v", "\f", "\x00", "\x85", "\u0085", "\u00A0", " \u2003", "\u3000", "\uFEFF", "\uFFFD"} {
		if Blank(s) {
			t.Errorf("Blank(%q) = true", s)
		}
	}
}

// Promise 1.3: names of the fifth edition, where the editions ahead of it are of another opinion.
func TestFifthEdition(t *testing.T) {
	onlyFifth := []string{
		"\u0660",  // an Arabic digit: ahead of the fifth a name could not begin with it
		"\u0903a", // signs that combine, likewise
		"\u20D0a",
		"\u0220",         // letters that Unicode 2.0 had not
		"\u1200\u1780",   // Ethiopic, Khmer
		"\u13A0",         // Cherokee
		"\u2070",         // a superscript
		"\u3400",         // an ideograph of extension A
		"\uA000",         // Yi
		"\uFF21",         // a full-width letter
		"\U00010000",     // behind the first 65,536
		"a\u200C\u200Db", // joiners
		"a\u203F\u2040",  // ties
	}
	for _, s := range onlyFifth {
		if !Name(s) {
			t.Errorf("Name(%q) = false", s)
		}
	}
	for _, s := range []string{"a\u3000", "\u00B7", "\u0300a", "a\u2028", "\uE000", "a\U000F0000"} {
		if Name(s) {
			t.Errorf("Name(%q) = true", s)
		}
	}
}

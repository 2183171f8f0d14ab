package text

import (
	"bytes"
	"strings"
	"testing"
	"unsafe"

	"bracken/api"
)

// Promise 2.1, Valid: ordinary texts, the edges of Char, and bytes that are no UTF-8.
func TestValid(t *testing.T) {
	for _, s := range []string{
		"", "a", "a<b>", "\t\n\r ", "\x20", "\x7F", "\u0080", "\u07FF", "\u0800", "\uD7FF", "\uE000",
		"\uFEFF", "\uFFFD", "\U00010000", "\U0010FFFF", "é€😀",
	} {
		if !Valid([]byte(s)) {
			t.Errorf("Valid(%q) is false", s)
		}
	}
	if !Valid(nil) {
		t.Error("Valid of nil is false")
	}
	for _, s := range []string{
		"\x00", "\x08", "\x0B", "\x0C", "\x0E", "\x1F", "\uFFFE", "\uFFFF", // no Chars
		"\x80", "\xBF", "\xC2", "\xE2\x82", "\xF0\x9F\x98", "\xFE", "\xFF", // broken off, or of no character
		"\xC0\x80", "\xC1\xBF", "\xE0\x80\x80", "\xE0\x9F\xBF", "\xF0\x80\x80\x80", "\xF0\x8F\xBF\xBF", // overlong
		"\xED\xA0\x80", "\xED\xBF\xBF", "\xED\xA0\xBD\xED\xB8\x80", // surrogates
		"\xF4\x90\x80\x80", "\xF5\x80\x80\x80", "\xF8\x88\x80\x80\x80", // above 0x10FFFF
	} {
		for _, whole := range []string{s, "ab" + s, s + "cd", "é" + s + "é"} {
			if Valid([]byte(whole)) {
				t.Errorf("Valid(%q) is true", whole)
			}
		}
	}
}

// Promise 2.1, Valid: of all rows of one, two and three bytes just as many are taken
// as there are rows of Chars of that length.
func TestValidCounted(t *testing.T) {
	ones := 3 + 0x80 - 0x20
	twos := 0x800 - 0x80
	threes := 0xD800 - 0x800 + 0xFFFE - 0xE000
	want := []int{1, ones, ones*ones + twos, ones*ones*ones + 2*ones*twos + threes}
	for n := range want {
		if got := countValid(make([]byte, n), 0); got != want[n] {
			t.Errorf("%d rows of %d bytes are taken, not %d", got, n, want[n])
		}
	}
}

// countValid counts the valid rows that begin with the first at bytes of b.
func countValid(b []byte, at int) int {
	if at == len(b) {
		if Valid(b) {
			return 1
		}
		return 0
	}
	n := 0
	for x := range 256 {
		b[at] = byte(x)
		n += countValid(b, at+1)
	}
	return n
}

// Promise 2.1, Valid: four bytes are taken from 0x10000 to 0x10FFFF alone.
func TestValidOfFour(t *testing.T) {
	edges := []byte{0x00, 0x7F, 0x80, 0xBF, 0xC0, 0xFF}
	for first := 0xF0; first <= 0xFF; first++ {
		for second := range 256 {
			inner := second >= 0x80 && second <= 0xBF
			high := (first-0xF0)<<6 | second&0x3F // the number without its last twelve bits
			for _, third := range edges {
				for _, fourth := range edges {
					ends := third&0xC0 == 0x80 && fourth&0xC0 == 0x80
					want := inner && ends && high >= 0x10 && high <= 0x10F
					b := []byte{byte(first), byte(second), third, fourth}
					if Valid(b) != want {
						t.Errorf("Valid(% X) is %v", b, !want)
					}
				}
			}
		}
	}
}

// Promise 2.1, Ends: a 13 with a 10 behind it, each other 13, and all else as it is.
func TestEnds(t *testing.T) {
	for _, c := range []struct{ s, want string }{
		{"", ""},
		{"ab", "ab"},
		{"a\nb", "a\nb"},
		{"a\rb", "a\nb"},
		{"a\r\nb", "a\nb"},
		{"\r", "\n"},
		{"\r\n", "\n"},
		{"\n\r", "\n\n"},
		{"\r\n\r", "\n\n"},
		{"\r\r", "\n\n"},
		{"\r\r\n", "\n\n"},
		{"\r\n\n", "\n\n"},
		{"\r\n\r\n", "\n\n"},
		{"é\r\n€\r😀", "é\n€\n😀"},
		{"\u0085\u2028\t ", "\u0085\u2028\t "},
		{"\r\u0085\r\u2028", "\n\u0085\n\u2028"},
		{"a&#13;\r", "a&#13;\n"},
		{"\xFF\r\xC3\r\n\xED\xA0\x80\x00", "\xFF\n\xC3\n\xED\xA0\x80\x00"},
		{"\uFFFD\xFF\r", "\uFFFD\xFF\n"},
	} {
		if got := Ends(c.s); got != c.want {
			t.Errorf("Ends(%q) = %q, not %q", c.s, got, c.want)
		}
	}
}

// rows calls do with all texts of at most n of the letters.
func rows(letters string, n int, do func(string)) {
	var more func(string)
	more = func(s string) {
		do(s)
		if len(s) < n {
			for at := range len(letters) {
				more(s + letters[at:at+1])
			}
		}
	}
	more("")
}

// Promise 2.1, Ends and Lines, of all short texts; 2.2: no 13 is left, and once more changes nothing.
func TestEndsOfAllShort(t *testing.T) {
	rows("\r\na\xFF", 7, func(s string) {
		want := strings.ReplaceAll(strings.ReplaceAll(s, "\r\n", "\n"), "\r", "\n")
		got := Ends(s)
		if got != want || strings.Contains(got, "\r") || Ends(got) != got {
			t.Errorf("Ends(%q) = %q, not %q", s, got, want)
		}
		if n := strings.Count(s, "\n"); Lines(s) != n {
			t.Errorf("Lines(%q) = %d, not %d", s, Lines(s), n)
		}
	})
}

// Promise 2.1, Lines: 10s alone are counted.
func TestLines(t *testing.T) {
	for _, c := range []struct {
		s    string
		want int
	}{
		{"", 0}, {"a", 0}, {"\n", 1}, {"a\n", 1}, {"\na", 1}, {"\n\n\n", 3}, {"a\nb\r\nc\n", 3},
		{"\r", 0}, {"\r\r", 0}, {"\r\n", 1}, {"\u0085\u2028\u010A\u0A0A", 0}, {"\xFF\n\xC3\n", 2}, {"&#10;", 0},
	} {
		if got := Lines(c.s); got != c.want {
			t.Errorf("Lines(%q) = %d, not %d", c.s, got, c.want)
		}
	}
}

// Promise 2.1, Read: one mark ahead is left out, what is no text is refused, ends of lines are made one.
func TestRead(t *testing.T) {
	for _, c := range []struct {
		s, want string
		code    int
	}{
		{"", "", api.OK},
		{"<a/>", "<a/>", api.OK},
		{"\xEF\xBB\xBF", "", api.OK},
		{"\xEF\xBB\xBF<a/>", "<a/>", api.OK},
		{"\xEF\xBB\xBF\r\n", "\n", api.OK},
		{"\xEF\xBB\xBF\xEF\xBB\xBFa", "\uFEFFa", api.OK},
		{"a\xEF\xBB\xBFb", "a\uFEFFb", api.OK},
		{" \xEF\xBB\xBF", " \uFEFF", api.OK},
		{"\r\xEF\xBB\xBF\n", "\n\uFEFF\n", api.OK},
		{"a\r\nb\rc\nd\n\r", "a\nb\nc\nd\n\n", api.OK},
		{"\uFFFDé😀", "\uFFFDé😀", api.OK},
		{"\xEF", "", api.ErrSyntax},
		{"\xEF\xBB", "", api.ErrSyntax},
		{"\xEF\xBB\xBE\x80", "", api.ErrSyntax},
		{"\xEF\xBB\xBF\xEF\xBB", "", api.ErrSyntax},
		{"\xFE\xFF\x00<", "", api.ErrSyntax},
		{"\xFF\xFE<\x00", "", api.ErrSyntax},
		{"a\x00", "", api.ErrSyntax},
		{"\xEF\xBB\xBFab\x0B", "", api.ErrSyntax},
		{"ab\r\n\uFFFE", "", api.ErrSyntax},
		{"ab\xED\xA0\x80", "", api.ErrSyntax},
		{"ab\xC3", "", api.ErrSyntax},
	} {
		if got, code := Read([]byte(c.s)); got != c.want || code != c.code {
			t.Errorf("Read(%q) = %q, %d, not %q, %d", c.s, got, code, c.want, c.code)
		}
	}
	if got, code := Read(nil); got != "" || code != api.OK {
		t.Errorf("Read of nil = %q, %d", got, code)
	}
}

// Promise 2.2: what Read answers holds no 13; one that a reference tells is not read here.
func TestNoReturnIsLeft(t *testing.T) {
	rows("\r\na\xEF\xBB\xBF", 5, func(s string) {
		got, code := Read([]byte(s))
		if strings.Contains(got, "\r") || (code != api.OK && got != "") {
			t.Errorf("Read(%q) = %q, %d", s, got, code)
		}
	})
	if got, code := Read([]byte("&#13;\r&#xD;")); got != "&#13;\n&#xD;" || code != api.OK {
		t.Errorf("references to 13 are read as %q, %d", got, code)
	}
}

// Rule 2: what is handed in is not changed, and what is answered shares nothing with it.
func TestNothingIsShared(t *testing.T) {
	given := []byte("\xEF\xBB\xBFa\r\nb")
	kept := bytes.Clone(given)
	got, _ := Read(given)
	if !Valid(given) || !bytes.Equal(given, kept) {
		t.Errorf("what was handed in became %q", given)
	}
	clear(given)
	if got != "a\nb" {
		t.Errorf("the answer became %q", got)
	}
	for _, s := range []string{"ab", "a\nb", "\rab"} {
		if unsafe.StringData(Ends(s)) == unsafe.StringData(s) {
			t.Errorf("Ends(%q) shares memory with what was handed in", s)
		}
	}
}

package pool

import (
	"math"
	"slices"
	"strings"
	"testing"
	"unsafe"

	"bracken/api"
	"bracken/offs"
)

const most = 1 << 23

// letters are n bytes of all values, other ones for another seed.
func letters(n, seed int) string {
	b := make([]byte, n)
	x := uint64(n)*0x9E3779B97F4A7C15 + uint64(seed) + 1
	for k := range b {
		x ^= x << 13
		x ^= x >> 7
		x ^= x << 17
		b[k] = byte(x)
	}
	return string(b)
}

// row is n texts of a kind; the kinds are numbered from 0 to 7.
func row(n, kind int) []string {
	l := make([]string, n)
	for k := range l {
		switch kind {
		case 0: // all empty
		case 1: // one byte each
			l[k] = letters(1, k)
		case 2: // each longer than the one ahead
			l[k] = letters(k%300, k)
		case 3: // every other one empty
			l[k] = letters(k%2*9, k)
		case 4: // all the same
			l[k] = "again"
		case 5: // the last alone is not empty
			l[k] = letters((k+1)/n*1000, k)
		case 6: // the first alone is not empty
			l[k] = letters((n-k)/n*1000, k)
		case 7: // few long ones among short ones
			if l[k] = "ü€"; k%61 == 0 {
				l[k] = letters(5000, k)
			}
		}
	}
	return l
}

const kinds = 8

// each calls do with rows of all lengths and kinds.
func each(do func(l []string)) {
	for _, n := range []int{0, 1, 2, 3, 62, 63, 64, 65, 127, 128, 510, 511, 512, 513, 1100} {
		for kind := range kinds {
			do(row(n, kind))
		}
	}
}

func made(t *testing.T, l []string) *Pool {
	t.Helper()
	p, code := New(l)
	if p == nil || code != api.OK || p.Len() != len(l) {
		t.Fatalf("New of %d: %v, code %d", len(l), p != nil, code)
	}
	return p
}

// same checks that p holds l, and nothing ahead of it and behind it.
func same(t *testing.T, p *Pool, l []string) {
	t.Helper()
	for k, want := range l {
		if s, code := p.Get(k); s != want || code != api.OK {
			t.Fatalf("of %d: Get(%d) = %.20q, %d, not %.20q", len(l), k, s, code, want)
		}
	}
	none(t, p)
}

// none checks that there is nothing ahead of the first text and behind the last.
func none(t *testing.T, p *Pool) {
	t.Helper()
	n := p.Len()
	for _, k := range []int{-1, -2, -64, math.MinInt, n, n + 1, n + 2, n + 63, n + 64, 1 << 32, math.MaxInt} {
		if s, code := p.Get(k); s != "" || code != api.ErrRange {
			t.Fatalf("of %d: Get(%d) = %.20q, %d", n, k, s, code)
		}
	}
}

// sizes checks Bytes and Size.
func sizes(t *testing.T, p *Pool, l []string) {
	t.Helper()
	ends := []int{0}
	for _, s := range l {
		ends = append(ends, ends[len(ends)-1]+len(s))
	}
	if got := p.Bytes(); got != ends[len(l)] {
		t.Fatalf("of %d: Bytes %d, not %d", len(l), got, ends[len(l)])
	}
	o, _ := offs.New(ends)
	if got := p.Size(); got != o.Size() {
		t.Fatalf("of %d: Size %d, not %d", len(l), got, o.Size())
	}
}

// Promise 8.1: all texts of rows of eight kinds, none beyond them, and their sizes.
func TestEveryText(t *testing.T) {
	each(func(l []string) {
		p := made(t, l)
		same(t, p, l)
		sizes(t, p, l)
	})
}

// Promise 8.1: all rows of up to four of these texts.
func TestAllSmall(t *testing.T) {
	for _, l := range rows(4, "", "a", "b", "ab", "\x00", "\xff\xfe") {
		p := made(t, l)
		same(t, p, l)
		sizes(t, p, l)
	}
}

// rows are all of these texts that are no longer than longest.
func rows(longest int, texts ...string) [][]string {
	all := [][]string{nil}
	from := 0
	for range longest {
		end := len(all)
		for _, l := range all[from:end] {
			for _, s := range texts {
				all = append(all, append(slices.Clone(l), s))
			}
		}
		from = end
	}
	return all
}

// Promise 8.1: sizes that are told as numbers.
func TestSizes(t *testing.T) {
	for _, x := range []struct {
		l           []string
		bytes, size int
	}{
		{nil, 0, 112}, {[]string{}, 0, 112}, {[]string{""}, 0, 112}, {[]string{"a"}, 1, 112}, {[]string{"ab", ""}, 2, 112}, {[]string{"abc"}, 3, 112},
		{[]string{"abcd"}, 4, 176}, {[]string{"", "abcd"}, 4, 112}, {[]string{"ü"}, 2, 112}, {row(65, 0), 0, 192}, {row(62, 0), 0, 112}, {row(63, 0), 0, 192},
	} {
		if p := made(t, x.l); p.Bytes() != x.bytes || p.Size() != x.size {
			t.Errorf("%q: Bytes %d, Size %d, not %d, %d", x.l, p.Bytes(), p.Size(), x.bytes, x.size)
		}
	}
}

// Promise 8.1: 2^23 bytes may be, and one more is refused, however they are shared out.
func TestFull(t *testing.T) {
	for _, parts := range []int{1, 2, 3, 7, 512, 4096, 1 << 16} {
		l := make([]string, 0, parts)
		for k := range parts {
			from, end := k*most/parts, (k+1)*most/parts
			l = append(l, letters(end-from, k))
		}
		p := made(t, l)
		same(t, p, l)
		sizes(t, p, l)
		for _, k := range []int{0, parts / 2, parts} {
			refused(t, slices.Insert(slices.Clone(l), k, "y"))
			fine := slices.Insert(slices.Clone(l), k, "", "")
			same(t, made(t, fine), fine)
		}
	}
	whole := strings.Repeat("x", most)
	for _, l := range [][]string{{whole + "y"}, {"y", whole}, {whole, "y"}, {whole, "", "y"}, {whole, whole}, slices.Repeat([]string{whole}, 600), {whole + whole, ""}} {
		refused(t, l)
	}
}

func refused(t *testing.T, l []string) {
	t.Helper()
	if p, code := New(l); p != nil || code != api.ErrFull {
		t.Fatalf("New of %d: %v, code %d", len(l), p != nil, code)
	}
}

// Promise 8.1: only the bytes have a limit, not how many texts there are.
func TestMany(t *testing.T) {
	for _, n := range []int{1 << 20, 1<<22 - 2, 1<<22 - 1, 1 << 22, 1<<23 + 1} {
		for _, end := range []int{0, 1, 1000} {
			l := make([]string, n)
			l[n/2], l[n-1] = letters(end/2, 0), letters(end-end/2, 1)
			p := made(t, l)
			for _, k := range []int{0, 1, n/2 - 1, n / 2, n/2 + 1, n - 2, n - 1} {
				if s, code := p.Get(k); s != l[k] || code != api.OK {
					t.Fatalf("of %d: Get(%d) = %.20q, %d", n, k, s, code)
				}
			}
			none(t, p)
			sizes(t, p, l)
		}
	}
}

// Promise 8.1, of nil.
func TestOfNil(t *testing.T) {
	var p *Pool
	if p.Len() != 0 || p.Bytes() != 0 || p.Size() != 0 {
		t.Errorf("Len %d, Bytes %d, Size %d", p.Len(), p.Bytes(), p.Size())
	}
	none(t, p)
}

// Promise 8.1, of nothing: of one that was made of it, and of one that nobody made.
func TestOfNothing(t *testing.T) {
	for i, p := range []*Pool{made(t, nil), made(t, []string{}), {}} {
		for range 2 {
			if p.Len() != 0 || p.Bytes() != 0 || p.Size() != 112 {
				t.Errorf("%d: Len %d, Bytes %d, Size %d", i, p.Len(), p.Bytes(), p.Size())
			}
		}
		none(t, p)
	}
}

// Promise 8.2: one text is kept of all, each right behind the one ahead, and beside it nothing but where they begin and where the last ends.
func TestOneText(t *testing.T) {
	each(func(l []string) {
		p := made(t, l)
		text, at := p.parts[textPart].(joined), p.parts[placePart].(places)
		if string(text) != strings.Join(l, "") || at.row.Len() != len(l)+1 || len(p.parts) != 2 {
			t.Fatalf("of %d: %d bytes, %d places, %d parts", len(l), len(text), at.row.Len(), len(p.parts))
		}
	})
}

// Rules 2 and 3 of DOC.md: what is handed in is neither changed nor kept, not even the bytes of a text.
func TestNothingKept(t *testing.T) {
	each(func(l []string) {
		given, bytes := make([]string, len(l)), make([][]byte, len(l))
		for k, s := range l {
			bytes[k] = []byte(s)
			given[k] = unsafe.String(unsafe.SliceData(bytes[k]), len(s))
		}
		p := made(t, given)
		if !slices.Equal(given, l) {
			t.Fatalf("of %d: New changed what it was given", len(l))
		}
		for k := range given {
			for i := range bytes[k] {
				bytes[k][i] ^= 0x55
			}
			given[k] = "other"
		}
		for range 2 {
			same(t, p, l)
			sizes(t, p, l)
		}
	})
}

// Rule 2 of DOC.md: what is answered is the caller's own, so that whatever befalls its bytes, nothing else is changed.
func TestAnswersShareNothing(t *testing.T) {
	l := []string{"first", "", "second", "third"}
	p := made(t, l)
	for k := range l {
		s, _ := p.Get(k)
		b := unsafe.Slice(unsafe.StringData(s), len(s))
		for i := range b {
			b[i] = '#'
		}
		same(t, p, l)
	}
}

// The document's example.
func TestExample(t *testing.T) {
	if got := made(t, []string{"ab", ""}).Bytes(); got != 2 {
		t.Errorf("Bytes of ab and nothing: %d", got)
	}
}

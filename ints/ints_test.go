package ints

import (
	"math"
	"slices"
	"testing"

	"bracken/api"
)

// top is the greatest number of that width.
func top(width int) uint64 {
	return math.MaxUint64 >> (64 - width)
}

// row is n numbers of a kind, at most top(width); the kinds are numbered from 0 to 6. From kind 3 on, one has that width indeed, if there is one at all.
func row(n, width, kind int) []uint64 {
	l := make([]uint64, n)
	x := uint64(n)*0x9E3779B97F4A7C15 + uint64(64*kind+width) + 1
	for k := range l {
		x ^= x << 13
		x ^= x >> 7
		x ^= x << 17
		switch kind {
		case 0: // noughts
		case 1: // ones, if that is wide enough
			l[k] = min(1, top(width))
		case 2: // ordinary ones
			l[k] = x & top(width)
		case 3: // all the greatest there is
			l[k] = top(width)
		case 4: // every other one the greatest
			l[k] = top(width) * uint64(1-k%2)
		case 5: // the last alone
			if k == n-1 {
				l[k] = top(width)
			}
		case 6: // the first alone, and of it the highest bit
			if k == 0 {
				l[k] = top(width) ^ top(width)>>1
			}
		}
	}
	return l
}

const (
	kinds     = 7
	firstFull = 3
)

// lengths are such as end in a word, and at its end, and behind it.
func lengths() []int {
	return []int{0, 1, 2, 3, 4, 5, 7, 8, 9, 12, 13, 15, 16, 17, 21, 22, 31, 32, 33, 63, 64, 65, 127, 128, 129, 200}
}

// each calls do with rows of all widths, kinds and lengths.
func each(do func(n, width, kind int, l []uint64)) {
	for width := range 65 {
		for kind := range kinds {
			for _, n := range lengths() {
				do(n, width, kind, row(n, width, kind))
			}
		}
	}
}

// slowWidth counts the digits of n in base 2.
func slowWidth(n uint64) int {
	digits := 0
	for ; n > 0; n /= 2 {
		digits++
	}
	return digits
}

// Promise 4.1: Width of noughts, of small numbers, of the least and the greatest of each width.
func TestWidth(t *testing.T) {
	for n := range uint64(1 << 16) {
		if got, want := Width(n), slowWidth(n); got != want {
			t.Fatalf("Width(%d) = %d, not %d", n, got, want)
		}
	}
	for width := 1; width <= 64; width++ {
		least := uint64(1) << (width - 1)
		for _, n := range []uint64{least, least | 1, least | least>>1, top(width)} {
			if got := Width(n); got != width {
				t.Errorf("Width(%d) = %d, not %d", n, got, width)
			}
		}
	}
	for n, want := range map[uint64]int{0: 0, 1: 1, 2: 2, 3: 2, 4: 3, 5: 3, math.MaxInt64: 63, 1 << 63: 64, math.MaxUint64: 64} {
		if got := Width(n); got != want {
			t.Errorf("Width(%d) = %d, not %d", n, got, want)
		}
	}
}

// Promise 4.1: all numbers come back, of rows of all widths; beyond them there is none.
func TestEveryPlace(t *testing.T) {
	each(func(n, width, kind int, l []uint64) {
		a := New(l)
		if a == nil || a.Len() != n {
			t.Fatalf("%d of width %d, kind %d: New tells %d", n, width, kind, a.Len())
		}
		for k, want := range l {
			if x, code := a.Get(k); x != want || code != api.OK {
				t.Fatalf("%d of width %d, kind %d: Get(%d) = %d, %d, not %d", n, width, kind, k, x, code, want)
			}
		}
		for _, k := range []int{n, n + 1, n + 63, n + 64, math.MaxInt, -1, -2, -64, math.MinInt} {
			if x, code := a.Get(k); x != 0 || code != api.ErrRange {
				t.Fatalf("%d of width %d, kind %d: Get(%d) = %d, %d", n, width, kind, k, x, code)
			}
		}
	})
}

// Promises 4.1 and 4.2: a row is as wide as its greatest number, and no wider, wherever that stands.
func TestNoWiderThanNeedBe(t *testing.T) {
	each(func(n, width, kind int, l []uint64) {
		want := slowWidth(slices.Max(append([]uint64{0}, l...)))
		if n > 0 && kind >= firstFull && want != width {
			t.Fatalf("%d of width %d, kind %d: this row is of width %d", n, width, kind, want)
		}
		if got := New(l).Width(); got != want {
			t.Fatalf("%d of width %d, kind %d: Width = %d, not %d", n, width, kind, got, want)
		}
	})
	for at := range 100 {
		l := make([]uint64, 100)
		l[at] = 1 << 40
		if got := New(l).Width(); got != 41 {
			t.Errorf("with the greatest at %d: Width = %d", at, got)
		}
	}
}

// Promises 4.1 and 4.2: 64 for each 64 bits begun, and no more than that is kept.
func TestSize(t *testing.T) {
	for _, c := range []struct{ n, width, want int }{
		{0, 0, 0}, {1, 0, 0}, {1000, 0, 0}, {0, 64, 0},
		{1, 1, 64}, {63, 1, 64}, {64, 1, 64}, {65, 1, 128}, {128, 1, 128}, {129, 1, 192},
		{21, 3, 64}, {22, 3, 128}, {64, 3, 192}, {65, 3, 256},
		{1, 63, 64}, {2, 63, 128}, {63, 63, 63 * 64}, {64, 63, 63 * 64}, {65, 63, 64 * 64},
		{1, 64, 64}, {2, 64, 128}, {200, 64, 12800},
	} {
		if got := New(row(c.n, c.width, firstFull)).Size(); got != c.want {
			t.Errorf("Size of %d of width %d is %d, not %d", c.n, c.width, got, c.want)
		}
	}
	each(func(n, width, kind int, l []uint64) {
		a := New(l)
		want := 0
		for want < a.Len()*a.Width() {
			want += 64
		}
		if a.Size() != want {
			t.Fatalf("%d of width %d, kind %d: Size = %d, not %d", n, width, kind, a.Size(), want)
		}
		if p, _ := a.kept.(words); 64*cap(p) != want {
			t.Fatalf("%d of width %d, kind %d: %d bits are kept, not %d", n, width, kind, 64*cap(p), want)
		}
	})
}

// Promise 4.1: many numbers, too, come back and take no more than their bits.
func TestMany(t *testing.T) {
	const n = 1 << 20
	for _, width := range []int{0, 1, 7, 20, 33, 63, 64} {
		l := row(n, width, 2)
		if width > 0 {
			l[n/2] = top(width)
		}
		a := New(l)
		if a.Len() != n || a.Width() != width || a.Size() != n*width {
			t.Fatalf("width %d: Len %d, Width %d, Size %d", width, a.Len(), a.Width(), a.Size())
		}
		for k, want := range l {
			if x, code := a.Get(k); x != want || code != api.OK {
				t.Fatalf("width %d: Get(%d) = %d, %d, not %d", width, k, x, code, want)
			}
		}
	}
}

// Promise 4.1, of nil; and of one that nobody made, and of one made of nothing, which hold no numbers.
func TestOfNil(t *testing.T) {
	for _, a := range []*Ints{nil, {}, New(nil), New([]uint64{})} {
		if a.Len() != 0 || a.Width() != 0 || a.Size() != 0 {
			t.Errorf("Len %d, Width %d, Size %d", a.Len(), a.Width(), a.Size())
		}
		for _, k := range []int{math.MinInt, -1, 0, 1, 64, math.MaxInt} {
			if x, code := a.Get(k); x != 0 || code != api.ErrRange {
				t.Errorf("Get(%d) = %d, %d", k, x, code)
			}
		}
	}
	if New(nil) == nil {
		t.Error("New of nothing answers nil")
	}
}

// Rules 2 and 3: what is handed in is not changed and not kept, and asking changes nothing.
func TestNothingIsShared(t *testing.T) {
	for _, width := range []int{1, 13, 32, 64} {
		l := row(1000, width, 4)
		given := slices.Clone(l)
		a := New(given)
		if !slices.Equal(given, l) {
			t.Errorf("width %d: New changed what was handed in", width)
		}
		for k := range given {
			given[k] = ^given[k]
		}
		for range 2 {
			for k, want := range l {
				if x, _ := a.Get(k); x != want {
					t.Fatalf("width %d: the number of %d became another", width, k)
				}
			}
			if a.Len() != 1000 || a.Width() != width {
				t.Fatalf("width %d: Len %d, Width %d", width, a.Len(), a.Width())
			}
		}
	}
}

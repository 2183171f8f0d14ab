package bits

import (
	"math"
	"slices"
	"testing"

	"bracken/api"
)

// row is n bits of a kind; the kinds are numbered from 0 to 9.
func row(n, kind int) []bool {
	l := make([]bool, n)
	x := uint64(n)*0x9E3779B97F4A7C15 + uint64(kind)
	for k := range l {
		x ^= x << 13
		x ^= x >> 7
		x ^= x << 17
		switch kind {
		case 0: // none
		case 1: // all
			l[k] = true
		case 2:
			l[k] = k%2 == 0
		case 3: // words of ones, words of noughts
			l[k] = k/64%2 == 1
		case 4: // blocks of ones, blocks of noughts
			l[k] = k/512%2 == 0
		case 5: // the first and the last alone
			l[k] = k == 0 || k == n-1
		case 6: // all but these
			l[k] = k != 0 && k != n-1
		case 7:
			l[k] = x%2 == 0
		case 8: // few
			l[k] = x%97 == 0
		case 9: // many
			l[k] = x%97 != 0
		}
	}
	return l
}

const kinds = 10

func made(t *testing.T, l []bool) *Bits {
	t.Helper()
	b, code := New(l)
	if b == nil || code != api.OK || b.Len() != len(l) {
		t.Fatalf("New of %d bits: %v, code %d", len(l), b, code)
	}
	return b
}

// each calls do with rows of all kinds, of lengths around words and blocks.
func each(do func(n, kind int, l []bool)) {
	for _, n := range []int{0, 1, 2, 62, 63, 64, 65, 127, 128, 129, 447, 448, 449, 511, 512, 513, 575, 576, 577, 1023, 1024, 1025, 5000} {
		for kind := range kinds {
			do(n, kind, row(n, kind))
		}
	}
}

// Promise 3.1: Get, Rank and Select of every place, of ordinary rows and of those at the edges of words and blocks.
func TestEveryPlace(t *testing.T) {
	each(func(n, kind int, l []bool) {
		b := made(t, l)
		places := map[bool][]int{}
		for k, bit := range l {
			if x, code := b.Get(k); x != bit || code != api.OK {
				t.Fatalf("%d bits of kind %d: Get(%d) = %v, %d", n, kind, k, x, code)
			}
			for _, of := range []bool{false, true} {
				if got := b.Rank(k, of); got != len(places[of]) {
					t.Fatalf("%d bits of kind %d: Rank(%d, %v) = %d, not %d", n, kind, k, of, got, len(places[of]))
				}
			}
			places[bit] = append(places[bit], k)
		}
		for _, of := range []bool{false, true} {
			for j, k := range places[of] {
				if got := b.Select(j, of); got != k {
					t.Fatalf("%d bits of kind %d: Select(%d, %v) = %d, not %d", n, kind, j, of, got, k)
				}
			}
			for _, j := range []int{len(places[of]), len(places[of]) + 1, n + 1, n + 64, math.MaxInt, -1, -2, -64, math.MinInt} {
				if got := b.Select(j, of); got != -1 {
					t.Fatalf("%d bits of kind %d: Select(%d, %v) = %d, not -1", n, kind, j, of, got)
				}
			}
			for _, k := range []int{n, n + 1, n + 64, n + 512, math.MaxInt} {
				if got := b.Rank(k, of); got != len(places[of]) {
					t.Fatalf("%d bits of kind %d: Rank(%d, %v) = %d, not %d", n, kind, k, of, got, len(places[of]))
				}
			}
			for _, k := range []int{-1, -63, -64, -512, math.MinInt} {
				if got := b.Rank(k, of); got != 0 {
					t.Fatalf("%d bits of kind %d: Rank(%d, %v) = %d, not 0", n, kind, k, of, got)
				}
			}
		}
		for _, k := range []int{n, n + 1, n + 64, math.MaxInt, -1, -64, math.MinInt} {
			if x, code := b.Get(k); x || code != api.ErrRange {
				t.Fatalf("%d bits of kind %d: Get(%d) = %v, %d", n, kind, k, x, code)
			}
		}
	})
}

// Promise 3.1: 2^22 bits are taken, and counted to the last; one more, or many more, are refused.
func TestFull(t *testing.T) {
	const n = 1 << 22
	for kind := range kinds {
		l := row(n, kind)
		b := made(t, l)
		ones, noughts := 0, 0
		for k, bit := range l {
			if b.Rank(k, true) != ones || b.Rank(k, false) != noughts {
				t.Fatalf("kind %d: Rank(%d) = %d, %d", kind, k, b.Rank(k, true), b.Rank(k, false))
			}
			j := noughts
			if bit {
				j = ones
				ones++
			} else {
				noughts++
			}
			if b.Select(j, bit) != k {
				t.Fatalf("kind %d: Select(%d, %v) = %d, not %d", kind, j, bit, b.Select(j, bit), k)
			}
		}
		if b.Rank(n, true) != ones || b.Rank(n, false) != noughts || b.Select(ones, true) != -1 || b.Select(noughts, false) != -1 {
			t.Fatalf("kind %d: not all are counted", kind)
		}
		if want := 64*n/64 + 32*n/512 + 16*n/64; b.Size() != want {
			t.Fatalf("kind %d: Size = %d, not %d", kind, b.Size(), want)
		}
	}
	for _, more := range []int{n + 1, n + 64, 2 * n} {
		if b, code := New(make([]bool, more)); b != nil || code != api.ErrFull {
			t.Errorf("New of %d bits: %v, code %d", more, b, code)
		}
	}
}

// Promise 3.2: of each 64 bits begun 64 and 16, of each 512 begun 32, whatever the bits; and what is kept is of that size.
func TestSize(t *testing.T) {
	for _, c := range []struct{ n, want int }{
		{0, 0}, {1, 112}, {63, 112}, {64, 112}, {65, 192}, {128, 192}, {129, 272},
		{511, 672}, {512, 672}, {513, 784}, {1024, 1344}, {1025, 1456},
	} {
		for kind := range kinds {
			b := made(t, row(c.n, kind))
			if b.Size() != c.want {
				t.Errorf("Size of %d bits of kind %d is %d, not %d", c.n, kind, b.Size(), c.want)
			}
			kept := 64*cap(b.parts[wordPart].(words)) + 32*cap(b.parts[blockPart].(blocks)) + 16*cap(b.parts[innerPart].(inner))
			if kept != c.want || len(b.parts) != 3 {
				t.Errorf("%d bits of kind %d are kept in %d", c.n, kind, kept)
			}
		}
	}
}

// Promises 3.1 and 3.2, of nil; and of one that nobody made, which holds no bits.
func TestOfNil(t *testing.T) {
	for _, b := range []*Bits{nil, {}, made(t, nil), made(t, []bool{})} {
		if b.Len() != 0 || b.Size() != 0 {
			t.Errorf("Len %d, Size %d", b.Len(), b.Size())
		}
		for _, k := range []int{math.MinInt, -1, 0, 1, 64, math.MaxInt} {
			if x, code := b.Get(k); x || code != api.ErrRange {
				t.Errorf("Get(%d) = %v, %d", k, x, code)
			}
			for _, bit := range []bool{false, true} {
				if b.Rank(k, bit) != 0 || b.Select(k, bit) != -1 {
					t.Errorf("Rank(%d, %v) = %d, Select = %d", k, bit, b.Rank(k, bit), b.Select(k, bit))
				}
			}
		}
	}
}

// Promise 3.3: a rank looks at one word of each part: with all others spoilt it is the same.
func TestRankNeedsFewWords(t *testing.T) {
	l := row(5000, 7)
	whole := made(t, l)
	for k := 1; k <= len(l); k++ {
		w := (k - 1) / 64
		b := &Bits{n: len(l), parts: []part{
			wordPart:  spoilt(whole.parts[wordPart].(words), w),
			blockPart: spoilt(whole.parts[blockPart].(blocks), w/8),
			innerPart: spoilt(whole.parts[innerPart].(inner), w),
		}}
		for _, bit := range []bool{false, true} {
			if got, want := b.Rank(k, bit), whole.Rank(k, bit); got != want {
				t.Fatalf("Rank(%d, %v) hangs on other words: %d, not %d", k, bit, got, want)
			}
		}
	}
}

// spoilt is a copy of l with all but the one at but made another.
func spoilt[L ~[]E, E uint64 | uint32 | uint16](l L, but int) L {
	c := slices.Clone(l)
	for k := range c {
		if k != but {
			c[k] = ^c[k]
		}
	}
	return c
}

// Rules 2 and 3: what is handed in is not changed and not kept, and asking changes nothing.
func TestNothingIsShared(t *testing.T) {
	l := row(1000, 7)
	given := slices.Clone(l)
	b := made(t, given)
	if !slices.Equal(given, l) {
		t.Error("New changed what was handed in")
	}
	for k := range given {
		given[k] = !given[k]
	}
	for range 2 {
		ones := 0
		for k, bit := range l {
			if x, _ := b.Get(k); x != bit || b.Rank(k, true) != ones {
				t.Fatalf("the bit of %d became another", k)
			}
			if bit {
				if b.Select(ones, true) != k {
					t.Fatalf("Select(%d) became another", ones)
				}
				ones++
			}
		}
	}
}

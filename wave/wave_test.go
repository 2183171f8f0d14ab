package wave

import (
	"math"
	"slices"
	"testing"

	"bracken/api"
)

// row is n symbols of a kind, all below sigma; the kinds are numbered from 0 to 6.
func row(n, sigma, kind int) []int {
	l := make([]int, n)
	x := uint64(n)*0x9E3779B97F4A7C15 + uint64(8*sigma+kind) + 1
	for k := range l {
		x ^= x << 13
		x ^= x >> 7
		x ^= x << 17
		switch kind {
		case 0: // the least alone
		case 1: // the greatest alone
			l[k] = sigma - 1
		case 2: // any
			l[k] = int(x % uint64(sigma))
		case 3: // rising, one behind the other
			l[k] = k % sigma
		case 4: // the least and the greatest, in turn
			l[k] = k % 2 * (sigma - 1)
		case 5: // few, often
			l[k] = int(x%4*x%4) % sigma
		case 6: // falling, each many times
			l[k] = sigma - 1 - k*sigma/n
		}
	}
	return l
}

const rows = 7

// sigmas are such as need one bit more, and one fewer.
func sigmas() []int {
	return []int{1, 2, 3, 4, 5, 7, 8, 9, 16, 17, 100, 255, 256, 257, 1000, 1<<20 - 1, 1 << 20}
}

// lengths are such as end around words and blocks.
func lengths() []int {
	return []int{0, 1, 2, 3, 63, 64, 65, 127, 128, 511, 512, 513, 1100}
}

// each calls do with rows of all kinds, lengths and sigmas.
func each(do func(l []int, sigma int)) {
	for _, sigma := range sigmas() {
		for _, n := range lengths() {
			for kind := range rows {
				do(row(n, sigma, kind), sigma)
			}
		}
	}
}

func made(t *testing.T, l []int, sigma int) *Wave {
	t.Helper()
	w, code := New(l, sigma)
	if w == nil || code != api.OK || w.Len() != len(l) {
		t.Fatalf("New of %d below %d: %v, code %d", len(l), sigma, w, code)
	}
	return w
}

// width is how many bits sigma - 1 has.
func width(sigma int) int {
	n := 0
	for x := sigma - 1; x > 0; x /= 2 {
		n++
	}
	return n
}

// few checks the steps of the last call.
func few(t *testing.T, w *Wave, sigma int) {
	t.Helper()
	if n := w.Steps(); n < 0 || n > 6*(width(sigma)+1) {
		t.Fatalf("sigma %d: %d steps", sigma, n)
	}
}

// places are where s stands in l from lo on, below hi.
func places(l []int, lo, hi, s int) []int {
	var all []int
	for k, x := range l {
		if x == s && k >= lo && k < hi {
			all = append(all, k)
		}
	}
	return all
}

// Promise 6.1: Get, Rank and Select, of every place of rows of seven kinds.
func TestEveryPlace(t *testing.T) {
	each(func(l []int, sigma int) {
		w := made(t, l, sigma)
		seen := map[int]int{}
		for k, s := range l {
			if x, code := w.Get(k); x != s || code != api.OK {
				t.Fatalf("%d below %d: Get(%d) = %d, %d, not %d", len(l), sigma, k, x, code, s)
			}
			few(t, w, sigma)
			if n := w.Rank(k, s); n != seen[s] {
				t.Fatalf("%d below %d: Rank(%d, %d) = %d, not %d", len(l), sigma, k, s, n, seen[s])
			}
			few(t, w, sigma)
			if place := w.Select(seen[s], s); place != k {
				t.Fatalf("%d below %d: Select(%d, %d) = %d, not %d", len(l), sigma, seen[s], s, place, k)
			}
			few(t, w, sigma)
			seen[s]++
		}
		for s, n := range seen {
			for _, k := range []int{len(l), len(l) + 1, len(l) + 64, 1 << 40, math.MaxInt} {
				if got := w.Rank(k, s); got != n {
					t.Fatalf("%d below %d: Rank(%d, %d) = %d, not %d", len(l), sigma, k, s, got, n)
				}
			}
			for _, k := range []int{0, -1, -64, math.MinInt} {
				if got := w.Rank(k, s); got != 0 {
					t.Fatalf("%d below %d: Rank(%d, %d) = %d", len(l), sigma, k, s, got)
				}
			}
			for _, j := range []int{-1, -2, math.MinInt, n, n + 1, n + 64, 1 << 40, math.MaxInt} {
				if got := w.Select(j, s); got != -1 {
					t.Fatalf("%d below %d: Select(%d, %d) = %d", len(l), sigma, j, s, got)
				}
			}
		}
	})
}

// Promise 6.1: Rank of symbols at places where others stand.
func TestRankOfOthers(t *testing.T) {
	for _, sigma := range []int{2, 3, 5, 8, 9, 17} {
		for kind := range rows {
			l := row(200, sigma, kind)
			w := made(t, l, sigma)
			for s := range sigma {
				for k := -1; k <= len(l)+1; k++ {
					if got, want := w.Rank(k, s), len(places(l, 0, k, s)); got != want {
						t.Fatalf("sigma %d, kind %d: Rank(%d, %d) = %d, not %d", sigma, kind, k, s, got, want)
					}
				}
			}
		}
	}
}

// Promise 6.1: all calls, of all rows of up to 5 symbols below 1 to 4, between all pairs of places.
func TestAllSmall(t *testing.T) {
	for sigma := 1; sigma <= 4; sigma++ {
		for n := range 6 {
			l := make([]int, n)
			for turned := false; !turned; {
				small(t, l, sigma)
				turned = turn(l, sigma)
			}
		}
	}
}

// turn makes the next row of l, and tells whether there was none.
func turn(l []int, sigma int) bool {
	for k := range l {
		l[k]++
		if l[k] < sigma {
			return false
		}
		l[k] = 0
	}
	return true
}

func small(t *testing.T, l []int, sigma int) {
	t.Helper()
	w := made(t, l, sigma)
	for k, s := range l {
		if x, code := w.Get(k); x != s || code != api.OK {
			t.Fatalf("%v below %d: Get(%d) = %d, %d", l, sigma, k, x, code)
		}
	}
	for s := -1; s <= sigma+1; s++ {
		for lo := -1; lo <= len(l)+1; lo++ {
			for hi := -1; hi <= len(l)+1; hi++ {
				between(t, w, l, sigma, lo, hi, s)
			}
		}
	}
}

// between asks how often, and where, s stands from lo on, below hi.
func between(t *testing.T, w *Wave, l []int, sigma, lo, hi, s int) {
	t.Helper()
	want := places(l, lo, hi, s)
	if got := w.Count(lo, hi, s); got != len(want) {
		t.Fatalf("%d below %d: Count(%d, %d, %d) = %d, not %d", len(l), sigma, lo, hi, s, got, len(want))
	}
	few(t, w, sigma)
	for j, k := range want {
		if got := w.Nth(lo, hi, s, j); got != k {
			t.Fatalf("%d below %d: Nth(%d, %d, %d, %d) = %d, not %d", len(l), sigma, lo, hi, s, j, got, k)
		}
		few(t, w, sigma)
	}
	for _, j := range []int{-1, math.MinInt, len(want), len(want) + 1, math.MaxInt} {
		if got := w.Nth(lo, hi, s, j); got != -1 {
			t.Fatalf("%d below %d: Nth(%d, %d, %d, %d) = %d", len(l), sigma, lo, hi, s, j, got)
		}
		few(t, w, sigma)
	}
}

// Promise 6.1: Count and Nth between places within, at the ends, beyond both, and the wrong way round.
func TestBetween(t *testing.T) {
	each(func(l []int, sigma int) {
		w := made(t, l, sigma)
		n := len(l)
		asked := []int{0, sigma - 1, sigma / 2}
		for k := 0; k < n; k += 1 + n/3 {
			asked = append(asked, l[k])
		}
		for _, s := range asked {
			for _, x := range [][2]int{
				{0, n}, {-9, n + 9}, {math.MinInt, math.MaxInt}, {0, 0}, {n, n}, {n / 2, n / 2}, {n / 3, n/3 + 1}, {1, n - 1},
				{n / 3, 2 * n / 3}, {63, 65}, {64, 128}, {500, 513}, {n / 2, n / 3}, {n, 0}, {math.MaxInt, math.MinInt}, {math.MinInt, 5}, {5, math.MaxInt}, {n + 1, n + 9}, {-9, -1},
			} {
				between(t, w, l, sigma, x[0], x[1], s)
			}
		}
	})
}

// Promise 6.1: what is no symbol stands nowhere.
func TestNoSymbol(t *testing.T) {
	each(func(l []int, sigma int) {
		w := made(t, l, sigma)
		n := len(l)
		for _, s := range []int{-1, -2, -sigma, math.MinInt, sigma, sigma + 1, 2 * sigma, 1 << 20, 1<<20 + 1, 1 << 40, math.MaxInt} {
			if s >= 0 && s < sigma {
				continue
			}
			if w.Rank(n, s) != 0 || w.Rank(-1, s) != 0 || w.Rank(math.MaxInt, s) != 0 || w.Count(0, n, s) != 0 || w.Count(-9, n+9, s) != 0 {
				t.Fatalf("%d below %d: %d stands there", n, sigma, s)
			}
			for _, j := range []int{-1, 0, 1, n} {
				if w.Select(j, s) != -1 || w.Nth(0, n, s, j) != -1 {
					t.Fatalf("%d below %d: %d is found", n, sigma, s)
				}
			}
		}
	})
}

// Promise 6.1: no place, no symbol.
func TestNoPlace(t *testing.T) {
	each(func(l []int, sigma int) {
		w := made(t, l, sigma)
		for _, k := range []int{-1, -2, math.MinInt, len(l), len(l) + 1, 1 << 40, math.MaxInt} {
			if s, code := w.Get(k); s != 0 || code != api.ErrRange {
				t.Fatalf("%d below %d: Get(%d) = %d, %d", len(l), sigma, k, s, code)
			}
			few(t, w, sigma)
		}
	})
}

// Promise 6.1: sigmas that may not be, symbols that are none of them; of too many, too.
func TestWrong(t *testing.T) {
	const full = 1 << 20
	for _, sigma := range []int{0, -1, -2, full + 1, full + 2, 2 * full, 1 << 32, 1<<32 + 1, math.MaxInt, math.MinInt} {
		for _, l := range [][]int{nil, {0}, {0, 1, 2}, make([]int, full+1)} {
			if w, code := New(l, sigma); w != nil || code != api.ErrArg {
				t.Errorf("New of %d below %d: %v, code %d", len(l), sigma, w, code)
			}
		}
	}
	for _, sigma := range sigmas() {
		for _, wrong := range []int{-1, math.MinInt, sigma, sigma + 1, 1 << 40, math.MaxInt} {
			for _, n := range []int{1, 2, 65, full + 1} {
				for _, k := range []int{0, n / 2, n - 1} {
					l := make([]int, n)
					l[k] = wrong
					if w, code := New(l, sigma); w != nil || code != api.ErrArg {
						t.Errorf("New of %d with %d at %d, below %d: %v, code %d", n, wrong, k, sigma, w, code)
					}
				}
			}
		}
	}
}

// Promise 6.1: 2^20 are taken, more are refused.
func TestFull(t *testing.T) {
	const full = 1 << 20
	for _, sigma := range []int{1, 2, full} {
		for _, n := range []int{full + 1, full + 2, 2 * full} {
			if w, code := New(row(n, sigma, 2), sigma); w != nil || code != api.ErrFull {
				t.Errorf("New of %d below %d: %v, code %d", n, sigma, w, code)
			}
		}
	}
	for _, sigma := range []int{1, 2, 1000, full} {
		for _, kind := range []int{2, 3, 6} {
			l := row(full, sigma, kind)
			w := made(t, l, sigma)
			stands := map[int][]int{}
			for k, s := range l {
				stands[s] = append(stands[s], k)
			}
			for k := 0; k < full; k += 1999 {
				s := l[k]
				all := stands[s]
				j, _ := slices.BinarySearch(all, k)
				x, code := w.Get(k)
				few(t, w, sigma)
				if x != s || code != api.OK || w.Rank(k, s) != j || w.Select(j, s) != k || w.Count(k, full, s) != len(all)-j || w.Nth(k, full, s, len(all)-j-1) != all[len(all)-1] {
					t.Fatalf("sigma %d, kind %d, place %d: Get %d, %d, Rank %d, Select %d", sigma, kind, k, x, code, w.Rank(k, s), w.Select(j, s))
				}
			}
		}
	}
}

// Promises 6.2 and 6.3: Size is of one row of bits for each bit of sigma - 1, and no more than that is kept.
func TestSize(t *testing.T) {
	each(func(l []int, sigma int) {
		w := made(t, l, sigma)
		n := len(l)
		if got, want := w.Size(), width(sigma)*(80*((n+63)/64)+32*((n+511)/512)); got != want {
			t.Fatalf("%d below %d: Size %d, not %d", n, sigma, got, want)
		}
		if len(w.parts) != width(sigma) || cap(w.parts) > 2*width(sigma) {
			t.Fatalf("%d below %d: %d levels, of %d", n, sigma, len(w.parts), cap(w.parts))
		}
		for _, p := range w.parts {
			if top := p.(level); top.bits.Len() != n || top.size() != top.bits.Size() {
				t.Fatalf("%d below %d: a level of %d, of Size %d", n, sigma, top.bits.Len(), top.size())
			}
		}
	})
	if w := made(t, []int{0, 0, 0}, 1); w.Size() != 0 {
		t.Errorf("Size of one symbol's own: %d", w.Size())
	}
}

// set is how many bits of s are ones.
func set(s int) int {
	n := 0
	for ; s > 0; s /= 2 {
		n += s % 2
	}
	return n
}

// Promise 6.2: Steps are all the ranks and selects of the last call: at each level one for Get, two for what is between, one more for a place, and with each of these one for a one.
func TestSteps(t *testing.T) {
	for _, sigma := range sigmas() {
		for kind := range rows {
			l := row(130, sigma, kind)
			w := made(t, l, sigma)
			if w.Steps() != 0 {
				t.Fatalf("Steps %d ahead of all calls", w.Steps())
			}
			for k, s := range l {
				down := 2*width(sigma) + set(s)
				both := down + width(sigma) + set(s)
				n := len(places(l, 0, k+1, s))
				for i, x := range []struct {
					do   func()
					want int
				}{
					{func() { w.Get(k) }, width(sigma) + set(s)}, {func() { w.Rank(k+1, s) }, down}, {func() { w.Count(0, k+1, s) }, down},
					{func() { w.Select(n-1, s) }, both}, {func() { w.Nth(0, k+1, s, n-1) }, both}, {func() { w.Nth(0, k+1, s, n) }, down},
					{func() { w.Get(-1) }, 0}, {func() { w.Rank(0, s) }, 0}, {func() { w.Select(0, -1) }, 0}, {func() { w.Count(5, 3, s) }, 0}, {func() { w.Nth(0, 9, sigma, 0) }, 0},
				} {
					x.do()
					got := w.Steps()
					w.Len()
					w.Size()
					if got != x.want || w.Steps() != got {
						t.Fatalf("sigma %d, %d at %d, call %d: Steps %d, then %d, not %d", sigma, s, k, i, got, w.Steps(), x.want)
					}
				}
			}
		}
	}
}

// Promise 6.2: at most 6 times (levels and 1), where the most ranks and selects are asked for.
func TestMostSteps(t *testing.T) {
	for _, sigma := range sigmas() {
		l := row(1100, sigma, 1)
		w := made(t, l, sigma)
		for k := range l {
			if w.Nth(0, len(l), sigma-1, k) != k {
				t.Fatalf("sigma %d: Nth %d", sigma, k)
			}
			few(t, w, sigma)
		}
	}
}

// Promises 6.1 and 6.2, of nil; and of one that nobody made, and of such as are made of nothing.
func TestOfNil(t *testing.T) {
	for i, w := range []*Wave{nil, {}, made(t, nil, 1), made(t, []int{}, 1), made(t, nil, 9), made(t, nil, 1<<20)} {
		if w.Len() != 0 || w.Size() != 0 || w.Steps() != 0 {
			t.Errorf("%d: Len %d, Size %d, Steps %d", i, w.Len(), w.Size(), w.Steps())
		}
		for _, x := range []int{math.MinInt, -1, 0, 1, 64, math.MaxInt} {
			if s, code := w.Get(x); s != 0 || code != api.ErrRange {
				t.Errorf("%d: Get(%d) = %d, %d", i, x, s, code)
			}
			for _, s := range []int{-1, 0, 1, math.MaxInt} {
				if w.Rank(x, s) != 0 || w.Count(0, x, s) != 0 || w.Count(x, math.MaxInt, s) != 0 || w.Select(x, s) != -1 || w.Nth(-9, 9, s, x) != -1 || w.Steps() != 0 {
					t.Errorf("%d: place %d, symbol %d: some answer is not as of none", i, x, s)
				}
			}
		}
	}
}

// Rules 2 and 3 of DOC.md: what is handed in is neither changed nor kept, and what is asked again is answered alike.
func TestNothingShared(t *testing.T) {
	each(func(l []int, sigma int) {
		given := slices.Clone(l)
		w := made(t, given, sigma)
		if !slices.Equal(given, l) {
			t.Fatalf("%d below %d: New changed what it was given", len(l), sigma)
		}
		for k := range given {
			given[k] = sigma - 1 - given[k]
		}
		for range 2 {
			for k, s := range l {
				if x, _ := w.Get(k); x != s {
					t.Fatalf("%d below %d: Get(%d) = %d, not %d", len(l), sigma, k, x, s)
				}
			}
		}
	})
}

// The document's example.
func TestExample(t *testing.T) {
	w := made(t, []int{5, 6, 5}, 7)
	if got := w.Select(1, 5); got != 2 {
		t.Errorf("Select(1, 5) of 5, 6, 5: %d", got)
	}
}

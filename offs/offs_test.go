package offs

import (
	"math"
	"slices"
	"testing"

	"bracken/api"
	"bracken/bits"
)

const top = 1 << 23

// row is n places of a kind, the last of them that one, if there is any; the kinds are numbered from 0 to 5.
func row(n, end, kind int) []int {
	l := make([]int, n)
	x := uint64(n)*0x9E3779B97F4A7C15 + uint64(8*end+kind) + 1
	for k := range l {
		x ^= x << 13
		x ^= x >> 7
		x ^= x << 17
		switch kind {
		case 0: // the last alone is not 0
		case 1: // all the same
			l[k] = end
		case 2: // all as far from each other
			l[k] = (k + 1) * end / n
		case 3: // any
			l[k] = int(x % uint64(end+1))
		case 4: // two heaps
			l[k] = end / 2 * (2 * k / n)
		case 5: // all close to the last
			l[k] = max(0, end-n+k)
		}
	}
	slices.Sort(l)
	if n > 0 {
		l[n-1] = end
	}
	return l
}

const kinds = 6

// lengths are such as end around words and blocks.
func lengths() []int {
	return []int{0, 1, 2, 3, 4, 5, 31, 32, 63, 64, 65, 127, 128, 255, 256, 511, 512, 513, 1100}
}

// ends are what the last place may be: of all widths, and around how many there are.
func ends(n int) []int {
	all := []int{0, max(0, n-1), n, n + 1, max(0, 2*n-1), 2 * n, 3 * n, 4*n - min(n, 1), 4 * n, 100, 1000, 12345, 1<<20 - 1, top - 1}
	for end := 1; end <= top; end *= 2 {
		all = append(all, end)
	}
	return all
}

// each calls do with rows of all lengths, ends and kinds.
func each(do func(l []int)) {
	for _, n := range lengths() {
		for _, end := range ends(n) {
			for kind := range kinds {
				do(row(n, end, kind))
			}
		}
	}
}

// slowLow counts the digits of the last / Len in base 2, less one.
func slowLow(l []int) int {
	if len(l) == 0 {
		return 0
	}
	digits := 0
	for n := l[len(l)-1] / len(l); n > 1; n /= 2 {
		digits++
	}
	return digits
}

// upper is the last's upper part.
func upper(l []int, low int) int {
	if len(l) == 0 {
		return 0
	}
	n := l[len(l)-1]
	for range low {
		n /= 2
	}
	return n
}

// begun is how many pieces of that size n begins.
func begun(n, size int) int {
	pieces := 0
	for at := 0; at < n; at += size {
		pieces++
	}
	return pieces
}

// bitsSize is what promise 3.2 tells of so many bits.
func bitsSize(n int) int {
	return 80*begun(n, 64) + 32*begun(n, 512)
}

func made(t *testing.T, l []int) *Offs {
	t.Helper()
	o, code := New(l)
	if o == nil || code != api.OK || o.Len() != len(l) {
		t.Fatalf("New of %d: %v, code %d", len(l), o, code)
	}
	return o
}

// same checks that o holds l at the places of l that are given.
func same(t *testing.T, o *Offs, l []int, places ...int) {
	t.Helper()
	for _, k := range places {
		if got, code := o.Get(k); got != l[k] || code != api.OK {
			t.Fatalf("%d up to %d: Get(%d) = %d, %d, not %d", len(l), l[len(l)-1], k, got, code, l[k])
		}
	}
}

// all are the numbers from 0 on, below n.
func all(n int) []int {
	l := make([]int, n)
	for k := range l {
		l[k] = k
	}
	return l
}

// none checks that there is nothing ahead of the first place and behind the last.
func none(t *testing.T, o *Offs) {
	t.Helper()
	n := o.Len()
	for _, k := range []int{-1, -2, -64, math.MinInt, n, n + 1, n + 63, n + 64, 1 << 40, math.MaxInt} {
		if got, code := o.Get(k); got != 0 || code != api.ErrRange {
			t.Fatalf("of %d: Get(%d) = %d, %d", n, k, got, code)
		}
	}
}

// sizes checks Low and Size.
func sizes(t *testing.T, o *Offs, l []int) {
	t.Helper()
	low := slowLow(l)
	if got := o.Low(); got != low {
		t.Fatalf("%d up to %d: Low %d, not %d", len(l), upper(l, 0), got, low)
	}
	want := 64*begun(len(l)*low, 64) + bitsSize(len(l)+upper(l, low)+1)
	if got := o.Size(); got != want {
		t.Fatalf("%d up to %d: Size %d, not %d", len(l), upper(l, 0), got, want)
	}
}

// Promise 7.1: all places of rows of six kinds, and none beyond them.
func TestEveryPlace(t *testing.T) {
	each(func(l []int) {
		o := made(t, l)
		same(t, o, l, all(len(l))...)
		none(t, o)
	})
}

// Promises 7.1 and 7.2: all rows of up to 4 numbers from -1 to 9, those that rise and those that don't.
func TestAllSmall(t *testing.T) {
	for n := range 5 {
		l := slices.Repeat([]int{-1}, n)
		for turned := false; !turned; turned = turn(l) {
			o, code := New(l)
			if !rises(l) {
				if o != nil || code != api.ErrArg {
					t.Fatalf("New of %v: %v, code %d", l, o, code)
				}
				continue
			}
			if o == nil || code != api.OK || o.Len() != n {
				t.Fatalf("New of %v: %v, code %d", l, o, code)
			}
			same(t, o, l, all(n)...)
			none(t, o)
			sizes(t, o, l)
		}
	}
}

// rises tells whether all of l are 0 or more, and none less than one ahead of it.
func rises(l []int) bool {
	for k, x := range l {
		if x < 0 || k > 0 && x < l[k-1] {
			return false
		}
	}
	return true
}

// turn makes the next row of l, and tells whether there was none.
func turn(l []int) bool {
	for k := range l {
		l[k]++
		if l[k] < 10 {
			return false
		}
		l[k] = -1
	}
	return true
}

// Promise 7.1: below 0, less than the one ahead, beyond 2^23, wherever it stands; 2^23 itself may be.
func TestWrong(t *testing.T) {
	for _, n := range []int{1, 2, 3, 64, 65, 513, 1<<22 + 1} {
		fine := row(n, top, 2)
		sizes(t, made(t, fine), fine)
		for _, k := range []int{0, n / 2, n - 1} {
			for _, wrong := range []int{-1, -2, math.MinInt, top + 1, 2 * top, 1 << 32, 1<<32 + 1, 1 << 62, math.MaxInt} {
				l := slices.Clone(fine)
				l[k] = wrong
				refused(t, l)
				if wrong > 0 {
					for i := k; i < n; i++ {
						l[i] = wrong
					}
					refused(t, l)
				}
			}
			if k > 0 {
				l := slices.Clone(fine)
				l[k] = l[k-1] - 1
				refused(t, l)
			}
		}
	}
	for _, l := range [][]int{{-1}, {-1, -1}, {-5, 0, 5}, {1, 0}, {0, 5, 4}, {5, 5, 4, 5}, {top, 0}, {top + 1}, {0, top + 1}, {math.MaxInt, math.MinInt}, {math.MinInt, math.MaxInt}} {
		refused(t, l)
	}
}

func refused(t *testing.T, l []int) {
	t.Helper()
	if o, code := New(l); o != nil || code != api.ErrArg {
		t.Fatalf("New of %d up to %d: %v, code %d", len(l), l[len(l)-1], o, code)
	}
}

// Promise 7.2: Low and Size of rows of all kinds, among them such as have no low bit at all at the top.
func TestLowAndSize(t *testing.T) {
	each(func(l []int) {
		sizes(t, made(t, l), l)
	})
	for _, x := range []struct {
		l         []int
		low, size int
	}{
		{nil, 0, 112}, {[]int{}, 0, 112}, {[]int{0}, 0, 112}, {[]int{1}, 0, 112}, {[]int{2}, 1, 176}, {[]int{3}, 1, 176}, {[]int{4}, 2, 176},
		{[]int{1, 1, 1}, 0, 112}, {[]int{0, 3}, 0, 112}, {[]int{0, 4}, 1, 176}, {[]int{64, 128, 192, 256}, 6, 176}, {[]int{0, 0, 0, 256}, 6, 176},
		{[]int{top}, 23, 176}, {[]int{top, top}, 22, 176}, {[]int{top - 1, top}, 22, 176}, {[]int{0, 0, top}, 21, 176}, {[]int{0, 0, 0, top}, 21, 64*2 + 112},
	} {
		if o := made(t, x.l); o.Low() != x.low || o.Size() != x.size {
			t.Errorf("%v: Low %d, Size %d, not %d, %d", x.l, o.Low(), o.Size(), x.low, x.size)
		}
	}
}

// Promises 7.1 and 7.2: where the upper bits are more than a Bits takes (2^22), all is as of fewer. (Size stays as of one row.)
func TestMany(t *testing.T) {
	for _, x := range []struct{ n, end int }{
		{1 << 20, top}, {1<<21 - 1, top}, {1 << 21, top - 1}, {1 << 21, top}, {1 << 22, top}, {1<<22 + 1, top}, {1 << 23, top},
		{1<<22 - 2, 0}, {1<<22 - 1, 0}, {1 << 22, 0}, {1<<22 - 2, 1}, {1<<22 - 1, 1}, {1 << 22, 1}, {1 << 23, 1}, {1<<23 + 5, 5}, {1<<23 + 5, top},
		{1 << 21, 1<<21 - 2}, {1 << 21, 1<<21 - 1}, {1 << 21, 1 << 21}, {1 << 21, 1<<21 + 1},
	} {
		for _, kind := range []int{0, 1, 2, 4} {
			l := row(x.n, x.end, kind)
			o := made(t, l)
			places := []int{0, 1, x.n - 2, x.n - 1}
			for k := 0; k < x.n; k += 7919 {
				places = append(places, k)
			}
			same(t, o, l, places...)
			same(t, o, l, turns(l, o.Low())...)
			none(t, o)
			sizes(t, o, l)
		}
	}
}

// turns are the places of l whose ones stand close to where one piece of the upper bits ends.
func turns(l []int, low int) []int {
	var near []int
	for k, x := range l {
		for range low {
			x /= 2
		}
		if at := (k + x) % (1 << 22); at < 3 || at >= 1<<22-3 {
			near = append(near, k)
		}
	}
	return near
}

// Promise 7.3: 100000 texts of some 10 bytes take some 7 bits each, where a number of one width would take 20; and no more is kept than Size tells.
func TestFewBits(t *testing.T) {
	var l []int
	at := 0
	for k := range 100000 {
		l = append(l, at)
		at += k * 7 % 21
	}
	if size := made(t, l).Size(); size > 8*len(l) {
		t.Errorf("%d up to %d: Size %d", len(l), at, size)
	}
	each(func(l []int) {
		o := made(t, l)
		low, high := o.parts[lowPart].(lows), o.parts[highPart].(highs)
		if len(o.parts) != 2 || low.row.Len() != len(l) || low.row.Width() > low.width || low.row.Size() > low.size() {
			t.Fatalf("%d places: %d parts, %d low bits each, in %d bits of %d", len(l), len(o.parts), low.row.Width(), low.row.Size(), low.size())
		}
		if len(high) != 1 || high[0].Len() != len(l)+upper(l, low.width)+1 || high[0].Rank(high[0].Len(), true) != len(l) || high.size() != high[0].Size() {
			t.Fatalf("%d places: %d pieces, the first of %d bits", len(l), len(high), high[0].Len())
		}
		if low.size()+high.size() != o.Size() {
			t.Fatalf("%d places: %d and %d bits, Size %d", len(l), low.size(), high.size(), o.Size())
		}
	})
}

// The Size of several pieces is that of one row only while pieces end where blocks end, and each piece must be one that a Bits takes.
func TestPieces(t *testing.T) {
	if pieceBits%512 != 0 {
		t.Errorf("a piece of %d bits ends in a block", pieceBits)
	}
	if b, code := bits.New(make([]bool, pieceBits)); b == nil || code != api.OK {
		t.Errorf("a piece of %d bits is refused", pieceBits)
	}
}

// Promises 7.1 and 7.2, of nil.
func TestOfNil(t *testing.T) {
	var o *Offs
	if o.Len() != 0 || o.Low() != 0 || o.Size() != 0 {
		t.Errorf("Len %d, Low %d, Size %d", o.Len(), o.Low(), o.Size())
	}
	none(t, o)
}

// Promises 7.1 and 7.2, of nothing: of one that was made of it, and of one that nobody made.
func TestOfNothing(t *testing.T) {
	for i, o := range []*Offs{made(t, nil), made(t, []int{}), {}} {
		for range 2 {
			if o.Len() != 0 || o.Low() != 0 || o.Size() != bitsSize(1) {
				t.Errorf("%d: Len %d, Low %d, Size %d", i, o.Len(), o.Low(), o.Size())
			}
		}
		none(t, o)
		for _, k := range []int{0, 1, 64} {
			if got, code := o.Get(k); got != 0 || code != api.ErrRange {
				t.Errorf("%d: Get(%d) = %d, %d", i, k, got, code)
			}
		}
	}
}

// Rules 2 and 3 of DOC.md: what is handed in is neither changed nor kept, and what is asked again is answered alike.
func TestNothingShared(t *testing.T) {
	each(func(l []int) {
		given := slices.Clone(l)
		o := made(t, given)
		if !slices.Equal(given, l) {
			t.Fatalf("%d places: New changed what it was given", len(l))
		}
		for k := range given {
			given[k] = top - given[k]
		}
		for range 2 {
			same(t, o, l, all(len(l))...)
			sizes(t, o, l)
		}
	})
}

// The document's example.
func TestExample(t *testing.T) {
	if got := made(t, []int{0, 100}).Low(); got != 5 {
		t.Errorf("Low of 0, 100: %d", got)
	}
}

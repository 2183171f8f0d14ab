package paren

import (
	"math"
	"slices"
	"testing"

	"bracken/api"
)

// of are the parentheses of s.
func of(s string) []bool {
	l := make([]bool, len(s))
	for k := range s {
		l[k] = s[k] == '('
	}
	return l
}

// shape is n parentheses of a kind, balanced, and one fewer if n is odd; the kinds are numbered from 0 to 9.
func shape(n, kind int) []bool {
	n -= n % 2
	l := make([]bool, 0, n)
	x := uint64(n)*0x9E3779B97F4A7C15 + uint64(kind) + 1
	for open := 0; len(l) < n; {
		x ^= x << 13
		x ^= x >> 7
		x ^= x << 17
		k := len(l)
		up := false
		switch kind {
		case 0: // as deep as can be
			up = k < n/2
		case 1: // one beside the other
			up = k%2 == 0
		case 2: // any
			up = x%2 == 0
		case 3: // deep, then any
			up = x%100 < 60
		case 4: // hills as wide as a block, nearly
			up = k%126 < 63
		case 5: // hills of several blocks
			up = k%3000 < 1500
		case 6: // one around many
			up = k == 0 || k != n-1 && k%2 == 1
		case 7: // a deep one ahead of each small one
			up = k < n/4 || k%2 == 0 && k < 3*n/4
		case 8: // teeth
			up = k/64%3 != 1
		case 9: // rarely deep
			up = x%100 < 40
		}
		if up = open == 0 || up && open < n-len(l); up {
			open++
		} else {
			open--
		}
		l = append(l, up)
	}
	return l
}

const kinds = 10

// lengths are such as end around words, blocks and nodes.
func lengths() []int {
	return []int{0, 2, 4, 6, 62, 64, 66, 126, 128, 130, 254, 256, 258, 384, 1022, 1024, 1026, 1152, 2048, 3000, 8190, 8192, 8194, 9216, 20000}
}

// each calls do with rows of all kinds and lengths.
func each(do func(n, kind int, l []bool)) {
	for _, n := range lengths() {
		for kind := range kinds {
			do(n, kind, shape(n, kind))
		}
	}
}

func made(t *testing.T, l []bool) *Paren {
	t.Helper()
	p, code := New(l)
	if p == nil || code != api.OK || p.Len() != len(l) || !May(l) {
		t.Fatalf("New of %d: %v, code %d, May %v", len(l), p, code, May(l))
	}
	return p
}

// pairs are what is to be answered of each place of a row.
type pairs struct {
	excess, mate, around, number []int
}

// match finds the pairs of l by a stack.
func match(l []bool) pairs {
	a := pairs{make([]int, len(l)), make([]int, len(l)), make([]int, len(l)), make([]int, len(l))}
	var stack []int
	opened := 0
	for k, open := range l {
		a.around[k], a.number[k] = -1, -1
		if open {
			if len(stack) > 0 {
				a.around[k] = stack[len(stack)-1]
			}
			a.number[k] = opened
			opened++
			stack = append(stack, k)
		} else {
			top := stack[len(stack)-1]
			stack = stack[:len(stack)-1]
			a.mate[k], a.mate[top] = top, k
		}
		a.excess[k] = len(stack)
	}
	return a
}

// bound is how many steps may be told of so many parentheses.
func bound(n int) int {
	width := 0
	for ; n > 0; n /= 2 {
		width++
	}
	return 40 * (width + 2)
}

// Promise 5.1: what may be, ordinary and empty ones; what closes too early, what never closes.
func TestMay(t *testing.T) {
	for _, s := range []string{"", "()", "(())", "()()", "(()(()))()", "((()))(())()"} {
		if p, code := New(of(s)); !May(of(s)) || p == nil || code != api.OK || p.Len() != len(s) {
			t.Errorf("%q: May %v, New %v, %d", s, May(of(s)), p, code)
		}
	}
	for _, s := range []string{"(", ")", ")(", "((", "))", "())", "(()", "())(", ")()(", "()(", "())(()", "(()))(", "())(()()("} {
		if p, code := New(of(s)); May(of(s)) || p != nil || code != api.ErrArg {
			t.Errorf("%q: May %v, New %v, %d", s, May(of(s)), p, code)
		}
	}
	if !May(nil) || !May([]bool{}) {
		t.Error("none may not be")
	}
}

// Promise 5.1: of all rows of up to 12 just those may be that cancel to nothing.
func TestMayOfAll(t *testing.T) {
	for n := range 13 {
		for x := range 1 << n {
			l := make([]bool, n)
			open, may := 0, true
			for k := range l {
				l[k] = x>>k&1 == 1
				if l[k] {
					open++
				} else {
					open--
				}
				may = may && open >= 0
			}
			may = may && open == 0
			if p, code := New(l); May(l) != may || (p != nil) != may || may && code != api.OK || !may && code != api.ErrArg {
				t.Fatalf("%v: May %v, New %v, %d", l, May(l), p, code)
			}
		}
	}
}

// Promise 5.1: 2^22 are taken, more are refused; and of more that aren't balanced, that is told.
func TestFull(t *testing.T) {
	const n = 1 << 22
	for _, more := range []int{n + 2, n + 1000, 2 * n} {
		for kind := range 2 {
			if p, code := New(shape(more, kind)); p != nil || code != api.ErrFull {
				t.Errorf("New of %d: %v, code %d", more, p, code)
			}
		}
		l := shape(more, 1)
		l[more-1] = true
		if p, code := New(l); p != nil || code != api.ErrArg {
			t.Errorf("New of %d that aren't balanced: %v, code %d", more, p, code)
		}
	}
	if p, code := New(make([]bool, n+1)); p != nil || code != api.ErrArg {
		t.Errorf("New of closing ones alone: %v, code %d", p, code)
	}
	for kind := range kinds {
		l := shape(n, kind)
		p, want := made(t, l), match(l)
		for k := 0; k < n; k += 97 {
			compare(t, p, l, want, k)
		}
		compare(t, p, l, want, n-1)
	}
}

// compare asks all of place k.
func compare(t *testing.T, p *Paren, l []bool, want pairs, k int) {
	t.Helper()
	most := bound(len(l))
	got := [...]int{p.Excess(k), p.Number(k), p.Span(k), -1, -1, -1, -1}
	steps := [4]int{}
	got[3], steps[0] = p.Close(k), p.Steps()
	got[4], steps[1] = p.Begin(k), p.Steps()
	got[5], steps[2] = p.Enclose(k), p.Steps()
	got[6], steps[3] = p.Up(k, 0), p.Steps()
	is := [...]int{want.excess[k], -1, 0, -1, -1, -1, -1}
	if l[k] {
		is[1], is[2], is[3], is[5], is[6] = want.number[k], (want.mate[k]-k+1)/2, want.mate[k], want.around[k], k
	} else {
		is[4] = want.mate[k]
	}
	if got != is || p.Open(k) != l[k] {
		t.Fatalf("%d of %d: Excess, Number, Span, Close, Begin, Enclose, Up: %v, not %v", k, len(l), got, is)
	}
	for _, n := range steps {
		if n < 1 || n > most {
			t.Fatalf("%d of %d: steps %v, where %d may be", k, len(l), steps, most)
		}
	}
	if l[k] && p.Place(want.number[k]) != k {
		t.Fatalf("%d of %d: Place is %d", k, len(l), p.Place(want.number[k]))
	}
}

// Promises 5.1, 5.2 and 5.3: all calls, of every place of rows of ten kinds, and the steps of each.
func TestEveryPlace(t *testing.T) {
	each(func(n, kind int, l []bool) {
		p, want := made(t, l), match(l)
		for k := range l {
			compare(t, p, l, want, k)
		}
	})
}

// Promise 5.2: all calls, of every place of all rows of up to 14.
func TestEveryPlaceOfAll(t *testing.T) {
	for n := 0; n <= 14; n += 2 {
		for x := range 1 << n {
			l := make([]bool, n)
			for k := range l {
				l[k] = x>>k&1 == 1
			}
			if !May(l) {
				continue
			}
			p, want := made(t, l), match(l)
			for k := range l {
				compare(t, p, l, want, k)
			}
		}
	}
}

// Promises 5.2 and 5.3: Up by all numbers, of the places of one way down and of some others.
func TestUp(t *testing.T) {
	for _, n := range []int{2, 10, 130, 1026, 3000} {
		for kind := range kinds {
			l := shape(n, kind)
			p, want := made(t, l), match(l)
			for k := 0; k < len(l); k += 1 + len(l)/50 {
				up := k
				if !l[k] {
					up = -1
				}
				for n := 0; n < len(l)/2+2; n++ {
					if got := p.Up(k, n); got != up || p.Steps() > bound(len(l)) {
						t.Fatalf("%d of kind %d: Up(%d, %d) = %d, not %d, in %d steps", len(l), kind, k, n, got, up, p.Steps())
					}
					if up >= 0 {
						up = want.around[up]
					}
				}
				for _, n := range []int{-1, -2, math.MinInt, len(l), math.MaxInt, math.MaxInt - 1, 1 << 32} {
					if got := p.Up(k, n); got != -1 {
						t.Fatalf("%d of kind %d: Up(%d, %d) = %d", len(l), kind, k, n, got)
					}
				}
			}
		}
	}
}

// Promises 5.1 and 5.2: what is no place, and no number of an opening one, answers as of none.
func TestNoPlace(t *testing.T) {
	each(func(n, kind int, l []bool) {
		p := made(t, l)
		for _, k := range []int{-1, -2, -64, -129, math.MinInt, n, n + 1, n + 63, n + 128, 1 << 40, math.MaxInt} {
			noPlace(t, p, k)
		}
		for _, j := range []int{-1, -2, math.MinInt, n / 2, n/2 + 1, n, math.MaxInt} {
			if got := p.Place(j); got != -1 {
				t.Fatalf("%d of kind %d: Place(%d) = %d", n, kind, j, got)
			}
		}
	})
}

func noPlace(t *testing.T, p *Paren, k int) {
	t.Helper()
	if p.Open(k) || p.Span(k) != 0 {
		t.Fatalf("Open(%d) = %v, Span = %d", k, p.Open(k), p.Span(k))
	}
	got := []int{p.Excess(k), p.Number(k), p.Close(k), p.Begin(k), p.Enclose(k), p.Up(k, 0), p.Up(k, 1), p.Up(k, -1), p.Up(k, math.MinInt), p.Up(k, math.MaxInt)}
	for i, x := range got {
		if x != -1 {
			t.Fatalf("place %d: the %d-th answer is %d", k, i, x)
		}
	}
}

// Promises 5.1 to 5.3, of nil; and of one that nobody made, and of one made of nothing.
func TestOfNil(t *testing.T) {
	for _, p := range []*Paren{nil, {}, made(t, nil), made(t, []bool{})} {
		if p.Len() != 0 || p.Steps() != 0 {
			t.Errorf("Len %d, Steps %d", p.Len(), p.Steps())
		}
		for _, k := range []int{math.MinInt, -1, 0, 1, 128, math.MaxInt} {
			noPlace(t, p, k)
			if p.Place(k) != -1 {
				t.Errorf("Place(%d) = %d", k, p.Place(k))
			}
		}
		if p.Steps() != 0 {
			t.Errorf("Steps %d, where nothing is to be looked at", p.Steps())
		}
	}
}

// Promise 5.3: Steps tells of the last of Close, Begin, Enclose and Up, whatever else is asked behind it.
func TestSteps(t *testing.T) {
	l := shape(20000, 0)
	p := made(t, l)
	if p.Steps() != 0 {
		t.Errorf("Steps %d ahead of all calls", p.Steps())
	}
	far, near := len(l)/4, len(l)/2-1
	p.Close(far)
	long := p.Steps()
	p.Close(near)
	short := p.Steps()
	if short < 1 || short >= long {
		t.Errorf("Steps of a near one %d, of a far one %d", short, long)
	}
	for _, call := range []struct {
		name string
		do   func()
	}{
		{"Close", func() { p.Close(far) }}, {"Begin", func() { p.Begin(len(l) - 1 - far) }},
		{"Enclose", func() { p.Enclose(far) }}, {"Up", func() { p.Up(far, far/2) }},
	} {
		call.do()
		want := p.Steps()
		if want < 1 {
			t.Errorf("%s: Steps %d", call.name, want)
		}
		May(l)
		p.Len()
		p.Open(near)
		p.Excess(near)
		p.Place(near)
		p.Number(near)
		p.Span(near)
		if got := p.Steps(); got != want {
			t.Errorf("%s: Steps %d, and then %d", call.name, want, got)
		}
		call.do()
		if got := p.Steps(); got != want {
			t.Errorf("%s again: Steps %d, and then %d", call.name, want, got)
		}
		p.Close(-1)
		if got := p.Steps(); got != 0 {
			t.Errorf("Steps of no place: %d", got)
		}
	}
}

// Promise 5.3: steps are looks, told one by one: within a block, one at each parenthesis, and those of two ranks.
func TestStepsAreLooks(t *testing.T) {
	l := shape(9216, 2)
	p, want := made(t, l), match(l)
	for k := 0; k < len(l); k += 37 {
		if !l[k] {
			continue
		}
		if p.Close(k) != want.mate[k] {
			t.Fatalf("Close(%d) = %d", k, p.Close(k))
		}
		near := want.mate[k] - k
		if k > 0 && k/blockPlaces == want.mate[k]/blockPlaces && p.Steps() != 1+near+2*rankWords {
			t.Fatalf("Close(%d): %d places on, Steps %d", k, near, p.Steps())
		}
	}
}

// Promise 5.4: two bits a node, and directories of less than that beside them.
func TestTwoBitsANode(t *testing.T) {
	const nodes = 1 << 20
	for kind := range kinds {
		p := made(t, shape(2*nodes, kind))
		size := 0
		for _, things := range p.parts[1:] {
			size += 32 * cap(things.(leasts))
		}
		if all := size + p.row().bits.Size(); p.Len() != 2*nodes || all > 33*nodes/10 {
			t.Errorf("kind %d: %d bits are kept of %d nodes", kind, all, nodes)
		}
	}
}

// Rules 2 and 3: what is handed in is not changed and not kept, and asking changes nothing.
func TestNothingIsShared(t *testing.T) {
	l := shape(3000, 3)
	given := slices.Clone(l)
	p, want := made(t, given), match(l)
	May(given)
	if !slices.Equal(given, l) {
		t.Error("New changed what was handed in")
	}
	for k := range given {
		given[k] = !given[k]
	}
	for range 2 {
		for k := range l {
			compare(t, p, l, want, k)
		}
	}
}

// Promise 5.2 and the examples of the chapter and of DOC.md.
func TestExamples(t *testing.T) {
	p := made(t, of("(())"))
	if p.Close(0) != 3 || p.Begin(3) != 0 || p.Close(1) != 2 || p.Enclose(1) != 0 || p.Enclose(0) != -1 || p.Span(0) != 2 {
		t.Error("( ( ) ): the first is not closed by the last")
	}
}

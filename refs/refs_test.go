package refs

import (
	"math"
	"math/big"
	"slices"
	"strconv"
	"strings"
	"testing"
	"unsafe"

	"bracken/api"
)

// five are the names that are given, each with its character.
func five() map[string]string {
	return map[string]string{"lt": "\x3C", "gt": "\x3E", "amp": "\x26", "apos": "\x27", "quot": "\x22"}
}

// model is chapter 12 word for word: the entities are gone through from the first on, and sums are of any size.
type model struct {
	list  []api.Entity
	open  []string
	spent *big.Int
}

func newModel(l []api.Entity) *model {
	return &model{list: l, spent: new(big.Int)}
}

func (m *model) first(name string) (e api.Entity, declared bool) {
	k := slices.IndexFunc(m.list, func(e api.Entity) bool { return e.Name == name })
	if k < 0 {
		return api.Entity{}, false
	}
	return m.list[k], true
}

func (m *model) get(name string) (string, bool, int) {
	if c, is := five()[name]; is {
		return c, true, api.OK
	}
	e, declared := m.first(name)
	switch {
	case !declared:
		return "", false, api.ErrNone
	case e.External:
		return "", false, api.ErrKind
	}
	return e.Value, false, api.OK
}

func (m *model) begin(name string, most int) (string, int) {
	s, is, code := m.get(name)
	if is {
		return "", api.ErrNone
	}
	if slices.Contains(m.open, name) {
		return "", api.ErrArg
	}
	if code != api.OK {
		return "", code
	}
	if code := m.spend(len(s), most); code != api.OK {
		return "", code
	}
	m.open = append(m.open, name)
	return s, api.OK
}

func (m *model) end(name string) bool {
	k := len(m.open)
	if k == 0 || m.open[k-1] != name {
		return false
	}
	m.open = m.open[:k-1]
	return true
}

func (m *model) spend(n, most int) int {
	all := new(big.Int).Add(m.spent, big.NewInt(int64(max(n, 0))))
	if all.Cmp(big.NewInt(int64(most))) > 0 {
		return api.ErrLimit
	}
	m.spent = all
	return api.OK
}

// both are a Refs and its model, to which the same is done.
type both struct {
	t *testing.T
	r *Refs
	m *model
}

func newBoth(t *testing.T, l []api.Entity) both {
	return both{t, New(api.Decls{Entities: l}), newModel(l)}
}

// kept checks Spent and Depth.
func (b both) kept(call string) {
	b.t.Helper()
	if b.r.Depth() != len(b.m.open) || big.NewInt(int64(b.r.Spent())).Cmp(b.m.spent) != 0 {
		b.t.Fatalf("of %.200v: %s: Depth %d, Spent %d, not %d, %d", b.m.list, call, b.r.Depth(), b.r.Spent(), len(b.m.open), b.m.spent)
	}
}

func (b both) get(name string) {
	b.t.Helper()
	want, wantIs, wantCode := b.m.get(name)
	if s, is, code := b.r.Get(name); s != want || is != wantIs || code != wantCode {
		b.t.Fatalf("of %.200v: Get(%.20q) = %.20q, %t, %d, not %.20q, %t, %d", b.m.list, name, s, is, code, want, wantIs, wantCode)
	}
	b.kept("Get")
}

func (b both) open(name string, most int) {
	b.t.Helper()
	want, wantCode := b.m.begin(name, most)
	if s, code := b.r.Open(name, most); s != want || code != wantCode {
		b.t.Fatalf("of %.200v, open %.200v, spent %d: Open(%.20q, %d) = %.20q, %d, not %.20q, %d", b.m.list, b.m.open, b.m.spent, name, most, s, code, want, wantCode)
	}
	b.kept("Open")
}

func (b both) close(name string) {
	b.t.Helper()
	want := b.m.end(name)
	if is := b.r.Close(name); is != want {
		b.t.Fatalf("of %.200v, open %.200v: Close(%.20q) = %t", b.m.list, b.m.open, name, is)
	}
	b.kept("Close")
}

func (b both) spend(n, most int) {
	b.t.Helper()
	spent := b.m.spent
	want := b.m.spend(n, most)
	if code := b.r.Spend(n, most); code != want {
		b.t.Fatalf("spent %d: Spend(%d, %d) = %d, not %d", spent, n, most, code, want)
	}
	b.kept("Spend")
}

// names are such as the rows below declare, and others.
func names() []string {
	return []string{"a", "b", "c", "o", "", "lt", "gt", "amp", "apos", "quot", "A", "a ", " a", "&a;", "a;", "aa", "a:b", "LT", "Lt", "l", "lt;", "&lt;", "<", "quote", "#60", "\x00", "a\x00", "\xff", "ä", "a\u0308"}
}

// all checks Get of all names.
func (b both) all() {
	b.t.Helper()
	for _, name := range names() {
		b.get(name)
	}
	for _, e := range b.m.list {
		b.get(e.Name)
	}
}

// kinds are entities of all kinds, of several some with one name.
func kinds() []api.Entity {
	return []api.Entity{
		{Name: "a", Value: "x&b;"},
		{Name: "a", Value: "another"},
		{Name: "a", External: true},
		{Name: "b", Value: ""},
		{Name: "lt", Value: "no"},
		{Name: "quot", External: true},
		{Name: "", Value: "\xff<\x00&"},
		{Name: "o", Value: "not this", External: true},
	}
}

// rows calls do with all rows of up to n numbers below k.
func rows(k, n int, do func(row []int)) {
	var row []int
	var longer func()
	longer = func() {
		do(row)
		if len(row) == n {
			return
		}
		for x := range k {
			row = append(row, x)
			longer()
			row = row[:len(row)-1]
		}
	}
	longer()
}

// Promise 12.1: all rows of up to four entities: of each name, and of names that are not declared.
func TestGetOfAllRows(t *testing.T) {
	l := kinds()
	rows(len(l), 4, func(row []int) {
		var list []api.Entity
		for _, k := range row {
			list = append(list, l[k])
		}
		newBoth(t, list).all()
	})
}

// Promise 12.1: the five, told as numbers, declared or not; and what is like them, but not one of them.
func TestFive(t *testing.T) {
	var list []api.Entity
	for name := range five() {
		list = append(list, api.Entity{Name: name, Value: "no"}, api.Entity{Name: name, External: true})
	}
	for _, l := range [][]api.Entity{nil, list} {
		r := New(api.Decls{Entities: l})
		for name, want := range map[string]byte{"lt": 60, "gt": 62, "amp": 38, "apos": 39, "quot": 34} {
			if s, is, code := r.Get(name); s != string(rune(want)) || !is || code != api.OK {
				t.Errorf("Get(%q) = %q, %t, %d", name, s, is, code)
			}
			if s, code := r.Open(name, 99); s != "" || code != api.ErrNone || r.Depth() != 0 || r.Spent() != 0 {
				t.Errorf("Open(%q) = %q, %d", name, s, code)
			}
			if r.Close(name) {
				t.Errorf("Close(%q)", name)
			}
			for _, other := range []string{strings.ToUpper(name), name + ";", "&" + name + ";", name[1:], name[:len(name)-1], name + " ", " " + name, name + name, name + "\x00"} {
				if s, is, code := r.Get(other); s != "" || is || code != api.ErrNone {
					t.Errorf("Get(%q) = %q, %t, %d", other, s, is, code)
				}
			}
		}
	}
}

// Promise 12.1: a name or a Value may be whatever a string is; nothing of it is read.
func TestAnyTexts(t *testing.T) {
	var list []api.Entity
	for k := range 256 {
		s := string([]byte{byte(k)})
		list = append(list, api.Entity{Name: s, Value: s + s}, api.Entity{Name: "&" + s + ";", Value: "<" + s + "&" + s})
	}
	b := newBoth(t, list)
	b.all()
	for _, e := range list {
		b.open(e.Name, math.MaxInt)
	}
	for _, e := range slices.Backward(list) {
		b.close(e.Name)
	}
}

// Promise 12.1: of an entity that is declared more than once, the first one counts, whatever the others are.
func TestFirst(t *testing.T) {
	for _, other := range []api.Entity{{Name: "e", Value: "other"}, {Name: "e"}, {Name: "e", External: true}} {
		b := newBoth(t, []api.Entity{{Name: "e", Value: "first"}, other, other})
		b.get("e")
		b.open("e", 5)
		if b.r.Depth() != 1 {
			t.Errorf("ahead of %+v: Depth %d", other, b.r.Depth())
		}
		b = newBoth(t, []api.Entity{{Name: "f"}, {Name: "e", External: true}, other, other})
		b.get("e")
		b.open("e", 99)
		if b.r.Depth() != 0 {
			t.Errorf("ahead of %+v: Depth %d", other, b.r.Depth())
		}
	}
}

// Promise 12.2: all rows of up to five calls.
func TestCallsOfAllRows(t *testing.T) {
	list := []api.Entity{{Name: "a", Value: "xyz"}, {Name: "b"}, {Name: "a", Value: "longer"}, {Name: "o", External: true}, {Name: "lt", Value: "12"}}
	calls := []func(b both){
		func(b both) { b.open("a", 6) },
		func(b both) { b.open("a", 2) },
		func(b both) { b.open("b", 3) },
		func(b both) { b.open("b", 0) },
		func(b both) { b.open("o", 9) },
		func(b both) { b.open("lt", 9) },
		func(b both) { b.close("a") },
		func(b both) { b.close("b") },
		func(b both) { b.close("o") },
		func(b both) { b.spend(3, 6) },
		func(b both) { b.spend(-1, 3) },
		func(b both) { b.spend(1, math.MaxInt) },
	}
	rows(len(calls), 5, func(row []int) {
		b := newBoth(t, list)
		for _, k := range row {
			calls[k](b)
		}
		b.get("a")
		b.get("o")
	})
}

// Promise 12.2: long rows of calls, of which each hangs on those ahead.
func TestLongRows(t *testing.T) {
	var list []api.Entity
	for k := range 20 {
		list = append(list, api.Entity{Name: "e" + strconv.Itoa(k*k%13), Value: strings.Repeat("x", k%7), External: k%9 == 4})
	}
	for seed := range uint64(50) {
		b := newBoth(t, list)
		x := seed*0x9E3779B97F4A7C15 + 1
		for range 1000 {
			x ^= x << 13
			x ^= x >> 7
			x ^= x << 17
			name := "e" + strconv.Itoa(int(x>>8%16))
			most := b.r.Spent() + int(x>>16%9) - 1
			switch x % 8 {
			case 0, 1, 2:
				b.open(name, most)
			case 3:
				b.close(name)
			case 4, 5:
				if d := len(b.m.open); d > 0 {
					name = b.m.open[d-1-int(x>>24%2)*(d-1)]
				}
				b.close(name)
			case 6:
				b.spend(int(x>>32%9)-2, most)
			case 7:
				b.get(name)
			}
		}
	}
}

// edges are numbers around which sums are wrapped or limits are passed.
func edges() []int {
	l := []int{math.MinInt, math.MinInt + 1, math.MinInt + 5, math.MinInt32, math.MaxInt32, 1 << 32, 1 << 62, math.MaxInt - 6, math.MaxInt - 5, math.MaxInt - 1, math.MaxInt}
	for k := -7; k <= 16; k++ {
		l = append(l, k)
	}
	return l
}

// Promise 12.2: what is spent, and most, in their whole range: Open of texts of several lengths, and Spend.
func TestMost(t *testing.T) {
	list := []api.Entity{{Name: "e"}, {Name: "f", Value: "1"}, {Name: "g", Value: "12345"}}
	for _, spent := range edges() {
		for _, most := range edges() {
			for _, e := range list {
				b := newBoth(t, list)
				b.spend(spent, math.MaxInt)
				b.open(e.Name, most)
				b.open(e.Name, most)
				b.close(e.Name)
			}
			for _, n := range edges() {
				b := newBoth(t, list)
				b.spend(spent, math.MaxInt)
				b.spend(n, most)
				b.spend(n, most)
			}
		}
	}
}

// Promise 12.2: a Value's length is that of its bytes.
func TestLengthInBytes(t *testing.T) {
	for _, s := range []string{"ä", "\u20ac", "\U0001F600", "\xff\xfe", "&lt;", "\r\n"} {
		b := newBoth(t, []api.Entity{{Name: "e", Value: s}})
		b.open("e", len(s)-1)
		b.open("e", len(s))
		if b.r.Spent() != len(s) {
			t.Errorf("%q: Spent %d", s, b.r.Spent())
		}
	}
}

// Promise 12.2: of several errors the one that the chapter names first.
func TestFirstError(t *testing.T) {
	r := New(api.Decls{Entities: []api.Entity{{Name: "a", Value: "xyz"}, {Name: "o", External: true}, {Name: "lt"}}})
	r.Open("a", 3)
	for name, want := range map[string]int{"a": api.ErrArg, "o": api.ErrKind, "lt": api.ErrNone, "q": api.ErrNone, "": api.ErrNone} {
		for _, most := range []int{math.MinInt, -1, 0, 2, 3, 6, math.MaxInt} {
			if s, code := r.Open(name, most); s != "" || code != want || r.Spent() != 3 || r.Depth() != 1 {
				t.Errorf("Open(%q, %d) = %q, %d; Spent %d, Depth %d", name, most, s, code, r.Spent(), r.Depth())
			}
		}
	}
}

// Promise 12.2, Close: of many that are open, only the last one is closed; then the one ahead is the last; what is closed may be opened again, and is spent again.
func TestClose(t *testing.T) {
	const many = 300
	var list []api.Entity
	for k := range many {
		list = append(list, api.Entity{Name: "e" + strconv.Itoa(k), Value: strings.Repeat("x", k%3)})
	}
	b := newBoth(t, list)
	for range 2 {
		for _, e := range list {
			b.open(e.Name, math.MaxInt)
		}
		for k := many - 1; k >= 0; k-- {
			for _, other := range []int{0, 1, k / 2, k - 1, k + 1, many - 1} {
				if other >= 0 && other < many && other != k {
					b.close(list[other].Name)
				}
			}
			b.close("")
			b.close("q")
			b.close(list[k].Name)
			b.close(list[k].Name)
			if b.r.Depth() != k {
				t.Fatalf("Depth %d, not %d", b.r.Depth(), k)
			}
		}
	}
}

// Promise 12.2, Close: closing one opens no other one again, and one that was closed may stand within those that are open still.
func TestOpenedAgain(t *testing.T) {
	b := newBoth(t, []api.Entity{{Name: "a", Value: "1"}, {Name: "b", Value: "2"}, {Name: "c", Value: "3"}})
	for _, name := range []string{"a", "b", "c"} {
		b.open(name, 99)
	}
	b.close("c")
	b.close("b")
	for range 5 {
		b.open("c", 99)
		b.open("a", 99)
		b.open("b", 99)
		b.open("c", 99)
		b.close("c")
		b.close("b")
		b.close("c")
	}
	b.close("a")
	b.close("a")
}

// ring are n entities, of which each holds the next, and the last the first.
func ring(n int) []api.Entity {
	l := make([]api.Entity, n)
	for k := range l {
		l[k] = api.Entity{Name: "e" + strconv.Itoa(k), Value: "(&e" + strconv.Itoa((k+1)%n) + ";)"}
	}
	return l
}

// expand puts into s what its references stand for.
func expand(r *Refs, s string, most int) (string, int) {
	var out strings.Builder
	for {
		ahead, behind, found := strings.Cut(s, "&")
		out.WriteString(ahead)
		if !found {
			return out.String(), api.OK
		}
		name, rest, _ := strings.Cut(behind, ";")
		s = rest
		c, is, code := r.Get(name)
		if is {
			out.WriteString(c)
			continue
		}
		if code != api.OK {
			return "", code
		}
		text, code := r.Open(name, most)
		if code != api.OK {
			return "", code
		}
		inside, code := expand(r, text, most)
		if code != api.OK {
			return "", code
		}
		out.WriteString(inside)
		if !r.Close(name) {
			return "", -1
		}
	}
}

// Promise 12.3, and T5: entities that hold themselves, alone or through others, end with an error, wherever one goes in.
func TestRings(t *testing.T) {
	for _, n := range []int{1, 2, 3, 4, 10, 100, 3000} {
		l := append(ring(n), api.Entity{Name: "in", Value: "&lt;&e" + strconv.Itoa(n/2) + ";"})
		for _, from := range []string{"e0", "e" + strconv.Itoa(n-1), "in"} {
			r := New(api.Decls{Entities: l})
			if s, code := expand(r, "&"+from+";", api.MaxExpand); s != "" || code != api.ErrArg || r.Depth() > n+1 {
				t.Errorf("ring of %d from %s: %.20q, %d, Depth %d", n, from, s, code, r.Depth())
			}
		}
	}
}

// graph is what holds what: of each of three the rows of those that it holds.
type graph [3][]int

// holdsItself tells whether one of those that k reaches does, where above are those on the way to it.
func (g graph) holdsItself(k int, above []int) bool {
	if slices.Contains(above, k) {
		return true
	}
	return slices.ContainsFunc(g[k], func(x int) bool { return g.holdsItself(x, append(slices.Clone(above), k)) })
}

// text is what k stands for, and how much is spent by that.
func (g graph) text(k int) (s string, spent int) {
	s, spent = strconv.Itoa(k), 1+3*len(g[k])
	for _, x := range g[k] {
		inside, n := g.text(x)
		s += inside
		spent += n
	}
	return s, spent
}

func (g graph) entities() []api.Entity {
	l := make([]api.Entity, len(g))
	for k, row := range g {
		value := strconv.Itoa(k)
		for _, x := range row {
			value += "&" + strconv.Itoa(x) + ";"
		}
		l[k] = api.Entity{Name: strconv.Itoa(k), Value: value}
	}
	return l
}

// Promise 12.3: of three entities, of which each holds up to two of them, all that may be: a text is there just if none that it holds holds itself.
func TestGraphs(t *testing.T) {
	var holds [][]int
	rows(3, 2, func(row []int) { holds = append(holds, slices.Clone(row)) })
	for _, a := range holds {
		for _, b := range holds {
			for _, c := range holds {
				g := graph{a, b, c}
				l := g.entities()
				for k := range g {
					r := New(api.Decls{Entities: l})
					name := "&" + strconv.Itoa(k) + ";"
					s, code := expand(r, name, api.MaxExpand)
					if g.holdsItself(k, nil) {
						if s != "" || code != api.ErrArg {
							t.Fatalf("%v: %d is %q, %d", g, k, s, code)
						}
						continue
					}
					want, spent := g.text(k)
					if s != want || code != api.OK || r.Spent() != spent || r.Depth() != 0 {
						t.Fatalf("%v: %d is %q, %d, spent %d, Depth %d, not %q, %d", g, k, s, code, r.Spent(), r.Depth(), want, spent)
					}
					r = New(api.Decls{Entities: l})
					if _, code := expand(r, name, spent-1); code != api.ErrLimit || r.Spent() >= spent {
						t.Fatalf("%v: %d with most %d: %d, spent %d", g, k, spent-1, code, r.Spent())
					}
				}
			}
		}
	}
}

// T5: entities of entities, each twice the one ahead, end in the limit.
func TestDoubled(t *testing.T) {
	list := []api.Entity{{Name: "e0", Value: "ha"}}
	for k := range 60 {
		inner := "&e" + strconv.Itoa(k) + ";"
		list = append(list, api.Entity{Name: "e" + strconv.Itoa(k+1), Value: inner + inner})
	}
	r := New(api.Decls{Entities: list})
	if s, code := expand(r, "&e60;", api.MaxExpand); s != "" || code != api.ErrLimit || r.Spent() > api.MaxExpand || r.Depth() > 61 {
		t.Errorf("%.20q, %d, spent %d, Depth %d", s, code, r.Spent(), r.Depth())
	}
	r = New(api.Decls{Entities: list})
	if s, code := expand(r, "&e3;", api.MaxExpand); s != strings.Repeat("ha", 8) || code != api.OK || r.Spent() != 8*2+7*8 {
		t.Errorf("%q, %d, spent %d", s, code, r.Spent())
	}
}

// Promise 12.2, of nil, whatever is asked of it.
func TestOfNil(t *testing.T) {
	var r *Refs
	for _, name := range names() {
		if s, is, code := r.Get(name); s != "" || is || code != api.ErrNone {
			t.Errorf("Get(%q) = %q, %t, %d", name, s, is, code)
		}
		for _, most := range edges() {
			if s, code := r.Open(name, most); s != "" || code != api.ErrNone {
				t.Errorf("Open(%q, %d) = %q, %d", name, most, s, code)
			}
		}
		if r.Close(name) {
			t.Errorf("Close(%q)", name)
		}
	}
	for _, n := range edges() {
		for _, most := range edges() {
			if code := r.Spend(n, most); code != api.ErrArg {
				t.Errorf("Spend(%d, %d) = %d", n, most, code)
			}
		}
	}
	if r.Spent() != 0 || r.Depth() != 0 {
		t.Errorf("Spent %d, Depth %d", r.Spent(), r.Depth())
	}
}

// One that nobody made, and one of nothing declared: the five are there, and may be spent of.
func TestOfNothing(t *testing.T) {
	for _, r := range []*Refs{{}, New(api.Decls{}), New(api.Decls{Name: "a", Entities: []api.Entity{}, Atts: []api.Att{{Elem: "a", Name: "b", Has: true, Value: "c"}}})} {
		b := both{t, r, newModel(nil)}
		b.all()
		for _, name := range names() {
			b.open(name, 99)
			b.close(name)
		}
		b.spend(3, 2)
		b.spend(3, 3)
		b.spend(1, 3)
	}
}

// Rule 1 of DOC.md: many entities, and long ones, in time that grows as they do.
func TestMany(t *testing.T) {
	const many = 1 << 18
	list := make([]api.Entity, 0, 2*many+1)
	for k := range many {
		list = append(list, api.Entity{Name: "e" + strconv.Itoa(k), Value: strconv.Itoa(k)})
	}
	for k := range many {
		list = append(list, api.Entity{Name: "e" + strconv.Itoa(k), Value: "again"})
	}
	name, value := strings.Repeat("n", 1<<22), strings.Repeat("&v;", 1<<22)
	list = append(list, api.Entity{Name: name, Value: value})
	r := New(api.Decls{Entities: list})
	spent := 0
	for k := range many {
		want := strconv.Itoa(k)
		if s, is, code := r.Get("e" + want); s != want || is || code != api.OK {
			t.Fatalf("Get(e%s) = %q, %t, %d", want, s, is, code)
		}
		spent += len(want)
		if s, code := r.Open("e"+want, spent); s != want || code != api.OK || r.Depth() != k+1 {
			t.Fatalf("Open(e%s) = %q, %d, Depth %d", want, s, code, r.Depth())
		}
	}
	if s, code := r.Open("e0", math.MaxInt); s != "" || code != api.ErrArg {
		t.Fatalf("the first again: %q, %d", s, code)
	}
	spent += len(value)
	if s, code := r.Open(name, spent-1); s != "" || code != api.ErrLimit {
		t.Fatalf("the long one: %.20q, %d", s, code)
	}
	if s, code := r.Open(name, spent); s != value || code != api.OK || r.Spent() != spent || !r.Close(name) {
		t.Fatalf("the long one: %.20q, %d, Spent %d", s, code, r.Spent())
	}
	for k := many - 1; k >= 0; k-- {
		if !r.Close("e" + strconv.Itoa(k)) {
			t.Fatalf("Close(e%d)", k)
		}
	}
	if r.Depth() != 0 || r.Spent() != spent {
		t.Fatalf("Depth %d, Spent %d", r.Depth(), r.Spent())
	}
}

// Rule 3 of DOC.md: the same calls give the same answers; and what is done to one is done to no other one of the same entities.
func TestEachOnItsOwn(t *testing.T) {
	d := api.Decls{Entities: kinds()}
	x, y := New(d), New(d)
	for _, name := range []string{"a", "b", "", "o", "a", "lt"} {
		a, b := x.Depth(), x.Spent()
		s, code := x.Open(name, 99)
		if y.Depth() != a || y.Spent() != b {
			t.Fatalf("Open(%q) of one is told by the other: Depth %d, Spent %d", name, y.Depth(), y.Spent())
		}
		if again, other := y.Open(name, 99); again != s || other != code || x.Depth() != y.Depth() || x.Spent() != y.Spent() {
			t.Fatalf("Open(%q) = %q, %d, and %q, %d", name, s, code, again, other)
		}
	}
}

// fresh is s in bytes that nobody else has.
func fresh(s string) string {
	b := []byte(s)
	return unsafe.String(unsafe.SliceData(b), len(b))
}

// spoil changes all bytes of s.
func spoil(s string) {
	b := unsafe.Slice(unsafe.StringData(s), len(s))
	for k := range b {
		b[k] ^= 0x55
	}
}

// Rule 2 of DOC.md: the entities that are handed in are neither changed nor kept, not even the bytes of a text.
func TestEntitiesAreNotKept(t *testing.T) {
	given := kinds()
	for k, e := range given {
		given[k].Name, given[k].Value = fresh(e.Name), fresh(e.Value)
	}
	b := both{t, New(api.Decls{Entities: given}), newModel(kinds())}
	b.open("a", 99)
	if !slices.Equal(given, kinds()) {
		t.Fatalf("they became %+v", given)
	}
	for k, e := range given {
		spoil(e.Name)
		spoil(e.Value)
		given[k] = api.Entity{Name: "q", Value: "other", External: !e.External}
	}
	b.all()
	b.get("q")
	for _, name := range []string{"", "b", "a", "o", "q"} {
		b.open(name, 99)
	}
	for _, name := range []string{"b", "", "a"} {
		b.close(name)
	}
}

// Rule 2 of DOC.md: a name that is handed in is neither changed nor kept.
func TestNamesAreNotKept(t *testing.T) {
	b := newBoth(t, kinds())
	for _, do := range []func(name string){b.get, func(name string) { b.open(name, 99) }, b.close, func(name string) { b.open(name, 99) }} {
		name := fresh("a")
		do(name)
		if name != "a" {
			t.Fatalf("it became %q", name)
		}
		// The model keeps names: its own are to stay.
		for k := range b.m.open {
			b.m.open[k] = "a"
		}
		spoil(name)
	}
	b.open("a", 99)
	b.close("a")
	b.all()
}

// Rule 2 of DOC.md: what is answered is the caller's own, so that whatever befalls its bytes, nothing else is changed.
func TestAnswersShareNothing(t *testing.T) {
	b := newBoth(t, kinds())
	for _, name := range []string{"a", ""} {
		s, _, _ := b.r.Get(name)
		spoil(s)
		b.all()
		b.m.begin(name, 99)
		s, _ = b.r.Open(name, 99)
		spoil(s)
		b.all()
		b.close(name)
		b.open(name, 99)
	}
}

// The document's example.
func TestExample(t *testing.T) {
	if s, is, code := New(api.Decls{}).Get("lt"); s != "<" || !is || code != api.OK {
		t.Errorf("lt: %q, %t, %d", s, is, code)
	}
}

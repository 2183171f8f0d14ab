package intern

import (
	"hash/fnv"
	"math"
	"math/big"
	"slices"
	"strconv"
	"strings"
	"testing"
	"unsafe"

	"bracken/api"
)

// letters are n bytes of all values, other ones for another seed.
func letters(n, seed int) string {
	b := make([]byte, n)
	x := uint64(n)*0x9E3779B97F4A7C15 + uint64(seed) + 1
	for k := range b {
		x ^= x << 13
		x ^= x >> 7
		x ^= x << 17
		b[k] = byte(x)
	}
	return string(b)
}

// row is n texts of a kind, some of them again and again; the kinds are numbered from 0 to 6.
func row(n, kind int) []string {
	l := make([]string, n)
	for k := range l {
		switch kind {
		case 0: // none twice
			l[k] = strconv.Itoa(k)
		case 1: // each twice, one behind the other
			l[k] = "n" + strconv.Itoa(k/2)
		case 2: // few, often
			l[k] = "p:" + strconv.Itoa(k*k%17)
		case 3: // all of them, and then all again
			l[k] = strconv.Itoa(k % (n/2 + 1))
		case 4: // each the beginning of the next
			l[k] = strings.Repeat("a", k%300)
		case 5: // bytes of all values
			l[k] = letters(k%5, k)
		case 6: // all that differ have the same first place, of 64 and fewer
			l[k] = alike(64, k*k%40)
		}
	}
	return l
}

const kinds = 7

// each calls do with rows of all lengths and kinds.
func each(do func(l []string)) {
	for _, n := range []int{0, 1, 2, 3, 4, 5, 8, 9, 16, 17, 33, 64, 65, 129, 600} {
		for kind := range kinds {
			do(row(n, kind))
		}
	}
}

// hash is what chapter 9 tells of a Hash, by the library.
func hash(s string) uint64 {
	h := fnv.New64a()
	h.Write([]byte(s))
	return h.Sum64()
}

// firstAt are n texts, the same ones ahead for a greater n, whose Hash modulo that many places is at.
func firstAt(places, at, n int) []string {
	var l []string
	for k := 0; len(l) < n; k++ {
		if s := "x" + strconv.Itoa(k); hash(s)%uint64(places) == uint64(at) {
			l = append(l, s)
		}
	}
	return l
}

// alike is the k-th text of such as begin at the same place, the last of that many.
func alike(places, k int) string {
	return firstAt(places, places-1, k+1)[k]
}

// model is a table as chapter 9 tells it, word for word: the places hold the texts themselves.
type model struct {
	list   []string
	number map[string]int
	places []*string
}

func newModel() *model {
	return &model{number: map[string]int{}, places: make([]*string, 8)}
}

// look gives the place where looking for s ends, and at how many it looked.
func (m *model) look(s string) (at, looked int) {
	at = int(hash(s) % uint64(len(m.places)))
	for looked = 1; m.places[at] != nil && *m.places[at] != s; looked++ {
		if at++; at == len(m.places) {
			at = 0
		}
	}
	return at, looked
}

// put gives the number of s, and at how many places it looked.
func (m *model) put(s string) (number, looked int) {
	at, looked := m.look(s)
	if n, has := m.number[s]; has {
		return n, looked
	}
	number, s = len(m.list), strings.Clone(s)
	m.list, m.number[s], m.places[at] = append(m.list, s), number, &s
	if len(m.list) > len(m.places)/2 {
		m.places = make([]*string, 2*len(m.places))
		for k := range m.list {
			at, _ := m.look(m.list[k])
			m.places[at] = &m.list[k]
		}
	}
	return number, looked
}

// put checks Put of s against m.
func put(t *testing.T, x *Table, m *model, s string) {
	t.Helper()
	want, looked := m.put(s)
	if n := x.Put(s); n != want || x.Looked() != looked || x.Len() != len(m.list) {
		t.Fatalf("of %d: Put(%.20q) = %d, Looked %d, Len %d, not %d, %d, %d", len(m.list), s, n, x.Looked(), x.Len(), want, looked, len(m.list))
	}
}

// find checks Find of s against m.
func find(t *testing.T, x *Table, m *model, s string) {
	t.Helper()
	want, has := m.number[s]
	_, looked := m.look(s)
	if n, is := x.Find(s); n != want || is != has || x.Looked() != looked || x.Len() != len(m.list) {
		t.Fatalf("of %d: Find(%.20q) = %d, %t, Looked %d, Len %d, not %d, %t, %d", len(m.list), s, n, is, x.Looked(), x.Len(), want, has, looked)
	}
}

// others are texts that the rows do not hold, or some of them only.
func others() []string {
	return []string{"", "a", "b", "A", "aa", "0", "00", "n", "n0", "n0 ", "p:", "p:0", "\x00", "\xff", "ä", "no such one", strings.Repeat("a", 300), strings.Repeat("a", 5000)}
}

// same checks all of x against m: each text, by its number and by itself, and that there is nothing else.
func same(t *testing.T, x *Table, m *model) {
	t.Helper()
	for n, want := range m.list {
		find(t, x, m, want)
		looked := x.Looked()
		if s, code := x.Get(n); s != want || code != api.OK {
			t.Fatalf("of %d: Get(%d) = %.20q, %d, not %.20q", len(m.list), n, s, code, want)
		}
		if x.Looked() != looked {
			t.Fatalf("of %d: Looked %d behind Get, not %d", len(m.list), x.Looked(), looked)
		}
	}
	for _, s := range others() {
		find(t, x, m, s)
	}
	none(t, x)
}

// none checks that no number has a text but those from 0 on, below Len.
func none(t *testing.T, x *Table) {
	t.Helper()
	k := x.Len()
	for _, n := range []int{-1, -2, -8, math.MinInt, k, k + 1, k + 2, 2*k + 8, 1 << 32, math.MaxInt} {
		if s, code := x.Get(n); s != "" || code != api.ErrRange {
			t.Fatalf("of %d: Get(%d) = %.20q, %d", k, n, s, code)
		}
	}
}

// made is a table of l, and its model.
func made(t *testing.T, l []string) (*Table, *model) {
	t.Helper()
	x, m := New(), newModel()
	for _, s := range l {
		put(t, x, m, s)
	}
	return x, m
}

// Promise 9.1: the numbers of all texts of rows of seven kinds, and the texts of all numbers, whatever is asked in between.
func TestEveryText(t *testing.T) {
	each(func(l []string) {
		x, m := New(), newModel()
		same(t, x, m)
		for k, s := range l {
			find(t, x, m, s)
			put(t, x, m, s)
			find(t, x, m, s)
			find(t, x, m, l[len(l)-1-k])
			put(t, x, m, s)
			if k < 40 {
				same(t, x, m)
			}
		}
		same(t, x, m)
	})
}

// Promises 9.1 and 9.2: all rows of up to five of these texts.
func TestAllSmall(t *testing.T) {
	texts := []string{"", "a", "b", "ab", "\x00", "\xff\xfe"}
	var from func(l []string)
	from = func(l []string) {
		x, m := made(t, l)
		for _, s := range texts {
			find(t, x, m, s)
		}
		if len(l) < 5 {
			for _, s := range texts {
				from(append(slices.Clone(l), s))
			}
		}
	}
	from(nil)
}

// Promise 9.1: a text that was sought, but never put, gets no number by that.
func TestFindPutsNothing(t *testing.T) {
	x := New()
	for range 3 {
		for _, s := range others() {
			if n, is := x.Find(s); n != 0 || is {
				t.Fatalf("Find(%.20q) = %d, %t", s, n, is)
			}
		}
	}
	if x.Len() != 0 || x.Put("later") != 0 || x.Len() != 1 {
		t.Fatalf("Len %d", x.Len())
	}
	none(t, x)
}

// Promise 9.1: a text's number stays, and is the number of no other one, however many come.
func TestMany(t *testing.T) {
	x, m := New(), newModel()
	for k := range 1 << 19 {
		put(t, x, m, strconv.Itoa(k))
		put(t, x, m, strconv.Itoa(k*7%(k+1)))
	}
	if len(m.list) != 1<<19 {
		t.Fatalf("Len %d", len(m.list))
	}
	same(t, x, m)
}

// Promise 9.1: texts that are long, and differ at one byte only, wherever it stands.
func TestLong(t *testing.T) {
	long := letters(1<<20, 0)
	l := []string{long, long[1:], long[:1<<20-1], long + "\x00"}
	for _, k := range []int{0, 1, 1 << 19, 1<<20 - 2, 1<<20 - 1} {
		b := []byte(long)
		b[k] ^= 0x80
		l = append(l, string(b))
	}
	x, m := made(t, append(slices.Clone(l), l...))
	if x.Len() != len(l) {
		t.Fatalf("Len %d, not %d", x.Len(), len(l))
	}
	same(t, x, m)
}

// Promise 9.2: hashes that are told as numbers.
func TestHash(t *testing.T) {
	for _, x := range []struct {
		s    string
		want uint64
	}{
		{"", 14695981039346656037}, {"a", 0xaf63dc4c8601ec8c}, {"b", 0xaf63df4c8601f1a5}, {"\x00", 0xaf63bd4c8601b7df}, {"foobar", 0x85944171f73967e8},
	} {
		if got := Hash(x.s); got != x.want {
			t.Errorf("Hash(%q) = %#x, not %#x", x.s, got, x.want)
		}
	}
}

// Promise 9.2: the hash of all texts of up to two bytes, and of longer ones, by its words and by the library.
func TestHashOfAll(t *testing.T) {
	l := []string{"", "p:local", "ü€😀", "\xff\xff\xff\xff\xff\xff\xff\xff\xff", letters(1000, 1), letters(1<<20, 2)}
	for a := range 256 {
		l = append(l, string([]byte{byte(a)}))
		for b := range 256 {
			l = append(l, string([]byte{byte(a), byte(b)}))
		}
	}
	for n := range 300 {
		l = append(l, letters(n, n))
	}
	for _, s := range l {
		if got := Hash(s); got != hash(s) {
			t.Fatalf("Hash(%.20q) = %#x, not %#x", s, got, hash(s))
		}
		if len(s) < 100 && Hash(s) != inWhole(s) {
			t.Fatalf("Hash(%.20q) = %#x, not %#x", s, Hash(s), inWhole(s))
		}
	}
}

// inWhole works a Hash out by numbers of any length.
func inWhole(s string) uint64 {
	h, times := new(big.Int).SetUint64(14695981039346656037), big.NewInt(1099511628211)
	end := new(big.Int).Lsh(big.NewInt(1), 64)
	for k := range len(s) {
		h.Xor(h, big.NewInt(int64(s[k])))
		h.Mod(h.Mul(h, times), end)
	}
	return h.Uint64()
}

// Promise 9.2: Looked of texts that all begin at the same place of eight, wherever it is, told as numbers.
func TestLookedRoundAbout(t *testing.T) {
	for at := range 8 {
		l, x := firstAt(8, at, 5), New()
		if x.Looked() != 0 {
			t.Fatalf("Looked %d of New", x.Looked())
		}
		for n, s := range l[:4] {
			if _, is := x.Find(s); is || x.Looked() != n+1 {
				t.Fatalf("place %d: Find of the %d-th: %t, Looked %d", at, n, is, x.Looked())
			}
			if x.Put(s) != n || x.Looked() != n+1 {
				t.Fatalf("place %d: Put of the %d-th: Looked %d", at, n, x.Looked())
			}
			if x.Put(l[0]) != 0 || x.Looked() != 1 {
				t.Fatalf("place %d: Put of the first: Looked %d", at, x.Looked())
			}
			if k, is := x.Find(s); k != n || !is || x.Looked() != n+1 {
				t.Fatalf("place %d: Find of the %d-th: %d, %t, Looked %d", at, n, k, is, x.Looked())
			}
		}
		// Half of the places are taken, so that they are still eight: the others of that place are looked for at five.
		if _, is := x.Find(l[4]); is || x.Looked() != 5 {
			t.Fatalf("place %d: Find of one more: %t, Looked %d", at, is, x.Looked())
		}
		// One behind it ends at the same empty place.
		if _, is := x.Find(firstAt(8, (at+1)%8, 1)[0]); is || x.Looked() != 4 {
			t.Fatalf("place %d: Find of the next place: %t, Looked %d", at, is, x.Looked())
		}
	}
}

// Promise 9.2: the places are doubled when more than half of them are taken, not ahead of it, and what is looked at by that is not told.
func TestDoubled(t *testing.T) {
	for places := 8; places <= 1<<12; places *= 2 {
		// The first is at the last place of all numbers of places, so that whatever begins there too is looked for at one place more.
		l := []string{firstAt(1<<13, 1<<13-1, 1)[0]}
		for k := 0; len(l) < places/2; k++ {
			if s := "d" + strconv.Itoa(k); hash(s)%uint64(places/2) > 0 && hash(s)%uint64(places/2) < uint64(places/2)-1 {
				l = append(l, s)
			}
		}
		x, m := made(t, l)
		if got := x.places().count(); got != places {
			t.Fatalf("%d places for %d, not %d", got, len(l), places)
		}
		same(t, x, m)
		more := slices.DeleteFunc(firstAt(places, places-1, 2), func(s string) bool { return s == l[0] })
		if put(t, x, m, more[0]); x.Looked() < 2 {
			t.Fatalf("of %d: Looked %d", len(l), x.Looked())
		}
		if got := x.places().count(); got != 2*places {
			t.Fatalf("%d places for %d, not %d", got, x.Len(), 2*places)
		}
		same(t, x, m)
	}
}

// Promise 9.2: when the places are doubled, the texts are put anew by number, not by the places that they had.
func TestDoubledByNumber(t *testing.T) {
	for _, at := range []int{7, 15} {
		l := firstAt(16, at, 2)
		x := New()
		for n, s := range append(slices.Clone(l), firstAt(8, 3, 3)...) {
			if x.Put(s) != n {
				t.Fatalf("Put of the %d-th", n)
			}
		}
		// The second one of them stood at place 0, the first one at the last.
		for n, s := range l {
			if k, is := x.Find(s); k != n || !is || x.Looked() != n+1 {
				t.Fatalf("place %d: Find of the %d-th: %d, %t, Looked %d", at, n, k, is, x.Looked())
			}
		}
	}
}

// Promise 9.2: the places are a power of 2, eight at first, at least two for each text, and never more than need be.
func TestPlaces(t *testing.T) {
	x := New()
	for k := range 5000 {
		want := 8
		for want < 2*k {
			want *= 2
		}
		if got := x.places().count(); got != want || len(x.parts) != 2 {
			t.Fatalf("%d places for %d, not %d", got, k, want)
		}
		x.Put(strconv.Itoa(k))
		x.Put(strconv.Itoa(k / 2))
	}
}

// Promise 9.2: only a Put or a Find changes what Looked tells.
func TestLookedStays(t *testing.T) {
	x := New()
	l := firstAt(8, 7, 3)
	for _, s := range l {
		x.Put(s)
	}
	for range 3 {
		x.Get(0)
		x.Get(-1)
		x.Get(3)
		x.Len()
		Hash("a")
		New().Put("a")
		if x.Looked() != 3 {
			t.Fatalf("Looked %d", x.Looked())
		}
	}
	if x.Put(l[1]); x.Looked() != 2 {
		t.Fatalf("Looked %d", x.Looked())
	}
}

// Promises 9.1 and 9.2, of nil.
func TestOfNil(t *testing.T) {
	var x *Table
	for _, s := range others() {
		if n := x.Put(s); n != -1 {
			t.Errorf("Put(%.20q) = %d", s, n)
		}
		if n, is := x.Find(s); n != 0 || is {
			t.Errorf("Find(%.20q) = %d, %t", s, n, is)
		}
		if x.Len() != 0 || x.Looked() != 0 {
			t.Errorf("Len %d, Looked %d", x.Len(), x.Looked())
		}
		none(t, x)
	}
}

// Promises 9.1 and 9.2, of a table that nobody made, whatever is asked of it first.
func TestOfNothing(t *testing.T) {
	for first, ask := range []func(x *Table, m *model){
		func(x *Table, m *model) { put(t, x, m, "a") },
		func(x *Table, m *model) { find(t, x, m, "a") },
		func(x *Table, m *model) { none(t, x) },
		func(x *Table, m *model) { same(t, x, m) },
	} {
		x, m := &Table{}, newModel()
		if x.Len() != 0 || x.Looked() != 0 {
			t.Errorf("%d: Len %d, Looked %d", first, x.Len(), x.Looked())
		}
		ask(x, m)
		for _, s := range row(50, 0) {
			put(t, x, m, s)
		}
		same(t, x, m)
	}
}

// Promise 9.3: of two names, the numbers are alike just if the texts are, within one table; another one numbers them on its own.
func TestNamesByNumbers(t *testing.T) {
	names := append(row(30, 0), "a", "b", "a", "A", "p:a", "p:b", "q:a", "p:a", "", ":", "", "ä", "a\u0308", "ä")
	x, y := New(), New()
	for _, s := range slices.Backward(names) {
		y.Put(s)
	}
	for _, a := range names {
		for _, b := range names {
			if (x.Put(a) == x.Put(b)) != (a == b) || (y.Put(a) == y.Put(b)) != (a == b) {
				t.Fatalf("%q and %q: %d and %d, %d and %d", a, b, x.Put(a), x.Put(b), y.Put(a), y.Put(b))
			}
		}
	}
	if x.Len() != y.Len() || x.Put(names[0]) != 0 || y.Put(names[0]) == 0 {
		t.Fatalf("Len %d and %d", x.Len(), y.Len())
	}
}

// Rule 3 of DOC.md: the same calls give the same answers.
func TestSameAgain(t *testing.T) {
	each(func(l []string) {
		x, y := New(), New()
		for _, s := range l {
			if a, b := x.Put(s), y.Put(s); a != b || x.Looked() != y.Looked() {
				t.Fatalf("Put(%.20q) = %d, Looked %d, and %d, %d", s, a, x.Looked(), b, y.Looked())
			}
		}
	})
}

// spoil changes all bytes of s.
func spoil(s string) {
	b := unsafe.Slice(unsafe.StringData(s), len(s))
	for k := range b {
		b[k] ^= 0x55
	}
}

// fresh is s in bytes that nobody else has.
func fresh(s string) string {
	b := []byte(s)
	return unsafe.String(unsafe.SliceData(b), len(b))
}

// Rule 2 of DOC.md: what is handed in is neither changed nor kept, not even the bytes of a text.
func TestNothingKept(t *testing.T) {
	each(func(l []string) {
		x, m := New(), newModel()
		for _, s := range l {
			given := fresh(s)
			put(t, x, m, given)
			find(t, x, m, given)
			if given != s {
				t.Fatalf("%.20q was changed", s)
			}
			spoil(given)
		}
		same(t, x, m)
	})
}

// Rule 2 of DOC.md: what is answered is the caller's own, so that whatever befalls its bytes, nothing else is changed.
func TestAnswersShareNothing(t *testing.T) {
	x, m := made(t, []string{"first", "", "second", "third"})
	for n := range x.Len() {
		s, _ := x.Get(n)
		spoil(s)
		same(t, x, m)
	}
}

// The document's example.
func TestExample(t *testing.T) {
	x := New()
	if a, b, c := x.Put("a"), x.Put("b"), x.Put("a"); a != 0 || b != 1 || c != 0 {
		t.Errorf("a, b, a: %d, %d, %d", a, b, c)
	}
}

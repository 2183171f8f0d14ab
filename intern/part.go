package intern

import "strings"

// placesAtFirst is how many places there are at first; they are always a power of 2.
const placesAtFirst = 8

// part is one of what a Table keeps: each tells how many it holds.
type part interface{ count() int }

// Where the parts stand among a Table's parts.
const (
	textPart = iota
	placePart
)

// texts are all that have a number, by it.
type texts struct{ list []string }

// places are where the numbers of texts are looked for: in each stands a number and one, or 0, if it is empty.
type places struct{ list []uint32 }

func newPlaces(n int) *places {
	return &places{make([]uint32, n)}
}

func (l *texts) count() int      { return len(l.list) }
func (l *texts) at(n int) string { return l.list[n] }

// add keeps s behind the others, and gives its number. It keeps a copy: what s is a piece of may be far longer.
func (l *texts) add(s string) int {
	l.list = append(l.list, strings.Clone(s))
	return len(l.list) - 1
}

// place puts all texts anew at that many places, which are more than they, the least number first.
func (l *texts) place(many int) *places {
	p := newPlaces(many)
	for n, s := range l.list {
		p.take(p.firstEmpty(s), n)
	}
	return p
}

func (p *places) count() int { return len(p.list) }

// at gives the number that stands at place k, if one does.
func (p *places) at(k int) (n int, taken bool) {
	if p.list[k] == 0 {
		return 0, false
	}
	return int(p.list[k] - 1), true
}

func (p *places) take(k, n int) {
	p.list[k] = uint32(n) + 1
}

// first is the place from which on s is looked for.
func (p *places) first(s string) int {
	return int(Hash(s) % uint64(len(p.list)))
}

// next is the place behind k; behind the last one, the first.
func (p *places) next(k int) int {
	return (k + 1) % len(p.list)
}

// firstEmpty is the first empty place from that of s on.
func (p *places) firstEmpty(s string) int {
	k := p.first(s)
	for p.list[k] != 0 {
		k = p.next(k)
	}
	return k
}

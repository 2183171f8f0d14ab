package paren

import "bracken/bits"

const (
	// blockPlaces is how many parentheses a block stands for. (As each of them that is looked at is a step, it can't be greater by much.)
	blockPlaces = 128
	// fan is how many blocks, or nodes, a node stands for.
	fan = 8
	// rankWords is how many words a rank looks at.
	rankWords = 3
)

// group is how many things of a level one thing of the level above stands for.
func group(level int) int {
	if level == 0 {
		return blockPlaces
	}
	return fan
}

// rise is by how much a parenthesis changes the excess.
func rise(open bool) int {
	if open {
		return 1
	}
	return -1
}

// part is one of a Paren's parts: a row of things, each of which comes down to some least excess. What is looked at is added to steps.
type part interface {
	len() int
	// first gives the first thing, of those from from to below end, that comes down to that excess; end.
	first(from, end, excess int, steps *int) int
	// last gives the last such thing; from - 1.
	last(from, end, excess int, steps *int) int
}

// row is the parentheses themselves.
type row struct{ bits *bits.Bits }

// leasts are blocks or nodes: of each the least excess of the places that it stands for.
type leasts []int32

func (r row) len() int { return r.bits.Len() }

// is tells whether one stands at k that opens, or one that closes.
func (r row) is(k int, open bool, steps *int) bool {
	if k < 0 || k >= r.len() {
		return false
	}
	return r.at(k, steps) == open
}

func (r row) at(k int, steps *int) bool {
	*steps++
	open, _ := r.bits.Get(k)
	return open
}

// excess is how many opening ones less closing ones stand ahead of k.
func (r row) excess(k int, steps *int) int {
	if k == 0 {
		return 0
	}
	*steps += rankWords
	return 2*r.bits.Rank(k, true) - k
}

func (r row) first(from, end, excess int, steps *int) int {
	if from == end {
		return end
	}
	now := r.excess(from, steps)
	for k := from; k < end; k++ {
		now += rise(r.at(k, steps))
		if now <= excess {
			return k
		}
	}
	return end
}

func (r row) last(from, end, excess int, steps *int) int {
	now := r.excess(end, steps)
	for k := end - 1; k >= from; k-- {
		if now <= excess {
			return k
		}
		now -= rise(r.at(k, steps))
	}
	return from - 1
}

// blocks gives the blocks of l.
func blocks(l []bool) leasts {
	all := make(leasts, (len(l)+blockPlaces-1)/blockPlaces)
	excess := int32(0)
	for k, open := range l {
		excess += int32(rise(open))
		if b := k / blockPlaces; k%blockPlaces == 0 || excess < all[b] {
			all[b] = excess
		}
	}
	return all
}

// above gives the nodes of the level above; none, if one node would stand for all.
func (p leasts) above() leasts {
	if len(p) <= fan {
		return nil
	}
	all := make(leasts, (len(p)+fan-1)/fan)
	for i, least := range p {
		if i%fan == 0 || least < all[i/fan] {
			all[i/fan] = least
		}
	}
	return all
}

func (p leasts) len() int { return len(p) }

func (p leasts) first(from, end, excess int, steps *int) int {
	for i := from; i < end; i++ {
		*steps++
		if int(p[i]) <= excess {
			return i
		}
	}
	return end
}

func (p leasts) last(from, end, excess int, steps *int) int {
	for i := end - 1; i >= from; i-- {
		*steps++
		if int(p[i]) <= excess {
			return i
		}
	}
	return from - 1
}

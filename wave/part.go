package wave

import "bracken/bits"

// part is what a Wave is made of: each tells its own size, so that Size is of what is kept indeed.
type part interface{ size() int }

// level is one bit of each symbol. In the level below, the symbols with a nought in it stand ahead of those with a one, else in the same order.
type level struct{ bits *bits.Bits }

// split gives the level of that bit of the symbols of l, and the symbols in the order of the level below.
func split(l []int, bit int) (level, []int) {
	row := make([]bool, len(l))
	below, ones := make([]int, 0, len(l)), []int(nil)
	for k, s := range l {
		if row[k] = isSet(s, bit); row[k] {
			ones = append(ones, s)
		} else {
			below = append(below, s)
		}
	}
	b, _ := bits.New(row) // There are never too many: bits may be more than symbols.
	return level{b}, append(below, ones...)
}

func isSet(s, bit int) bool {
	return s>>bit&1 == 1
}

func (p level) size() int { return p.bits.Size() }

func (p level) at(k int) bool {
	bit, _ := p.bits.Get(k)
	return bit
}

// rank counts the places below k that have that bit.
func (p level) rank(k int, bit bool, steps *int) int {
	*steps++
	return p.bits.Rank(k, bit)
}

// find gives the place of the j-th that has that bit.
func (p level) find(j int, bit bool, steps *int) int {
	*steps++
	return p.bits.Select(j, bit)
}

// ahead is how many stand in the level below ahead of those that have that bit. (It is counted whenever it is asked for: kept, it would be more than Size tells.)
func (p level) ahead(bit bool, steps *int) int {
	if !bit {
		return 0
	}
	return p.rank(p.bits.Len(), false, steps)
}

package offs

import (
	"slices"

	"bracken/bits"
	"bracken/ints"
)

const (
	wordBits = 64
	// pieceBits is how many bits a Bits takes, at most. (It is whole words and blocks, so that all pieces together are of the Size that one of all their bits would be.)
	pieceBits = 1 << 22
)

// part is one of what an Offs keeps of its places: each tells its own size.
type part interface{ size() int }

// lows are the low bits of each place.
type lows struct {
	width int
	row   *ints.Ints
}

// highs are the bits above the low ones, in pieces of one row: a one for each place, behind as many noughts as the bits above its low ones tell. (A row may be of more bits than a Bits takes.)
type highs []*bits.Bits

func lowsOf(l []int, width int) lows {
	row := make([]uint64, len(l))
	for k, place := range l {
		row[k] = uint64(place & (1<<width - 1))
	}
	return lows{width, ints.New(row)}
}

func highsOf(l []int, width int) highs {
	row := make([]bool, len(l)+last(l)>>width+1)
	for k, place := range l {
		row[k+place>>width] = true
	}
	var all highs
	for piece := range slices.Chunk(row, pieceBits) {
		b, _ := bits.New(piece) // No piece is too long.
		all = append(all, b)
	}
	return all
}

// size is of width bits each: what is kept may be less, if the low bits of none have a one at the top.
func (p lows) size() int {
	return (p.row.Len()*p.width + wordBits - 1) / wordBits * wordBits
}

func (p highs) size() int {
	n := 0
	for _, piece := range p {
		n += piece.Size()
	}
	return n
}

func (p lows) at(k int) int {
	low, _ := p.row.Get(k)
	return int(low)
}

// at gives how many noughts stand ahead of the k-th one, which is one of the row.
func (p highs) at(k int) int {
	ahead, j := 0, k
	for _, piece := range p {
		if place := piece.Select(j, true); place >= 0 {
			return ahead + place - k
		}
		ahead += piece.Len()
		j -= piece.Rank(piece.Len(), true)
	}
	return 0
}

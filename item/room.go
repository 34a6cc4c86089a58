package item

import (
	"math"
	"math/bits"
)

// room is how much of a width is left, in two words: the widths of items may be any, and many of them are more than one word holds.
type room struct {
	high int
	low  uint64
}

// roomOf tells all of a width.
func roomOf(width int) room {
	return room{high: width >> 63, low: uint64(width)}
}

// less tells the room that a box of that width leaves.
func (r room) less(width int) room {
	taken := roomOf(width)
	low, borrow := bits.Sub64(r.low, taken.low, 0)
	return room{high: r.high - taken.high - int(borrow), low: low}
}

// holds tells whether a box of that width has room.
func (r room) holds(width int) bool {
	return r.less(width).high >= 0
}

// word tells the room in one word; the least one, if there is still less. Of more than any box takes it isn't asked.
func (r room) word() int {
	if r != roomOf(int(r.low)) {
		return math.MinInt
	}
	return int(r.low)
}

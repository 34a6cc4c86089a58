package set

import (
	"compositor/api"
	"compositor/fix"
	"compositor/wrap"
)

// slack is by how much a line is to grow, or to shrink, and by how much it may.
type slack struct {
	more, grow   int
	less, shrink int
}

// slackOf tells the slack of what stands between from and to, in a line that is width wide.
func slackOf(l []api.Item, from, to, width int, last bool) slack {
	whole, grow, shrink := wrap.Sum(l, from, to)
	switch {
	case width < whole:
		return slack{less: whole - width, shrink: shrink}
	case !last:
		return slack{more: width - whole, grow: grow}
	}
	return slack{}
}

// shift tells by how much a box is moved, by how much those ahead of it may grow and shrink.
func (s slack) shift(grow, shrink int) int {
	return part(s.more, grow, s.grow) - part(s.less, shrink, s.shrink)
}

// part tells what falls to those ahead, of how much it is; 0 where that can't be told.
func part(much, ahead, whole int) int {
	n, e := fix.Scale(much, ahead, whole)
	if e != api.OK {
		return 0
	}
	return n
}

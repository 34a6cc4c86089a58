package wrap

import (
	"compositor/api"
	"compositor/fix"
)

// measure is how wide items are together, and by how much they may grow and shrink.
type measure struct {
	width, grow, shrink int
}

// with tells the measure of items that have that of m, and of x.
func (m measure) with(x *api.Item) measure {
	if x.Kind == api.ItemPenalty {
		return m
	}
	return measure{m.width + x.Width, m.grow + x.Grow, m.shrink + x.Shrink}
}

// less tells the measure of those of m's items that aren't the ones ahead.
func (m measure) less(ahead measure) measure {
	return measure{m.width - ahead.width, m.grow - ahead.grow, m.shrink - ahead.shrink}
}

// stop is what a line's cost hangs on at the place where it ends.
type stop struct {
	must bool
	cost int // of the penalty there; 0 where the line must end
}

// stopAt tells the stop at i, which is no place outside l.
func stopAt(l []api.Item, i int) stop {
	if must(l, i) {
		return stop{must: true}
	}
	if l[i].Kind == api.ItemPenalty {
		return stop{cost: l[i].Cost}
	}
	return stop{}
}

// price tells what a line of m's items costs in width; false, if it has no room.
func (m measure) price(width int, end stop) (int, bool) {
	badness := 0
	switch {
	case m.width > width:
		if m.width-m.shrink > width {
			return 0, false
		}
		badness = fix.Badness(m.width-width, m.shrink)
	case !end.must:
		badness = fix.Badness(width-m.width, m.grow)
	}
	return fix.Demerits(badness, end.cost), true
}

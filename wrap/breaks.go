package wrap

import (
	"slices"

	"compositor/api"
	"compositor/fix"
)

// way is the one that costs the least of those that part the items up to a place into lines.
type way struct {
	end   int // the place; -1: no line yet
	cost  int
	ahead int // which way it goes on from; -1: none
}

// place is what is known of a place in items.
type place struct {
	ahead measure // of all items ahead of it
	lean  int     // how wide these are at least
	spare int     // by how much the lean of places further behind is less, at most
	box   int     // the first box at or behind it; the end, if there is none
}

// breaker looks for the way that costs the least, place by place.
type breaker struct {
	items  []api.Item
	places []place // the end too
	width  int
	ways   []way // up to each place that any way leads to
	first  int   // from which of them on a line may still come
}

// Breaks tells the places that part l into lines and cost the least; false, if none do.
func Breaks(l []api.Item, width int) ([]int, bool) {
	b := breaker{items: l, places: placesOf(l), width: width}
	b.ways = append(b.ways, way{end: -1, ahead: -1})
	for i := range len(l) + 1 {
		if Legal(l, i) {
			b.reach(i)
		}
	}
	return b.ends()
}

// lean tells how wide x is at least. A line that isn't too wide need not shrink, so shrinking below 0 is of no account.
func lean(x *api.Item) int {
	if x.Kind == api.ItemPenalty {
		return 0
	}
	return x.Width - max(x.Shrink, 0)
}

// placesOf tells what is known of each place in l.
func placesOf(l []api.Item) []place {
	places := make([]place, len(l)+1)
	for i := range l {
		places[i+1].ahead = places[i].ahead.with(&l[i])
		places[i+1].lean = places[i].lean + lean(&l[i])
	}
	places[len(l)].box = len(l)
	for i := len(l) - 1; i >= 0; i-- {
		places[i].box = places[i+1].box
		if l[i].Kind == api.ItemBox {
			places[i].box = i
		}
		places[i].spare = max(0, places[i+1].spare-lean(&l[i]))
	}
	return places
}

// reach looks for the way to the place i, where a line may end.
func (b *breaker) reach(i int) {
	b.drop(i)
	w, ok := b.cheapest(i)
	if must(b.items, i) {
		// No line goes on over it.
		b.first = len(b.ways)
	}
	if ok {
		b.ways = append(b.ways, w)
	}
}

// drop leaves the first ways out as long as no line from there has room, whether it ends at i or further behind.
func (b *breaker) drop(i int) {
	for b.first < len(b.ways) && b.past(b.ways[b.first], i) {
		b.first++
	}
}

// past tells whether each line from behind w's end to i, or further behind, has no room.
func (b *breaker) past(w way, i int) bool {
	begin := b.places[b.places[w.end+1].box]
	here := b.places[i]
	return here.lean-begin.lean-here.spare > b.width
}

// cheapest tells the way to i that costs the least, and of several such the one whose last line begins earliest.
func (b *breaker) cheapest(i int) (way, bool) {
	best := way{end: i, ahead: -1}
	end := stopAt(b.items, i)
	least := fix.Demerits(0, end.cost)
	for n := b.first; n < len(b.ways); n++ {
		w := b.ways[n]
		// Most ways are out even if nothing were bad about the line.
		if best.ahead >= 0 && w.cost+least >= best.cost {
			continue
		}
		price, ok := b.between(w.end+1, i).price(b.width, end)
		if ok && (best.ahead < 0 || w.cost+price < best.cost) {
			best.cost = w.cost + price
			best.ahead = n
		}
	}
	return best, best.ahead >= 0
}

// between tells the measure of what stands between from and to.
func (b *breaker) between(from, to int) measure {
	begin := min(b.places[from].box, to)
	return b.places[to].ahead.less(b.places[begin].ahead)
}

// ends tells where the lines of the way to the end do; false, if there is none.
func (b *breaker) ends() ([]int, bool) {
	n := len(b.ways) - 1
	if b.ways[n].end != len(b.items) {
		return nil, false
	}
	var ends []int
	for ; b.ways[n].end >= 0; n = b.ways[n].ahead {
		ends = append(ends, b.ways[n].end)
	}
	slices.Reverse(ends)
	return ends, true
}

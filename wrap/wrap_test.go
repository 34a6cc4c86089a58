package wrap_test

import (
	"math"
	"testing"

	"compositor/api"
	"compositor/wrap"
)

// Short forms of items.

func box(width int) api.Item { return api.Item{Kind: api.ItemBox, Width: width, Codes: "x"} }

func glue(width, grow, shrink int) api.Item {
	return api.Item{Kind: api.ItemGlue, Width: width, Grow: grow, Shrink: shrink}
}

func penalty(cost int) api.Item { return api.Item{Kind: api.ItemPenalty, Cost: cost} }

// forced is a penalty at which a line must end.
func forced() api.Item { return penalty(-10000) }

// odd is an item of no kind.
func odd(width, grow, shrink int) api.Item {
	return api.Item{Kind: 7, Width: width, Grow: grow, Shrink: shrink}
}

func items(l ...api.Item) []api.Item { return l }

// far is the greatest width, growth and shrinking that may be.
const far = 1 << 40

// costs are Costs at each edge.
func costs() []int {
	return []int{math.MinInt, math.MinInt + 1, -1 << 40, -1<<32 - 1, -10001, -10000, -9999, -1, 0, 1, 9999, 10000, 10001, 1 << 32, 1<<32 + 1, 1 << 40, math.MaxInt}
}

// kinds are kinds of items that there aren't, some with the number of one in their lower bits.
func kinds() []int {
	return []int{math.MinInt, -3, -2, -1, 0, 4, 5, 256 + 1, 256 + 2, 256 + 3, 1<<32 + 1, 1<<32 + 2, 1<<32 + 3, math.MaxInt}
}

// TestExample holds the chapter's example.
func TestExample(t *testing.T) {
	g := glue(12, 6, 4)
	l := items(box(40), g, box(40), g, box(40))
	ends, ok := wrap.Breaks(l, 92)
	if len(ends) != 2 || ends[0] != 3 || ends[1] != 5 || !ok {
		t.Errorf("Breaks is %v, %t", ends, ok)
	}
}

// legal is items with the places at which a line may end.
type legal struct {
	l    []api.Item
	want []int
}

// checkLegal holds Legal to examples, at all places in them and some outside, and to the model too.
func checkLegal(t *testing.T, l []legal) {
	t.Helper()
	for _, x := range l {
		heldLegal(t, x.l)
		may := map[int]bool{}
		for _, i := range x.want {
			may[i] = true
		}
		for _, i := range placesBeside(x.l) {
			if wrap.Legal(x.l, i) != may[i] {
				t.Errorf("Legal(%s, %d) is %t", shown(x.l), i, !may[i])
			}
		}
	}
}

// TestLegal holds P18.1 to places at glue, at boxes, at items of no kind, at the end and outside.
func TestLegal(t *testing.T) {
	b, g, p := box(40), glue(12, 6, 4), penalty(0)
	checkLegal(t, []legal{
		{nil, []int{0}},
		{items(), []int{0}},
		{items(b), []int{1}},
		{items(b, b), []int{2}},
		{items(g), []int{1}},
		{items(g, b), []int{2}},
		{items(b, g), []int{1, 2}},
		{items(b, g, g), []int{1, 3}},
		{items(b, g, b), []int{1, 3}},
		{items(b, g, b, g, b), []int{1, 3, 5}},
		{items(p), []int{0, 1}},
		{items(p, g), []int{0, 2}},
		{items(b, p, g), []int{1, 3}},
		{items(b, p, b), []int{1, 3}},
		{items(b, g, p), []int{1, 2, 3}},
		{items(p, p), []int{0, 1, 2}},
		{items(g, p, b), []int{1, 3}},
		{items(b, penalty(10000), g), []int{3}},
		{items(b, odd(1, 1, 1)), []int{2}},
		{items(odd(1, 1, 1), g), []int{2}},
		{items(b, odd(1, 1, 1), g), []int{3}},
		{items(b, glue(0, 0, 0)), []int{1, 2}},
		{items(b, glue(-5, -5, -5)), []int{1, 2}},
		{items(box(0), g), []int{1, 2}},
		{items(api.Item{Kind: api.ItemBox}, g), []int{1, 2}},
		// A glue's Cost is of no account.
		{items(b, api.Item{Kind: api.ItemGlue, Cost: 10000}), []int{1, 2}},
		{items(g, api.Item{Kind: api.ItemGlue, Cost: -10000}), []int{2}},
	})
}

// TestLegalCosts holds P18.1 to penalties of each Cost at an edge.
func TestLegalCosts(t *testing.T) {
	for _, cost := range costs() {
		want := []int{0, 2, 3}
		if cost >= 10000 {
			want = []int{3}
		}
		checkLegal(t, []legal{{items(penalty(cost), box(40), penalty(cost)), want}})
		// At anything else Cost is of no account.
		other := []api.Item{{Kind: api.ItemBox, Cost: cost}, {Kind: api.ItemGlue, Cost: cost}, {Kind: 7, Cost: cost}}
		checkLegal(t, []legal{{other, []int{1, 3}}})
	}
}

// TestLegalKinds holds P18.1 to items of no kind.
func TestLegalKinds(t *testing.T) {
	for _, kind := range kinds() {
		x := api.Item{Kind: kind}
		checkLegal(t, []legal{
			{items(x), []int{1}},
			{items(box(1), x), []int{2}},
			{items(x, glue(1, 1, 1)), []int{2}},
			{items(box(1), x, glue(1, 1, 1), penalty(0)), []int{3, 4}},
		})
	}
}

// span is a place in items, another one, and the width, growth and shrinking of what stands between.
type span struct {
	from, to            int
	width, grow, shrink int
}

// checkSum holds Sum to examples in l, and to the model too.
func checkSum(t *testing.T, l []api.Item, spans []span) {
	t.Helper()
	for _, x := range spans {
		heldSum(t, l, x.from, x.to)
		w, g, s := wrap.Sum(l, x.from, x.to)
		if w != x.width || g != x.grow || s != x.shrink {
			t.Errorf("Sum(%s, %d, %d) is %d, %d, %d, not %d, %d, %d", shown(l), x.from, x.to, w, g, s, x.width, x.grow, x.shrink)
		}
	}
}

// TestSum holds P18.1 to what stands between places: items ahead of the first box, and penalties, don't count.
func TestSum(t *testing.T) {
	wide := api.Item{Kind: api.ItemPenalty, Width: 100, Grow: 100, Shrink: 100}
	checkSum(t, items(box(40), glue(12, 6, 4), box(50), wide, glue(13, 7, 5), glue(14, 8, 3), box(60)), []span{
		{0, 0, 0, 0, 0},
		{0, 1, 40, 0, 0},
		{0, 2, 52, 6, 4},
		{0, 3, 102, 6, 4},
		{0, 4, 102, 6, 4},
		{0, 5, 115, 13, 9},
		{0, 6, 129, 21, 12},
		{0, 7, 189, 21, 12},
		{1, 1, 0, 0, 0},
		{1, 2, 0, 0, 0},
		{1, 3, 50, 0, 0},
		{1, 5, 63, 7, 5},
		{2, 3, 50, 0, 0},
		{2, 2, 0, 0, 0},
		{3, 4, 0, 0, 0},
		{3, 6, 0, 0, 0},
		{3, 7, 60, 0, 0},
		{4, 7, 60, 0, 0},
		{6, 7, 60, 0, 0},
		{7, 7, 0, 0, 0},
		{7, 0, 0, 0, 0},
		{3, 1, 0, 0, 0},
	})
	checkSum(t, nil, []span{{0, 0, 0, 0, 0}})
}

// TestSumWithoutBoxes holds P18.1 to ranges without a box: nothing stands there.
func TestSumWithoutBoxes(t *testing.T) {
	checkSum(t, items(glue(12, 6, 4), penalty(0), odd(5, 5, 5), glue(1, 1, 1), box(9), odd(5, 6, 7)), []span{
		{0, 1, 0, 0, 0},
		{0, 4, 0, 0, 0},
		{0, 5, 9, 0, 0},
		{0, 6, 14, 6, 7},
		{2, 3, 0, 0, 0},
		{2, 4, 0, 0, 0},
		{4, 6, 14, 6, 7},
		{5, 6, 0, 0, 0},
	})
}

// TestSumKinds holds P18.1 to items of no kind: they are no boxes, and count behind one.
func TestSumKinds(t *testing.T) {
	for _, kind := range kinds() {
		x := api.Item{Kind: kind, Width: 5, Grow: 6, Shrink: 7, Cost: 8}
		checkSum(t, items(x, box(40), x, x), []span{
			{0, 1, 0, 0, 0},
			{0, 2, 40, 0, 0},
			{0, 4, 50, 12, 14},
			{2, 4, 0, 0, 0},
		})
	}
}

// TestSumFields holds P18.1 to boxes that grow and shrink, and to widths, growths and shrinkings at both edges of what they may be, and below 0.
func TestSumFields(t *testing.T) {
	most := api.Item{Kind: api.ItemBox, Width: far, Grow: far, Shrink: far}
	least := api.Item{Kind: api.ItemBox, Width: -far, Grow: -far, Shrink: -far}
	checkSum(t, items(most, most, least, least, least), []span{
		{0, 1, far, far, far},
		{0, 2, 2 * far, 2 * far, 2 * far},
		{0, 4, 0, 0, 0},
		{0, 5, -far, -far, -far},
		{2, 5, -3 * far, -3 * far, -3 * far},
	})
	checkSum(t, items(box(1), glue(far, -far, far), glue(-far, far, 1)), []span{
		{0, 2, far + 1, -far, far},
		{0, 3, 1, 0, far + 1},
	})
	checkSum(t, items(box(-7), glue(-3, -2, -1)), []span{{0, 1, -7, 0, 0}, {0, 2, -10, -2, -1}})
}

// TestSumOutside holds that Sum ends beside the places that it is asked of.
func TestSumOutside(t *testing.T) {
	l := items(glue(1, 1, 1), box(40), glue(12, 6, 4))
	for _, from := range placesBeside(l) {
		for _, to := range placesBeside(l) {
			wrap.Sum(l, from, to)
			wrap.Sum(nil, from, to)
			wrap.Price(l, from, to, 50)
			wrap.Price(nil, from, to, 50)
		}
	}
}

// line is a place in items, another one, a width, and what the line costs there; -1: it can't be.
type line struct {
	from, to, width int
	price           int
}

// none is the price of a line that can't be.
const none = -1

// checkPrice holds Price to examples in l, and to the model too.
func checkPrice(t *testing.T, l []api.Item, lines []line) {
	t.Helper()
	for _, x := range lines {
		heldPrice(t, l, x.from, x.to, x.width)
		got, ok := wrap.Price(l, x.from, x.to, x.width)
		if !ok && got == 0 {
			got = none
		}
		if got != x.price || ok != (x.price != none) {
			t.Errorf("Price(%s, %d, %d, %d) is %d, %t, not %d", shown(l), x.from, x.to, x.width, got, ok, x.price)
		}
	}
}

// TestPrice holds P18.1 to lines that are too wide, too narrow, and neither.
func TestPrice(t *testing.T) {
	g := glue(12, 6, 4)
	checkPrice(t, items(box(40), g, box(40), g, box(40)), []line{
		{0, 3, 92, 100},
		{0, 3, 98, 110 * 110}, // as much too narrow as it grows: 100 is bad
		{0, 3, 95, 22 * 22},   // half of that: 148^3 by 2^18
		{0, 3, 93, 100},
		{0, 3, 104, 810 * 810},   // twice as much
		{0, 3, 118, 8142 * 8142}, // 1287^3, the last one that isn't the worst
		{0, 3, 119, 10010 * 10010},
		{0, 3, 1000, 10010 * 10010},
		{0, 3, far, 10010 * 10010},
		{0, 3, 91, 12 * 12}, // 74^3 by 2^18 is 2
		{0, 3, 90, 22 * 22},
		{0, 3, 89, 52 * 52}, // 222^3 by 2^18 is 42
		{0, 3, 88, 110 * 110},
		{0, 3, 87, none},
		{0, 3, 0, none},
		{0, 3, -far, none},
		{0, 1, 40, 100},
		{0, 1, 41, 10010 * 10010},
		{0, 1, 39, none},
	})
}

// TestPriceAtTheEnd holds P18.1 to lines that must end: they aren't bad, however narrow, but where they are too wide.
func TestPriceAtTheEnd(t *testing.T) {
	g := glue(12, 6, 4)
	for _, l := range [][]api.Item{
		items(box(40), g, box(40)),
		items(box(40), g, box(40), forced()),
		items(box(40), g, box(40), penalty(-10001)),
		items(box(40), g, box(40), penalty(math.MinInt), box(9)),
		items(box(40), g, box(40), forced(), forced()),
	} {
		checkPrice(t, l, []line{
			{0, 3, far, 100},
			{0, 3, 1000, 100},
			{0, 3, 93, 100},
			{0, 3, 92, 100},
			{0, 3, 91, 12 * 12},
			{0, 3, 88, 110 * 110},
			{0, 3, 87, none},
			{2, 3, 40, 100},
			{2, 3, 39, none},
			{3, 3, 0, 100},
			{3, 3, 50, 100},
			{3, 3, -1, none},
		})
	}
}

// TestPriceOfCosts holds P18.1 to lines that end at penalties of each Cost.
func TestPriceOfCosts(t *testing.T) {
	for _, x := range []struct{ cost, price int }{
		{math.MinInt, 100}, {-1 << 40, 100}, {-10001, 100}, {-10000, 100},
		{-9999, 100 - 9999*9999}, {-50, 100 - 2500}, {-1, 99}, {0, 100}, {1, 101}, {50, 100 + 2500},
		{9999, 100 + 9999*9999}, {10000, 100 + 10000*10000}, {10001, 100 + 10000*10000}, {math.MaxInt, 100 + 10000*10000},
	} {
		l := items(box(40), penalty(x.cost), box(40))
		checkPrice(t, l, []line{{0, 1, 40, x.price}})
		narrow := x.price - 100 + 10010*10010
		if x.cost <= -10000 {
			narrow = 100
		}
		checkPrice(t, l, []line{{0, 1, 41, narrow}, {0, 1, 39, none}})
		// What isn't a penalty has no Cost, and what stands in the line has none.
		other := []api.Item{{Kind: api.ItemBox, Width: 40, Cost: x.cost}, {Kind: api.ItemGlue, Width: 1, Cost: x.cost}, {Kind: 7, Cost: x.cost}}
		checkPrice(t, other, []line{{0, 0, 0, 100}, {0, 1, 40, 100}, {0, 2, 41, 100}, {0, 3, 41, 100}})
	}
}

// TestPriceOverForced holds P18.1 to lines that must end ahead of where they do: from their beginning on, though nothing stands there.
func TestPriceOverForced(t *testing.T) {
	b, g := box(40), glue(12, 6, 4)
	for _, cost := range costs() {
		over := 10010 * 10010
		if cost <= -10000 {
			over = none
		}
		checkPrice(t, items(b, penalty(cost), b, g, b), []line{
			{0, 3, 100, over},
			{1, 3, 100, over},
			{2, 3, 100, 10010 * 10010},
		})
		checkPrice(t, items(g, penalty(cost), g, b, g), []line{
			{0, 4, 100, over},
			{1, 4, 100, over},
			{2, 4, 100, 10010 * 10010},
			{0, 0, 0, 100},
		})
	}
	checkPrice(t, items(b, forced(), forced(), b, forced()), []line{
		{0, 1, 50, 100},
		{1, 1, 50, 100},
		{1, 2, 50, none},
		{2, 2, 50, 100},
		{2, 3, 50, none},
		{3, 4, 50, 100},
		{3, 5, 50, none},
		{5, 5, 50, 100},
		{5, 5, 0, 100},
		{5, 5, -1, none},
		{4, 1, 50, 100},
	})
}

// TestPriceOfNothing holds P18.1 to lines in which nothing stands.
func TestPriceOfNothing(t *testing.T) {
	checkPrice(t, nil, []line{{0, 0, 0, 100}, {0, 0, 1, 100}, {0, 0, far, 100}, {0, 0, -1, none}, {0, 0, -far, none}})
	checkPrice(t, items(glue(12, 6, 4), odd(5, 5, 5), penalty(50), box(7)), []line{
		{0, 0, 0, 100},
		{0, 1, 0, 100},
		{0, 2, 0, 100 + 2500},
		{0, 2, 1, 10010*10010 + 2500},
		{0, 2, -1, none},
		{0, 3, 0, 100},
		{0, 3, 1, 10010 * 10010},
		{0, 4, 6, none},
		{0, 4, 7, 100},
	})
}

// TestPriceGrowth holds P18.1 to growth and shrinking of 0 and below.
func TestPriceGrowth(t *testing.T) {
	worst := 10010 * 10010
	b := box(40)
	checkPrice(t, items(b, glue(12, 0, 0), b, penalty(0)), []line{
		{0, 3, 91, none}, {0, 3, 92, 100}, {0, 3, 93, worst},
	})
	checkPrice(t, items(b, glue(12, -6, -4), b, penalty(0)), []line{
		{0, 3, 91, none}, {0, 3, 92, 100}, {0, 3, 93, worst}, {0, 3, 96, worst}, {0, 3, 100, worst},
	})
	checkPrice(t, items(b, glue(12, -1, -1), glue(0, 2, 2), b, penalty(0)), []line{
		{0, 4, 90, none}, {0, 4, 91, 110 * 110}, {0, 4, 92, 100}, {0, 4, 93, 110 * 110},
	})
	// Shrinking below 0 makes nothing wider, as long as there is room.
	checkPrice(t, items(b, glue(12, 6, -500), b), []line{{0, 3, 92, 100}, {0, 3, 91, none}, {0, 3, 600, 100}})
	checkPrice(t, items(b, glue(-12, 6, 4), b, penalty(0)), []line{
		{0, 3, 63, none}, {0, 3, 64, 110 * 110}, {0, 3, 68, 100}, {0, 3, 74, 110 * 110},
	})
	checkPrice(t, items(box(-40), penalty(0)), []line{{0, 1, -41, none}, {0, 1, -40, 100}, {0, 1, 0, worst}})
}

// TestPriceEdges holds P18.1 to widths, growths and shrinkings at both edges of what they may be.
func TestPriceEdges(t *testing.T) {
	worst := 10010 * 10010
	checkPrice(t, items(box(far), penalty(0), box(far)), []line{
		{0, 1, far, 100}, {0, 1, far - 1, none}, {0, 2, far, 100}, {0, 3, far, none},
	})
	checkPrice(t, items(box(-far), penalty(0), box(-far)), []line{
		{0, 1, -far, 100}, {0, 1, far, worst}, {0, 3, -far, 100}, {0, 3, far, 100},
	})
	checkPrice(t, items(box(far), glue(far, far, far), penalty(0)), []line{
		{0, 2, far - 1, none}, {0, 2, far, 110 * 110},
	})
	checkPrice(t, items(box(-far), glue(-far, far, -far), penalty(0)), []line{
		{0, 2, -2*far - 1, none}, {0, 2, -2 * far, 100}, {0, 2, -far - 1, 109 * 109}, {0, 2, -far, 110 * 110}, {0, 2, far, 2708 * 2708},
	})
	checkPrice(t, items(box(0), glue(0, far, far), penalty(0)), []line{
		{0, 2, far, 110 * 110}, {0, 2, -far, 110 * 110}, {0, 2, -far - 1, none}, {0, 2, 0, 100},
	})
}

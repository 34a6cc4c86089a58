package wrap_test

import (
	"math"
	"slices"
	"testing"

	"compositor/api"
	"compositor/item"
	"compositor/plain"
	"compositor/tree"
	"compositor/wrap"
)

// broken is items with a width, the places that part them and cost the least, and what these cost; -1: there is no way.
type broken struct {
	l     []api.Item
	width int
	ends  []int
	cost  int
}

// checkBreaks holds Breaks and Cost to examples, and to the model too.
func checkBreaks(t *testing.T, l []broken) {
	t.Helper()
	for _, x := range l {
		ends, ok := heldBreaks(t, x.l, x.width, breaksAsked)
		if !slices.Equal(ends, x.ends) || ok != (x.cost != none) {
			t.Errorf("Breaks(%s, %d) is %v, %t, not %v", shown(x.l), x.width, ends, ok, x.ends)
		}
		if cost, _ := wrap.Cost(x.l, ends, x.width); ok && cost != x.cost {
			t.Errorf("Breaks(%s, %d) costs %d, not %d", shown(x.l), x.width, cost, x.cost)
		}
	}
}

// words tells boxes of that width, with a glue between each two.
func words(count, width int, g api.Item) []api.Item {
	var l []api.Item
	for i := range count {
		if i > 0 {
			l = append(l, g)
		}
		l = append(l, box(width))
	}
	return l
}

// TestBreaks holds P18.2 to widths that are just enough, one too small, just enough once all shrinks, and one below that.
func TestBreaks(t *testing.T) {
	three := words(3, 40, glue(12, 6, 4))
	checkBreaks(t, []broken{
		{three, far, []int{5}, 100},
		{three, 145, []int{5}, 100},
		{three, 144, []int{5}, 100},
		{three, 143, []int{5}, 100}, // 37^3 is less than half of 2^18
		{three, 137, []int{5}, 76 * 76},
		{three, 136, []int{5}, 110 * 110},
		{three, 135, []int{1, 5}, 10010*10010 + 100}, // two in the first line cost as much
		{three, 119, []int{1, 5}, 10010*10010 + 100},
		{three, 118, []int{3, 5}, 8142*8142 + 100},
		{three, 98, []int{3, 5}, 110*110 + 100},
		{three, 92, []int{3, 5}, 200},
		{three, 88, []int{3, 5}, 110*110 + 100},
		{three, 87, []int{1, 3, 5}, 2*10010*10010 + 100},
		{three, 41, []int{1, 3, 5}, 2*10010*10010 + 100},
		{three, 40, []int{1, 3, 5}, 300},
		{three, 39, nil, none},
		{three, 30, nil, none},
		{three, 0, nil, none},
		{three, -1, nil, none},
		{three, -far, nil, none},
	})
}

// TestBreaksOfNothing holds P18.2 to items of which nothing stands anywhere: the end is a place where a line ends.
func TestBreaksOfNothing(t *testing.T) {
	for _, l := range [][]api.Item{nil, items(), items(glue(12, 6, 4)), items(odd(1, 1, 1)), items(penalty(10000)), items(penalty(0)), items(penalty(9999), glue(5, 5, 5))} {
		checkBreaks(t, []broken{
			{l, far, []int{len(l)}, 100},
			{l, 1, []int{len(l)}, 100},
			{l, 0, []int{len(l)}, 100},
			{l, -1, nil, none},
			{l, -far, nil, none},
		})
	}
}

// TestBreaksWhereItMust holds P18.2 to places where a line must end: ahead of the end, at the end, first of all, and side by side.
func TestBreaksWhereItMust(t *testing.T) {
	b, g, f := box(40), glue(12, 6, 4), forced()
	checkBreaks(t, []broken{
		{items(b, f, b), 100, []int{1, 3}, 200},
		{items(b, g, b, f, b, g, b), 1000, []int{3, 7}, 200},
		{items(b, f), 100, []int{1, 2}, 200},
		{items(f, b), 100, []int{0, 2}, 200},
		{items(f), 100, []int{0, 1}, 200},
		{items(f, f), 0, []int{0, 1, 2}, 300},
		{items(f), -1, nil, none},
		{items(b, f, f, b), 100, []int{1, 2, 4}, 300},
		{items(b, f, f), 100, []int{1, 2, 3}, 300},
		{items(b, f, g, b), 100, []int{1, 4}, 200},
		{items(b, g, f, b), 100, []int{2, 4}, 200},
		{items(b, f, b, f, b), 39, nil, none},
		{items(b, f, box(41)), 40, nil, none},
		{items(box(41), f, b), 40, nil, none},
		{items(b, penalty(math.MinInt), b, penalty(-10001), b), 100, []int{1, 3, 5}, 300},
		// One more line ahead of it is worth what its end is.
		{items(b, penalty(-9999), f, b), 40, []int{1, 2, 4}, 100 - 9999*9999 + 100 + 100},
	})
}

// TestBreaksAtPenalties holds P18.2 to penalties, and to the ends that cost less than nothing.
func TestBreaksAtPenalties(t *testing.T) {
	b, g := box(40), glue(12, 6, 4)
	checkBreaks(t, []broken{
		{items(b, penalty(0), b), 80, []int{3}, 100},
		{items(b, penalty(0), b), 40, []int{1, 3}, 200},
		{items(b, penalty(50), b), 40, []int{1, 3}, 200 + 2500},
		{items(b, penalty(9999), b), 40, []int{1, 3}, 200 + 9999*9999},
		{items(b, penalty(10000), b), 40, nil, none},
		{items(b, penalty(10000), b), 80, []int{3}, 100},
		{items(b, penalty(-10), b), 80, []int{3}, 100},
		{items(b, penalty(-11), b), 80, []int{3}, 100},
		{items(b, penalty(-9999), b), 80, []int{3}, 100},
		{items(b, penalty(-9999), b), 40, []int{1, 3}, 200 - 9999*9999},
		{items(b, g, b, penalty(-11), b), 92, []int{3, 5}, 200 - 121},
		{items(b, penalty(-10), penalty(-11), b), 40, []int{2, 4}, 200 - 121},
		{items(b, penalty(-11), penalty(-10), b), 40, []int{1, 4}, 200 - 121},
	})
	// Ends side by side, of which each takes more off than an empty line costs, or just as much.
	checkBreaks(t, []broken{
		{items(b, penalty(-20), penalty(-20), penalty(-20), box(0)), 40, []int{1, 5}, 100 - 400 + 100},
		{items(box(0), penalty(-20), penalty(-20), penalty(-20), box(0)), 0, []int{1, 2, 3, 5}, 3*(100-400) + 100},
		{items(box(0), penalty(-10), penalty(-10), penalty(-10), box(0)), 0, []int{5}, 100},
	})
}

// TestBreaksWhole holds P18.3: the first line isn't taken as full as it may be, where those behind it cost more then.
func TestBreaksWhole(t *testing.T) {
	g := glue(10, 10, 3)
	l := items(box(30), g, box(30), g, box(20), g, box(60), g, box(75), g, box(10))
	checkBreaks(t, []broken{{l, 100, []int{3, 7, 11}, 2708*2708 + 110*110 + 100}})
	if full, ok := heldCost(t, l, []int{5, 7, 11}, 100); full != 100+10010*10010+100 || !ok {
		t.Errorf("with a full first line it costs %d", full)
	}
}

// TestTies holds P18.2 to ways that cost the same: the one is told whose last line begins earliest, of these the one whose last but one does, and so on.
func TestTies(t *testing.T) {
	stiff := glue(0, 0, 0)
	worst := 10010 * 10010
	checkBreaks(t, []broken{
		// Two boxes have room in a line: the last line has two, and so has the last but one.
		{words(2, 20, stiff), 50, []int{3}, 100},
		{words(3, 20, stiff), 50, []int{1, 5}, worst + 100},
		{words(4, 20, stiff), 50, []int{3, 7}, worst + 100},
		{words(5, 20, stiff), 50, []int{1, 5, 9}, 2*worst + 100},
		{words(7, 20, stiff), 50, []int{1, 5, 9, 13}, 3*worst + 100},
		// Three have.
		{words(4, 20, stiff), 70, []int{1, 7}, worst + 100},
		{words(5, 20, stiff), 70, []int{3, 9}, worst + 100},
		{words(7, 20, stiff), 70, []int{1, 7, 13}, 2*worst + 100},
		{words(8, 20, stiff), 70, []int{3, 9, 15}, 2*worst + 100},
	})
	// Where one more line costs nothing, the fewest lines are those whose last one begins earliest.
	free := penalty(-10)
	checkBreaks(t, []broken{
		{items(box(0), free, box(0), free, box(0)), 0, []int{5}, 100},
		{items(box(0), forced(), box(0), free, box(0), free, box(0)), 0, []int{1, 7}, 200},
		{items(box(5), free, box(5), free, box(5)), 10, []int{3, 5}, 100},
		{items(box(5), penalty(-10), penalty(-10), box(5)), 5, []int{1, 4}, 100},
	})
}

// TestTiesInTheMiddle holds P18.2 to ways whose last lines begin alike, but the ones ahead don't.
func TestTiesInTheMiddle(t *testing.T) {
	stiff := glue(0, 0, 0)
	worst := 10010 * 10010
	l := append(words(3, 20, stiff), stiff, box(50))
	l = append(l, forced())
	// The fourth box fills a line; of the three ahead of it one stands in the first line, or two do.
	checkBreaks(t, []broken{{l, 50, []int{1, 5, 7, 8}, 2*worst + 200}})
	l = append(words(3, 20, stiff), forced())
	l = append(l, words(3, 20, stiff)...)
	checkBreaks(t, []broken{{l, 50, []int{1, 5, 7, 11}, 2*worst + 200}})
}

// TestBreaksNegative holds P18.2 to widths below 0: a line that has no room has it again further on.
func TestBreaksNegative(t *testing.T) {
	g := glue(0, 0, 0)
	checkBreaks(t, []broken{
		{items(box(100), g, box(-90)), 10, []int{3}, 100},
		{items(box(100), g, box(-89)), 10, nil, none},
		{items(box(10), g, box(100), g, box(-90), g, box(-10)), 10, []int{7}, 100},
		{items(box(10), g, box(100), g, box(-90), g, box(0)), 10, []int{1, 7}, 200},
		{items(box(10), g, box(100), forced(), box(-90)), 10, nil, none},
		{items(box(100), penalty(0), glue(-95, 0, 0), box(5)), 10, []int{4}, 100},
		{items(box(5), glue(-9, 0, 0), box(0)), -4, []int{3}, 100},
		{items(box(-5), g, box(-5)), -5, []int{3}, 100},
		{items(box(-5), g, box(-5)), -6, []int{3}, 100},
		{items(box(-5), g, box(-5)), -11, nil, none},
		{items(box(-5), g, box(1)), -5, nil, none},
		// What shrinks more than it is wide makes room for what stood ahead.
		{items(box(100), g, box(50), glue(10, 0, 150), box(0)), 10, []int{5}, 110 * 110},
		{items(box(100), glue(0, 0, -50), box(50), glue(0, 0, 190), box(0)), 10, []int{5}, 110 * 110},
		// As what shrinks by less than nothing does, where it goes.
		{items(box(5), glue(0, 0, -50), box(5), g, box(0)), 10, []int{5}, 100},
	})
}

// TestBreaksFirstBox holds P18.2 to lines ahead of whose first box other items stand.
func TestBreaksFirstBox(t *testing.T) {
	b, g := box(40), glue(12, 6, 4)
	checkBreaks(t, []broken{
		{items(g, g, b), 40, []int{3}, 100},
		{items(odd(90, 0, 0), b), 40, []int{2}, 100},
		{items(b, odd(90, 0, 0)), 40, nil, none},
		{items(b, odd(90, 0, 0)), 130, []int{2}, 100},
		{items(b, odd(90, 0, 0), b), 40, nil, none},
		{items(b, g, odd(90, 0, 0), b), 40, []int{1, 4}, 200},
		{items(b, penalty(0), g, g, odd(9, 9, 9), penalty(10000), b), 40, []int{1, 7}, 200},
		{items(b, g, g, g), 40, []int{1, 4}, 200},
		{items(penalty(0), penalty(0), b), 40, []int{3}, 100},
		{items(penalty(-50), b), 40, []int{2}, 100},
		{items(penalty(-50), b), 0, nil, none},
		{items(penalty(-50), box(0)), 0, []int{0, 2}, 100 - 2500 + 100},
	})
}

// TestBreaksEdges holds P18.2 to widths, growths and shrinkings at both edges of what they may be.
func TestBreaksEdges(t *testing.T) {
	worst := 10010 * 10010
	checkBreaks(t, []broken{
		{words(3, far, glue(far, far, far)), far, []int{1, 3, 5}, 300},
		{words(2, far, glue(0, 0, far)), far, []int{1, 3}, 200},
		{words(2, far, glue(far, far, far)), far, []int{1, 3}, 200},
		{items(box(far), glue(0, 0, far), glue(far, 0, 0), penalty(0), box(0)), far, []int{1, 5}, 200},
		{items(box(far), odd(far, 0, far)), far, []int{2}, 110 * 110},
		{words(3, far, glue(-far, 0, 0)), far, []int{5}, 100},
		{words(4, far, glue(-far, -far, -far)), far, []int{7}, 100},
		{words(2, far, glue(0, 0, 0)), far - 1, nil, none},
		{words(3, -far, glue(far, far, far)), -far, []int{5}, 100},
		{words(3, -far, glue(-far, -far, -far)), -far, []int{5}, 100},
		{words(3, 0, glue(0, far, far)), -far, []int{5}, 22 * 22},
		{words(2, 0, glue(0, far, far)), -far, []int{3}, 110 * 110},
		{items(box(0), penalty(9999), box(far)), far, []int{3}, 100},
		{items(box(1), penalty(9999), box(far)), far, []int{1, 3}, worst + 9999*9999 + 100},
	})
}

// TestBreaksShort holds P18.2 and P18.3 to all lists of up to four items of nine, in several widths: all calls at all places.
func TestBreaksShort(t *testing.T) {
	pieces := items(box(4), box(0), glue(2, 1, 1), glue(1, 3, -2), penalty(0), penalty(-50), penalty(10000), forced(), odd(2, 1, 2))
	widths := []int{-1, 0, 3, 4, 5, 9, 30}
	var all func(l []api.Item, most int)
	all = func(l []api.Item, most int) {
		heldAll(t, l, widths)
		if most == 0 || t.Failed() {
			return
		}
		for _, x := range pieces {
			all(append(slices.Clip(l), x), most-1)
		}
	}
	all(nil, 4)
}

// TestBreaksShortTies holds P18.2 to all lists of up to seven items of four, of which many ways cost the same.
func TestBreaksShortTies(t *testing.T) {
	pieces := items(box(4), glue(0, 0, 0), penalty(-10), penalty(0))
	var all func(l []api.Item, most int)
	all = func(l []api.Item, most int) {
		for _, width := range []int{0, 4, 9} {
			heldBreaks(t, l, width, breaksAsked)
		}
		if most == 0 || t.Failed() {
			return
		}
		for _, x := range pieces {
			all(append(slices.Clip(l), x), most-1)
		}
	}
	all(nil, 7)
}

// items tells so many items, mixed; a few of them are strange.
func (c *chance) items(count int) []api.Item {
	var l []api.Item
	for range count {
		switch c.below(12) {
		case 0, 1, 2, 3:
			l = append(l, box(one(c, []int{0, 5, 10, 20, 20, 30, 40, 75})))
		case 4, 5, 6, 7:
			l = append(l, one(c, items(glue(10, 5, 3), glue(10, 5, 3), glue(10, 0, 0), glue(0, 0, 0), glue(-4, 2, 30))))
		case 8:
			l = append(l, penalty(one(c, []int{0, 0, -10, 50, 500, -500, 9999, -9999, 10000, 10001})))
		case 9:
			l = append(l, penalty(one(c, []int{0, -10, -10000, -10001})))
		case 10:
			l = append(l, api.Item{Kind: c.below(5), Width: c.below(30) - 9, Grow: c.below(9) - 3, Shrink: c.below(9) - 3, Cost: c.below(99) - 50})
		default:
			l = append(l, box(one(c, []int{-10, -40, 15, 33})))
		}
	}
	return l
}

// TestBreaksMixed holds all promises to short mixed lists, all calls at all places.
func TestBreaksMixed(t *testing.T) {
	c := chance(20261127)
	for range 4000 {
		l := c.items(c.below(11))
		heldAll(t, l, []int{c.below(120) - 20, c.below(60), far})
		if t.Failed() {
			return
		}
	}
}

// TestBreaksLongMixed holds P18.2 and P18.3 to longer mixed lists, and to those of boxes and glue in turn.
func TestBreaksLongMixed(t *testing.T) {
	c := chance(20261128)
	for n := range 3000 {
		l := c.items(c.below(60))
		if n%2 == 0 {
			l = nil
			for range c.below(30) {
				l = append(l, box(10*c.below(5)), one(&c, items(glue(10, 5, 3), glue(10, 0, 0), penalty(0), penalty(50))))
			}
		}
		heldBreaks(t, l, one(&c, []int{30, 40, 75, 90, 100, 150, 400}), longBreaksAsked)
		if t.Failed() {
			return
		}
	}
}

// TestBreaksExtreme holds all promises to items with widths, growths, shrinkings and Costs at the edges of what they may be.
func TestBreaksExtreme(t *testing.T) {
	c := chance(20261129)
	edges := []int{-far, -far + 1, -1, 0, 1, far - 1, far}
	for range 4000 {
		var l []api.Item
		for range c.below(9) {
			kind := one(&c, []int{1, 1, 1, 2, 2, 2, 3, one(&c, kinds())})
			l = append(l, api.Item{Kind: kind, Width: one(&c, edges), Grow: one(&c, edges), Shrink: one(&c, edges), Cost: one(&c, costs())})
		}
		heldAll(t, l, edges)
		if t.Failed() {
			return
		}
	}
}

// TestBreaksAnyNumbers holds P1 to numbers beyond those of which the calls are asked.
func TestBreaksAnyNumbers(t *testing.T) {
	c := chance(20261130)
	edges := []int{math.MinInt, math.MinInt + 1, -1 << 62, -1, 0, 1, 1 << 62, math.MaxInt}
	for range 20000 {
		var l []api.Item
		for range c.below(7) {
			l = append(l, api.Item{Kind: one(&c, []int{1, 2, 3, 0}), Width: one(&c, edges), Grow: one(&c, edges), Shrink: one(&c, edges), Cost: one(&c, edges)})
		}
		width := one(&c, edges)
		ends, _ := wrap.Breaks(l, width)
		wrap.Cost(l, ends, width)
		wrap.Sum(l, 0, len(l))
		wrap.Price(l, 0, len(l), width)
	}
	for _, width := range edges {
		l := words(3, 40, glue(12, 6, 4))
		heldAll(t, l, []int{width})
		heldAll(t, nil, []int{width})
	}
}

// TestBreaksDocuments holds P18.3 to items of texts.
func TestBreaksDocuments(t *testing.T) {
	doc, _ := tree.Parse("A *few* words that are **set** in lines,  \nsome [of them](/u) `in other fonts`,\nand broken where that costs the least.\n")
	spans := tree.Leaves(doc)[0].Spans
	if plain.Spans(spans) == "" {
		t.Fatal("there is no text")
	}
	made, _ := item.Make(spans, api.FontPlain, 10000, 1)
	for width := 10000; width < 400000; width += 7770 {
		l := item.Split(made, width)
		if _, ok := heldBreaks(t, l, width, longBreaksAsked); !ok {
			t.Errorf("in %d there is no way", width)
		}
	}
}

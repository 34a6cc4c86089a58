package set_test

import (
	"slices"
	"testing"

	"compositor/api"
	"compositor/item"
	"compositor/plain"
	"compositor/tree"
	"compositor/wrap"
)

// parting is ends, and where the boxes of each line stand.
type parting struct {
	ends []int
	want [][]int
}

// checkLines holds Lines, from 5 on, in 100, to examples, and to the model too.
func checkLines(t *testing.T, l []api.Item, partings []parting) {
	t.Helper()
	for _, p := range partings {
		var got [][]int
		for _, runs := range heldLines(t, l, p.ends, 5, 100) {
			got = append(got, places(runs))
		}
		if !slices.EqualFunc(got, p.want, slices.Equal[[]int]) {
			t.Errorf("the lines of %s that end at %v stand at %v, not %v", shown(l), p.ends, got, p.want)
		}
	}
}

// lines is a list of lists of places.
func lines(l ...[]int) [][]int { return l }

// TestLinesRise holds P19.1 to ends that rise: in the items, at their end, and beyond it.
func TestLinesRise(t *testing.T) {
	one, inner, final := at(5), at(5, 65), at(5, 57)
	checkLines(t, words(4, 40, glue(12, 6, 4)), []parting{
		{nil, nil},
		{[]int{}, nil},
		{[]int{0}, lines(nil)},
		{[]int{3}, lines(inner)},
		{[]int{5}, lines(at(5, 35, 65))},
		{[]int{6}, lines(at(5, 39, 72))},
		{[]int{7}, lines(at(5, 25, 45, 65))},
		{[]int{0, 3}, lines(nil, one)},
		{[]int{3, 6}, lines(inner, one)},
		{[]int{3, 7}, lines(inner, final)},
		{[]int{3, 8}, lines(inner, final)},
		{[]int{3, far}, lines(inner, final)},
		{[]int{3, far - 1, far}, lines(inner, final, nil)},
		{[]int{3, 7, 8, far}, lines(inner, final, nil, nil)},
		{[]int{1, 3, 5, 7}, lines(one, one, one, one)},
		{[]int{1, 5, 7}, lines(one, inner, one)},
		{[]int{1, 5}, lines(one, inner)},
	})
}

// TestLinesBeside holds P19.1 to ends that stand side by side, and that come twice: nothing stands in a line that ends where it begins, or ahead of that.
func TestLinesBeside(t *testing.T) {
	one, inner, final := at(5), at(5, 65), at(5, 57)
	checkLines(t, words(4, 40, glue(12, 6, 4)), []parting{
		{[]int{0, 1, 2, 3}, lines(nil, nil, nil, nil)},
		{[]int{2, 3, 4, 5}, lines(one, nil, nil, nil)},
		{[]int{3, 4, 7}, lines(inner, nil, one)},
		{[]int{5, 6}, lines(at(5, 35, 65), nil)},
		{[]int{6, 7}, lines(at(5, 39, 72), nil)},
		{[]int{0, 0, 3}, lines(nil, nil, one)},
		{[]int{3, 3, 7}, lines(inner, nil, final)},
		{[]int{3, 3, 3, 3}, lines(inner, nil, nil, nil)},
		{[]int{3, 7, 7}, lines(inner, final, nil)},
		{[]int{far, far}, lines(at(5, 25, 45, 65), nil)},
	})
}

// TestLinesFall holds P19.1 to ends that fall: the line behind begins right behind the one ahead, wherever that is; and to those below 0, as which 0 counts there.
func TestLinesFall(t *testing.T) {
	one, inner, final, whole := at(5), at(5, 65), at(5, 57), at(5, 25, 45, 65)
	checkLines(t, words(4, 40, glue(12, 6, 4)), []parting{
		{[]int{3, 1, 5}, lines(inner, nil, inner)},
		{[]int{3, 0, 3}, lines(inner, nil, one)},
		{[]int{5, 3, 7}, lines(at(5, 35, 65), nil, final)},
		{[]int{7, 3, 1}, lines(whole, nil, nil)},
		{[]int{far, 3, 7}, lines(whole, nil, final)},
		{[]int{3, -1, 3}, lines(inner, nil, inner)},
		{[]int{3, -far, 3, -2, 7}, lines(inner, nil, inner, nil, whole)},
		{[]int{far, -far, 3}, lines(whole, nil, inner)},
		{[]int{-1}, lines(nil)},
		{[]int{-far}, lines(nil)},
		{[]int{-1, 0}, lines(nil, nil)},
		{[]int{-1, 3, 7}, lines(nil, inner, final)},
		{[]int{-2, 3, 7}, lines(nil, inner, final)},
		{[]int{-far, 3, 7}, lines(nil, inner, final)},
		{[]int{-far, -far + 1, -2, -1, 3}, lines(nil, nil, nil, nil, inner)},
	})
}

// TestLinesOfNothing holds P19.1 to no items: at each of the ends is a line without runs.
func TestLinesOfNothing(t *testing.T) {
	for _, l := range [][]api.Item{nil, items(), items(glue(12, 6, 4)), items(forced(), odd(9, 9, 9))} {
		checkLines(t, l, []parting{
			{nil, nil},
			{[]int{}, nil},
			{[]int{0}, lines(nil)},
			{[]int{-1}, lines(nil)},
			{[]int{0, 1, 1, 2, -1, far, -far, 0}, lines(nil, nil, nil, nil, nil, nil, nil, nil)},
		})
	}
}

// TestLinesAtPenalties holds P19.1 to lines that end at penalties of each Cost: the ones at which a line must end make it a last one.
func TestLinesAtPenalties(t *testing.T) {
	b, g := box(40), glue(12, 6, 4)
	for _, cost := range costs() {
		want := at(5, 65)
		if cost <= -10000 {
			want = at(5, 57)
		}
		l := items(b, g, b, penalty(cost), b, g, b, penalty(cost))
		checkLines(t, l, []parting{
			{[]int{3, 7}, lines(want, want)},
			{[]int{3, 7, 8}, lines(want, want, nil)},
			{[]int{3, 8}, lines(want, at(5, 57))},
			// It ends right ahead of the penalty, or behind it.
			{[]int{3, 6}, lines(want, at(5))},
			{[]int{2, 4}, lines(at(5), nil)},
			{[]int{-1, 3}, lines(nil, want)},
		})
		// A line that is too wide shrinks at any.
		checkLines(t, items(box(44), g, box(48), penalty(cost)), []parting{{[]int{3}, lines(at(5, 57))}})
		// What isn't a penalty has no Cost.
		for _, kind := range append(kinds(), api.ItemBox, api.ItemGlue) {
			checkLines(t, items(b, g, b, api.Item{Kind: kind, Cost: cost}, b), []parting{{[]int{3, 5}, lines(at(5, 65), at(5))}})
		}
		// Nor is what stands in the line of account.
		checkLines(t, items(penalty(cost), b, penalty(cost), g, penalty(cost), b, penalty(cost), penalty(0)), []parting{
			{[]int{7}, lines(at(5, 65))},
			{[]int{8}, lines(at(5, 57))},
		})
	}
}

// TestShort holds P19.1 to all lists of up to four items of ten, at all places, in several widths.
func TestShort(t *testing.T) {
	pieces := items(box(4), as(box(1), 2, 3), glue(2, 1, 1), glue(1, 3, -2), glue(3, -1, 2), penalty(0), forced(), as(penalty(50), 7, 7), odd(2, 1, 2), odd(-3, 0, 0))
	var all func(l []api.Item, most int)
	all = func(l []api.Item, most int) {
		heldAll(t, l, 3, []int{-2, 5, 13})
		if most == 0 || t.Failed() {
			return
		}
		for _, x := range pieces {
			all(append(slices.Clip(l), x), most-1)
		}
	}
	all(nil, 4)
}

// TestLinesShort holds P19.1 to all lists of up to four ends in and beside some items.
func TestLinesShort(t *testing.T) {
	g := glue(2, 3, 1)
	for _, l := range [][]api.Item{
		nil,
		items(box(4), g),
		items(forced(), box(4)),
		items(box(4), penalty(5), g, box(3)),
		items(box(4), g, box(4), forced()),
		items(g, box(4), g, box(9), penalty(-10001), box(2)),
	} {
		var all func(ends []int, most int)
		all = func(ends []int, most int) {
			for _, width := range []int{0, 9, 50} {
				heldLines(t, l, ends, 7, width)
			}
			for to := -2; most > 0 && to <= len(l)+1; to++ {
				all(append(slices.Clip(ends), to), most-1)
			}
		}
		all(nil, 4)
	}
}

// mixed tells so many items, mixed; a few of them are strange.
func (c *chance) mixed(count int) []api.Item {
	var l []api.Item
	for range count {
		switch c.below(12) {
		case 0, 1, 2, 3, 4:
			x := box(one(c, []int{0, 5, 10, 20, 20, 30, 40, 75, -10}))
			x.Codes = one(c, []string{"", "a", "bcd", "\x80\xff"})
			x.Font, x.Size, x.Link = c.below(6), c.below(20000), c.below(3)
			l = append(l, x)
		case 5, 6, 7, 8:
			l = append(l, one(c, items(glue(10, 5, 3), glue(10, 5, 3), glue(10, 0, 0), glue(7, 0, 3), glue(-4, 2, 30))))
		case 9:
			l = append(l, penalty(one(c, []int{0, 50, 9999, -9999, 10000, -10000, -10001})))
		default:
			l = append(l, api.Item{Kind: c.below(5), Width: c.below(30) - 9, Grow: c.below(9) - 3, Shrink: c.below(9) - 3, Cost: c.below(99) - 50})
		}
	}
	return l
}

// ends tells up to six ends in l, and beside it; they rise, or are mixed.
func (c *chance) ends(l []api.Item) []int {
	var ends []int
	for range c.below(7) {
		ends = append(ends, c.below(len(l)+4)-2)
	}
	if c.below(2) == 0 {
		slices.Sort(ends)
	}
	return ends
}

// TestMixed holds P19.1 to mixed lists.
func TestMixed(t *testing.T) {
	c := chance(20261126)
	for range 3000 {
		l := c.mixed(c.below(12))
		heldAll(t, l, c.below(100)-50, []int{c.below(120) - 20, c.below(300)})
		long := c.mixed(c.below(60))
		for range 5 {
			heldLines(t, long, c.ends(long), c.below(100)-50, c.below(400)-20)
		}
		if t.Failed() {
			return
		}
	}
}

// TestExtreme holds P19.1 to items with all numbers at the edges of what they may be.
func TestExtreme(t *testing.T) {
	c := chance(20261127)
	edges := []int{-far, -far + 1, -1, 0, 1, far - 1, far}
	for range 10000 {
		var l []api.Item
		for range c.below(9) {
			kind := one(&c, []int{1, 1, 1, 2, 2, 2, 3, one(&c, kinds())})
			l = append(l, api.Item{Kind: kind, Width: one(&c, edges), Grow: one(&c, edges), Shrink: one(&c, edges), Cost: one(&c, costs())})
		}
		heldAll(t, l, one(&c, edges), []int{one(&c, edges)})
		heldLines(t, l, append(c.ends(l), one(&c, edges), one(&c, edges)), one(&c, edges), one(&c, edges))
		if t.Failed() {
			return
		}
	}
}

// gap tells how much of a line there is between a run and the next one.
func gap(r, next api.Run) int { return next.X - r.X - r.Width }

// checkParagraph holds P19.2 to the lines of a paragraph in a width, as layer 18 breaks it.
func checkParagraph(t *testing.T, l []api.Item, ends []int, width int) {
	t.Helper()
	from := 0
	for n, runs := range heldLines(t, l, ends, 0, width) {
		line := slices.Clone(l[from:ends[n]])
		boxes := 0
		glued := false
		for _, x := range line {
			switch x.Kind {
			case api.ItemGlue:
				glued = true
			case api.ItemBox:
				if boxes > 0 && glued != (gap(runs[boxes-1], runs[boxes]) > 0) {
					t.Errorf("in %d, line %d: from %v to %v is a gap of %d, and a glue: %t", width, n, runs[boxes-1], runs[boxes], gap(runs[boxes-1], runs[boxes]), glued)
				}
				boxes, glued = boxes+1, false
			}
		}
		final := ends[n] == len(l) || l[ends[n]].Cost <= -10000
		_, grow, _ := wrap.Sum(l, from, ends[n])
		last := runs[len(runs)-1]
		if full := last.X + last.Width; full > width || !final && grow > 0 && full != width {
			t.Errorf("in %d, line %d is %d wide", width, n, full)
		}
		from = ends[n] + 1
	}
}

// TestParagraphs holds P19.2 to a text.
func TestParagraphs(t *testing.T) {
	doc, _ := tree.Parse("A *few* words that are **set** in lines,  \nsome [of them](/u)`in` other fonts,\nand broken where that costs the least.\n")
	spans := tree.Leaves(doc)[0].Spans
	if plain.Spans(spans) == "" {
		t.Fatal("there is no text")
	}
	made, _ := item.Make(spans, api.FontPlain, 10000, 1)
	full := 0
	for width := 10000; width < 400000; width += 1770 {
		l := item.Split(made, width)
		ends, ok := wrap.Breaks(l, width)
		if !ok {
			t.Fatalf("in %d there is no way", width)
		}
		checkParagraph(t, l, ends, width)
		full += len(ends)
	}
	if full == 0 {
		t.Error("there are no lines")
	}
}

package wrap_test

import (
	"math"
	"slices"
	"testing"

	"compositor/api"
)

// parting is places, and what they cost; -1: they don't part the items.
type parting struct {
	ends []int
	cost int
}

// checkCost holds Cost to examples in l, and to the model too.
func checkCost(t *testing.T, l []api.Item, width int, partings []parting) {
	t.Helper()
	for _, x := range partings {
		got, ok := heldCost(t, l, x.ends, width)
		if ok != (x.cost != none) || ok && got != x.cost {
			t.Errorf("Cost(%s, %v, %d) is %d, %t, not %d", shown(l), x.ends, width, got, ok, x.cost)
		}
	}
}

// TestCost holds P18.2 to places that part items, and to those that don't.
func TestCost(t *testing.T) {
	worst := 10010 * 10010
	checkCost(t, words(3, 40, glue(12, 6, 4)), 92, []parting{
		{[]int{3, 5}, 200},
		{[]int{1, 5}, worst + 100},
		{[]int{1, 3, 5}, 2*worst + 100},
		// A line that is too wide.
		{[]int{5}, none},
		// They don't rise, or come twice.
		{[]int{5, 3}, none},
		{[]int{3, 1, 5}, none},
		{[]int{3, 3, 5}, none},
		{[]int{3, 5, 5}, none},
		{[]int{3, 5, 3, 5}, none},
		{[]int{5, 5}, none},
		// No line may end there.
		{[]int{0, 3, 5}, none},
		{[]int{2, 5}, none},
		{[]int{3, 4}, none},
		{[]int{3, 4, 5}, none},
		{[]int{1, 2, 3, 5}, none},
		// They stop ahead of the end.
		{[]int{3}, none},
		{[]int{1, 3}, none},
		// They lie outside.
		{[]int{3, 6}, none},
		{[]int{3, 5, 6}, none},
		{[]int{3, 5, 7}, none},
		{[]int{-1, 3, 5}, none},
		{[]int{3, 5, -1}, none},
		{[]int{math.MinInt, 3, 5}, none},
		{[]int{3, 5, math.MaxInt}, none},
		{[]int{3, math.MaxInt}, none},
		{[]int{3, 5, math.MinInt}, none},
		{[]int{math.MaxInt, math.MinInt, 3, 5}, none},
		{[]int{math.MaxInt}, none},
		{[]int{math.MinInt}, none},
		// There are none.
		{nil, none},
		{[]int{}, none},
	})
	checkCost(t, words(3, 40, glue(12, 6, 4)), 40, []parting{{[]int{1, 3, 5}, 300}, {[]int{3, 5}, none}})
	checkCost(t, words(3, 40, glue(12, 6, 4)), 39, []parting{{[]int{1, 3, 5}, none}})
	checkCost(t, words(3, 40, glue(12, 6, 4)), 1000, []parting{{[]int{5}, 100}, {[]int{3, 5}, worst + 100}})
}

// TestCostOfNothing holds P18.2 to no items: the end is a place where a line ends.
func TestCostOfNothing(t *testing.T) {
	checkCost(t, nil, 10, []parting{{[]int{0}, 100}, {nil, none}, {[]int{}, none}, {[]int{0, 0}, none}, {[]int{1}, none}, {[]int{0, 1}, none}, {[]int{-1, 0}, none}, {[]int{-1}, none}})
	checkCost(t, nil, 0, []parting{{[]int{0}, 100}})
	checkCost(t, nil, -1, []parting{{[]int{0}, none}, {nil, none}})
	checkCost(t, items(odd(1, 1, 1)), 0, []parting{{[]int{1}, 100}, {[]int{0}, none}, {[]int{0, 1}, none}, {nil, none}})
}

// TestCostWhereItMust holds P18.2 to places where a line must end.
func TestCostWhereItMust(t *testing.T) {
	b, f := box(40), forced()
	checkCost(t, items(b, f, f, b, f), 50, []parting{
		{[]int{1, 2, 4, 5}, 400},
		{[]int{1, 2, 4}, none},
		{[]int{1, 2, 5}, none},
		{[]int{1, 4, 5}, none},
		{[]int{2, 4, 5}, none},
		{[]int{5}, none},
	})
	checkCost(t, items(b, f, b, penalty(-9999), f), 40, []parting{
		{[]int{1, 3, 4, 5}, 100 + 100 - 9999*9999 + 200},
		{[]int{1, 4, 5}, 300},
		{[]int{1, 3, 5}, none},
	})
	checkCost(t, items(f), 0, []parting{{[]int{0, 1}, 200}, {[]int{1}, none}, {[]int{0}, none}})
}

// TestCostAtPenalties holds P18.2 to penalties of each Cost.
func TestCostAtPenalties(t *testing.T) {
	for _, x := range []struct{ cost, price int }{
		{math.MinInt, 100}, {-10000, 100}, {-9999, 100 - 9999*9999}, {-1, 99}, {0, 100}, {7, 149}, {9999, 100 + 9999*9999},
		{10000, none}, {10001, none}, {math.MaxInt, none},
	} {
		want := none
		if x.price != none {
			want = x.price + 100
		}
		whole := 100
		if x.cost <= -10000 {
			whole = none
		}
		l := items(box(40), penalty(x.cost), box(40))
		checkCost(t, l, 40, []parting{{[]int{1, 3}, want}, {[]int{3}, none}})
		checkCost(t, l, 80, []parting{{[]int{3}, whole}})
	}
}

// TestCostShort holds P18.2 to all lists of up to four places in and beside some items.
func TestCostShort(t *testing.T) {
	g := glue(2, 1, 1)
	for _, l := range [][]api.Item{
		nil,
		items(box(4), g),
		items(forced(), box(4)),
		items(box(4), penalty(5), g, box(3)),
		items(box(4), g, box(4), forced()),
		items(penalty(10000), box(4), g, g, box(9), penalty(-50)),
	} {
		var all func(ends []int, most int)
		all = func(ends []int, most int) {
			for _, width := range []int{-1, 0, 4, 10, 50} {
				heldCost(t, l, ends, width)
			}
			for to := -1; most > 0 && to <= len(l)+1; to++ {
				all(append(slices.Clip(ends), to), most-1)
			}
		}
		all(nil, 4)
	}
}

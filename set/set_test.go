package set_test

import (
	"math"
	"slices"
	"testing"

	"compositor/api"
	"compositor/set"
)

// Short forms of items.

func box(width int) api.Item { return api.Item{Kind: api.ItemBox, Width: width, Codes: "x"} }

func glue(width, grow, shrink int) api.Item {
	return api.Item{Kind: api.ItemGlue, Width: width, Grow: grow, Shrink: shrink}
}

func penalty(cost int) api.Item { return api.Item{Kind: api.ItemPenalty, Cost: cost} }

// forced is a penalty at which a line must end.
func forced() api.Item { return penalty(-10000) }

// odd is an item of no kind.
func odd(width, grow, shrink int) api.Item {
	return api.Item{Kind: 7, Width: width, Grow: grow, Shrink: shrink}
}

// as tells x with a growth and a shrinking.
func as(x api.Item, grow, shrink int) api.Item {
	x.Grow, x.Shrink = grow, shrink
	return x
}

func items(l ...api.Item) []api.Item { return l }

// words tells boxes of that width, with a glue between each two.
func words(count, width int, g api.Item) []api.Item {
	var l []api.Item
	for i := range count {
		if i > 0 {
			l = append(l, g)
		}
		l = append(l, box(width))
	}
	return l
}

// far is the greatest width, growth, shrinking, x and end that may be.
const far = 1 << 40

// kinds are kinds of items that there aren't, some with the number of one in their lower bits.
func kinds() []int {
	return []int{math.MinInt, -3, -2, -1, 0, 4, 5, 256 + 1, 256 + 2, 256 + 3, 1<<32 + 1, 1<<32 + 2, 1<<32 + 3, math.MaxInt}
}

// costs are Costs at each edge.
func costs() []int {
	return []int{math.MinInt, math.MinInt + 1, -1 << 40, -1<<32 - 1, -10001, -10000, -9999, -1, 0, 1, 9999, 10000, 10001, 1 << 32, 1<<32 + 1, 1 << 40, math.MaxInt}
}

// places tells where runs stand.
func places(runs []api.Run) []int {
	var l []int
	for _, r := range runs {
		l = append(l, r.X)
	}
	return l
}

// setting is a width, and where the boxes of a line stand in it that isn't a last one, and in one that is.
type setting struct {
	width        int
	inner, final []int
}

// checkAll holds Line of all items, from x on, to examples, and to the model too.
func checkAll(t *testing.T, l []api.Item, x int, settings []setting) {
	t.Helper()
	for _, s := range settings {
		inner := places(heldLine(t, l, 0, len(l), x, s.width, false))
		final := places(heldLine(t, l, 0, len(l), x, s.width, true))
		if !slices.Equal(inner, s.inner) {
			t.Errorf("in %d, %s stand at %v, not %v", s.width, shown(l), inner, s.inner)
		}
		if !slices.Equal(final, s.final) {
			t.Errorf("in %d, as a last line, %s stand at %v, not %v", s.width, shown(l), final, s.final)
		}
	}
}

// at is a list of places.
func at(l ...int) []int { return l }

// TestExample holds the chapter's example.
func TestExample(t *testing.T) {
	checkAll(t, words(2, 40, glue(12, 6, 4)), 0, []setting{{100, at(0, 60), at(0, 52)}})
}

// TestLine holds P19.1 to lines that have just their width, more, and less; a last one doesn't grow, but shrinks.
func TestLine(t *testing.T) {
	checkAll(t, words(2, 40, glue(12, 6, 4)), 0, []setting{
		{far, at(0, far-40), at(0, 52)},
		{1000, at(0, 960), at(0, 52)},
		{98, at(0, 58), at(0, 52)},
		{93, at(0, 53), at(0, 52)},
		{92, at(0, 52), at(0, 52)},
		{91, at(0, 51), at(0, 51)},
		{88, at(0, 48), at(0, 48)},
		{87, at(0, 47), at(0, 47)},
		{1, at(0, -39), at(0, -39)},
		{0, at(0, -40), at(0, -40)},
		{-1, at(0, -41), at(0, -41)},
		{-far, at(0, -far-40), at(0, -far-40)},
	})
	// By what it may grow, and by what it may shrink, other glues have the most.
	l := items(box(40), glue(12, 6, 1), box(40), glue(12, 2, 3), box(40))
	checkAll(t, l, 0, []setting{
		{152, at(0, 58, 112), at(0, 52, 104)},
		{147, at(0, 54, 107), at(0, 52, 104)},
		{145, at(0, 52, 105), at(0, 52, 104)},
		{144, at(0, 52, 104), at(0, 52, 104)},
		{143, at(0, 52, 103), at(0, 52, 103)},
		{141, at(0, 52, 101), at(0, 52, 101)},
		{140, at(0, 51, 100), at(0, 51, 100)},
		{139, at(0, 51, 99), at(0, 51, 99)},
	})
}

// TestX holds P19.1 to x above, at and below 0, and to the edges of what it may be.
func TestX(t *testing.T) {
	l := words(2, 40, glue(12, 6, 4))
	for _, x := range []int{-far, -far + 1, -1000, -60, -52, -1, 0, 1, 5, 1000, far - 1, far} {
		checkAll(t, l, x, []setting{
			{100, at(x, x+60), at(x, x+52)},
			{92, at(x, x+52), at(x, x+52)},
			{90, at(x, x+50), at(x, x+50)},
			{far, at(x, x+far-40), at(x, x+52)},
			{-far, at(x, x-far-40), at(x, x-far-40)},
		})
	}
}

// TestRoundDown holds P19.1 to Scale's rounding: what a line grows by is rounded down, and so is what it shrinks by, which is taken away.
func TestRoundDown(t *testing.T) {
	l := items(box(0), glue(10, 1, 1), box(0), glue(10, 1, 1), box(0), glue(10, 1, 1), box(0))
	checkAll(t, l, 0, []setting{
		{34, at(0, 11, 22, 34), at(0, 10, 20, 30)},
		{33, at(0, 11, 22, 33), at(0, 10, 20, 30)},
		{32, at(0, 10, 21, 32), at(0, 10, 20, 30)},
		{31, at(0, 10, 20, 31), at(0, 10, 20, 30)},
		{30, at(0, 10, 20, 30), at(0, 10, 20, 30)},
		{29, at(0, 10, 20, 29), at(0, 10, 20, 29)},
		{28, at(0, 10, 19, 28), at(0, 10, 19, 28)},
		{27, at(0, 9, 18, 27), at(0, 9, 18, 27)},
		{26, at(0, 9, 18, 26), at(0, 9, 18, 26)},
	})
	// What is ahead grows and shrinks by less than nothing, and the whole by more: down is away from 0.
	l = items(box(0), glue(10, -1, -1), box(0), glue(10, 4, 4), box(0))
	checkAll(t, l, 0, []setting{
		{24, at(0, 8, 24), at(0, 10, 20)},
		{23, at(0, 9, 23), at(0, 10, 20)},
		{22, at(0, 9, 22), at(0, 10, 20)},
		{21, at(0, 9, 21), at(0, 10, 20)},
		{20, at(0, 10, 20), at(0, 10, 20)},
		{19, at(0, 11, 19), at(0, 11, 19)},
		{18, at(0, 11, 18), at(0, 11, 18)},
		{17, at(0, 11, 17), at(0, 11, 17)},
		{16, at(0, 12, 16), at(0, 12, 16)},
	})
}

// TestGrowth holds P19.1 to growth and shrinking of 0 and below, and to all of it in one glue.
func TestGrowth(t *testing.T) {
	b := box(40)
	stiff := []setting{{200, at(0, 52), at(0, 52)}, {93, at(0, 52), at(0, 52)}, {92, at(0, 52), at(0, 52)}, {91, at(0, 52), at(0, 52)}, {0, at(0, 52), at(0, 52)}}
	checkAll(t, items(b, glue(12, 0, 0), b), 0, stiff)
	checkAll(t, items(b, glue(12, -6, -4), b), 0, stiff)
	checkAll(t, items(b, glue(12, 6, 4), b, as(odd(0, 0, 0), -6, -4)), 0, stiff)
	checkAll(t, items(b, glue(12, 6, 4), b, as(odd(0, 0, 0), -7, -5)), 0, stiff)
	// It grows, but doesn't shrink; and the other way.
	checkAll(t, items(b, glue(12, 1, 0), b), 0, []setting{{99, at(0, 59), at(0, 52)}, {85, at(0, 52), at(0, 52)}})
	checkAll(t, items(b, glue(12, 0, 1), b), 0, []setting{{99, at(0, 52), at(0, 52)}, {85, at(0, 45), at(0, 45)}})
	checkAll(t, items(b, glue(12, 1, -1), b), 0, []setting{{99, at(0, 59), at(0, 52)}, {85, at(0, 52), at(0, 52)}})
	checkAll(t, items(b, glue(12, -1, 1), b), 0, []setting{{99, at(0, 52), at(0, 52)}, {85, at(0, 45), at(0, 45)}})
	// All of it in one glue of three.
	g := glue(12, 0, 0)
	for n, want := range [][]setting{
		{{206, at(0, 62, 114, 166), at(0, 52, 104, 156)}, {186, at(0, 42, 94, 146), at(0, 42, 94, 146)}},
		{{206, at(0, 52, 114, 166), at(0, 52, 104, 156)}, {186, at(0, 52, 94, 146), at(0, 52, 94, 146)}},
		{{206, at(0, 52, 104, 166), at(0, 52, 104, 156)}, {186, at(0, 52, 104, 146), at(0, 52, 104, 146)}},
	} {
		l := words(4, 40, g)
		l[2*n+1] = glue(12, 6, 4)
		checkAll(t, l, 0, want)
	}
}

// TestBoxesThatGrow holds P19.1 to boxes that grow and shrink: what stands behind them moves, and what they have counts in the whole.
func TestBoxesThatGrow(t *testing.T) {
	checkAll(t, items(as(box(40), 6, 4), box(40)), 0, []setting{{90, at(0, 50), at(0, 40)}, {79, at(0, 39), at(0, 39)}})
	checkAll(t, items(box(40), as(box(40), 6, 4)), 0, []setting{{90, at(0, 40), at(0, 40)}, {79, at(0, 40), at(0, 40)}})
	checkAll(t, items(as(box(40), 5, 5), glue(12, 10, 10), as(box(40), 15, 15)), 0, []setting{{98, at(0, 55), at(0, 52)}, {86, at(0, 49), at(0, 49)}})
	checkAll(t, items(as(box(40), 1, 1)), 0, []setting{{98, at(0), at(0)}, {6, at(0), at(0)}})
}

// TestPenaltiesDontCount holds P19.1 to penalties with a width, a growth and a shrinking of their own: they are of no account.
func TestPenaltiesDontCount(t *testing.T) {
	for _, cost := range costs() {
		p := api.Item{Kind: api.ItemPenalty, Width: 100, Grow: 100, Shrink: 100, Cost: cost, Codes: "p", Link: 3}
		b, g := box(40), glue(12, 6, 4)
		want := []setting{{100, at(0, 60), at(0, 52)}, {92, at(0, 52), at(0, 52)}, {90, at(0, 50), at(0, 50)}}
		checkAll(t, items(p, b, g, b), 0, want)
		checkAll(t, items(b, p, g, b), 0, want)
		checkAll(t, items(b, g, p, b), 0, want)
		checkAll(t, items(b, g, b, p), 0, want)
		checkAll(t, items(p, p, b, p, p, g, p, b, p, p), 0, want)
		checkAll(t, items(p), 5, []setting{{100, nil, nil}, {-100, nil, nil}})
	}
}

// TestGlues holds P19.1 to glues ahead of the first box, side by side, and at the line's end.
func TestGlues(t *testing.T) {
	b, g := box(40), glue(12, 6, 4)
	plain := []setting{{100, at(0, 60), at(0, 52)}, {92, at(0, 52), at(0, 52)}, {90, at(0, 50), at(0, 50)}}
	checkAll(t, items(g, b, g, b), 0, plain)
	checkAll(t, items(g, g, glue(-7, 99, 99), b, g, b), 0, plain)
	checkAll(t, items(b, glue(6, 3, 2), glue(6, 3, 2), b), 0, plain)
	checkAll(t, items(b, g, glue(0, 0, 0), b), 0, plain)
	checkAll(t, items(b, glue(13, 7, 9), glue(-1, -1, -5), b), 0, plain)
	// One at the end counts in the whole: half of what the line grows and shrinks by falls to it.
	checkAll(t, items(b, g, b, g), 0, []setting{{124, at(0, 62), at(0, 52)}, {104, at(0, 52), at(0, 52)}, {100, at(0, 50), at(0, 50)}})
	checkAll(t, items(b, g), 0, []setting{{100, at(0), at(0)}, {50, at(0), at(0)}})
	checkAll(t, items(b, g, b, glue(-12, -3, 8)), 0, []setting{{90, at(0, 72), at(0, 52)}, {80, at(0, 52), at(0, 52)}, {77, at(0, 51), at(0, 51)}})
}

// TestBoxes holds P19.1 to lines without a box, with one alone, and with boxes side by side.
func TestBoxes(t *testing.T) {
	g := glue(12, 6, 4)
	none := []setting{{100, nil, nil}, {12, nil, nil}, {0, nil, nil}, {-5, nil, nil}}
	for _, l := range [][]api.Item{nil, items(), items(g), items(g, g), items(g, penalty(0), g), items(odd(9, 9, 9)), items(odd(9, 9, 9), g)} {
		checkAll(t, l, 7, none)
	}
	one := []setting{{100, at(7), at(7)}, {41, at(7), at(7)}, {40, at(7), at(7)}, {39, at(7), at(7)}, {-9, at(7), at(7)}}
	checkAll(t, items(box(40)), 7, one)
	checkAll(t, items(g, box(40), g), 7, one)
	checkAll(t, items(box(40), box(0), box(30)), 7, []setting{{100, at(7, 47, 47), at(7, 47, 47)}, {70, at(7, 47, 47), at(7, 47, 47)}, {60, at(7, 47, 47), at(7, 47, 47)}})
	checkAll(t, items(box(40), g, box(20), box(10)), 7, []setting{{92, at(7, 69, 89), at(7, 59, 79)}, {80, at(7, 57, 77), at(7, 57, 77)}})
	checkAll(t, items(box(-40), g, box(-20), box(10)), 7, []setting{{-28, at(7, -11, -31), at(7, -21, -41)}, {-40, at(7, -23, -43), at(7, -23, -43)}})
	// A box without codes is a box.
	checkAll(t, items(api.Item{Kind: api.ItemBox}, g, api.Item{Kind: api.ItemBox, Width: 5}), 0, []setting{{20, at(0, 15), at(0, 12)}})
}

// TestOddItems holds P19.1 to items of no kind: they count behind a box, but are no boxes.
func TestOddItems(t *testing.T) {
	for _, kind := range kinds() {
		x := api.Item{Kind: kind, Width: 12, Grow: 6, Shrink: 4, Cost: -10000, Codes: "o"}
		checkAll(t, items(x), 0, []setting{{50, nil, nil}})
		checkAll(t, items(x, x, box(40)), 0, []setting{{50, at(0), at(0)}, {30, at(0), at(0)}})
		checkAll(t, items(x, box(40), x, box(40), x), 0, []setting{{124, at(0, 62), at(0, 52)}, {100, at(0, 50), at(0, 50)}})
	}
}

// TestWithoutScale holds P19.1 to numbers for which Scale has an error: nothing is moved.
func TestWithoutScale(t *testing.T) {
	b := box(0)
	// What falls to those ahead is past 2^62 once, and just 2^62.
	grown := items(b, glue(0, far, far), b, glue(0, 2-far, 2-far), b, glue(0, -1, -1), b)
	checkAll(t, grown, 0, []setting{
		{1 << 22, at(0, 1<<62, 1<<23, 1<<22), at(0, 0, 0, 0)},
		{1<<22 + 1, at(0, 0, 2<<22+2, 1<<22+1), at(0, 0, 0, 0)},
		{-1 << 22, at(0, -1<<62, -1<<23, -1<<22), at(0, -1<<62, -1<<23, -1<<22)},
		{-1<<22 - 1, at(0, 0, -2<<22-2, -1<<22-1), at(0, 0, -2<<22-2, -1<<22-1)},
	})
	fallen := items(b, glue(0, -far, -far), b, glue(0, far+1, far+1), b)
	checkAll(t, fallen, 0, []setting{
		{1 << 22, at(0, -1<<62, 1<<22), at(0, 0, 0)},
		{1<<22 + 1, at(0, 0, 1<<22+1), at(0, 0, 0)},
		{-1 << 22, at(0, 1<<62, -1<<22), at(0, 1<<62, -1<<22)},
		{-1<<22 - 1, at(0, 0, -1<<22-1), at(0, 0, -1<<22-1)},
	})
	// The whole grows and shrinks by nothing, and by less.
	none := items(b, glue(0, 5, 5), b, glue(0, -5, -5), b)
	less := items(b, glue(0, 5, 5), b, glue(0, -6, -6), b)
	for _, l := range [][]api.Item{none, less} {
		checkAll(t, l, 0, []setting{{10, at(0, 0, 0), at(0, 0, 0)}, {-10, at(0, 0, 0), at(0, 0, 0)}})
	}
}

// TestEdges holds P19.1 to widths, growths and shrinkings at both edges of what they may be.
func TestEdges(t *testing.T) {
	most, least := glue(far, far, far), glue(-far, -far, -far)
	checkAll(t, items(box(far), most, box(far)), 0, []setting{
		{far, at(0, 0), at(0, 0)},
		{0, at(0, -far), at(0, -far)},
		{-far, at(0, -2*far), at(0, -2*far)},
	})
	checkAll(t, items(box(-far), most, box(-far)), far, []setting{
		{far, at(far, 3*far), at(far, far)},
		{-far, at(far, far), at(far, far)},
		{-far + 1, at(far, far+1), at(far, far)},
	})
	checkAll(t, items(box(-far), least, box(-far)), -far, []setting{
		{far, at(-far, -3*far), at(-far, -3*far)},
		{-far, at(-far, -3*far), at(-far, -3*far)},
	})
	checkAll(t, items(box(0), least, box(0), most, box(0)), 0, []setting{
		{far, at(0, -far, 0), at(0, -far, 0)},
		{-far, at(0, -far, 0), at(0, -far, 0)},
	})
	checkAll(t, items(box(0), glue(0, far, far), box(0), glue(0, far, far), box(0)), 0, []setting{
		{far, at(0, far/2, far), at(0, 0, 0)},
		{far - 1, at(0, far/2-1, far-1), at(0, 0, 0)},
		{-far, at(0, -far/2, -far), at(0, -far/2, -far)},
		{-far + 1, at(0, -far/2+1, -far+1), at(0, -far/2+1, -far+1)},
	})
}

// part is two places in items, and where the boxes between them stand, from 1000 on, in a line of 100 that isn't a last one.
type part struct {
	from, to int
	want     []int
}

// TestBetween holds P19.1 to what stands between two places, some of which lie outside.
func TestBetween(t *testing.T) {
	g := glue(12, 6, 4)
	l := items(g, box(40), g, box(30), penalty(0), g, g, box(20), forced(), box(10))
	for _, x := range []part{
		{0, 0, nil},
		{0, 1, nil},
		{0, 2, at(1000)},
		{0, 3, at(1000)},
		{0, 4, at(1000, 1070)},
		{1, 4, at(1000, 1070)},
		{1, 5, at(1000, 1070)},
		{1, 6, at(1000, 1000+52+3)},
		{0, 8, at(1000, 1044, 1080)}, // 126 wide, of which 12 may go
		{2, 4, at(1000)},
		{2, 8, at(1000, 1080)},
		{3, 8, at(1000, 1080)},
		{4, 8, at(1000)},
		{7, 9, at(1000)},
		{7, 10, at(1000, 1020)},
		{8, 10, at(1000)},
		{9, 10, at(1000)},
		{10, 10, nil},
		{9, 9, nil},
		{9, 7, nil},
		{10, 0, nil},
		{3, 1, nil},
		{-1, 2, at(1000)},
		{-far, 2, at(1000)},
		{math.MinInt, 2, at(1000)},
		{9, 11, at(1000)},
		{9, far, at(1000)},
		{9, math.MaxInt, at(1000)},
		{11, far, nil},
		{far, far, nil},
		{math.MaxInt, math.MaxInt, nil},
		{math.MaxInt, math.MinInt, nil},
		{0, -1, nil},
		{-2, -1, nil},
		{math.MinInt, math.MinInt, nil},
		{0, math.MinInt, nil},
	} {
		got := places(heldLine(t, l, x.from, x.to, 1000, 100, false))
		if !slices.Equal(got, x.want) {
			t.Errorf("Line from %d to %d stands at %v, not %v", x.from, x.to, got, x.want)
		}
		heldLine(t, nil, x.from, x.to, 1000, 100, false)
		heldLine(t, nil, x.from, x.to, 1000, 100, true)
	}
}

// TestRuns holds P19.1 to what a run has of its box, and to a Y of 0.
func TestRuns(t *testing.T) {
	l := items(
		api.Item{Kind: api.ItemBox, Width: 40, Grow: 1, Shrink: 2, Cost: -10000, Codes: "ab\x80\x00", Font: api.FontMono, Size: 12000, Link: 7},
		api.Item{Kind: api.ItemGlue, Width: 12, Grow: 5, Shrink: 2, Codes: "g", Font: 1, Size: 2, Link: 3},
		api.Item{Kind: api.ItemBox},
		api.Item{Kind: api.ItemBox, Width: -3, Codes: "c", Font: math.MinInt, Size: math.MaxInt, Link: -1},
		api.Item{Kind: api.ItemBox, Width: 9, Font: math.MaxInt, Size: math.MinInt, Link: math.MinInt},
		api.Item{Kind: api.ItemBox, Width: 2, Codes: "\xff", Font: -1, Size: -1, Link: math.MaxInt},
	)
	got := heldLine(t, l, 0, len(l), 5, 66, false)
	want := []api.Run{
		{X: 5, Width: 40, Codes: "ab\x80\x00", Font: api.FontMono, Size: 12000, Link: 7},
		{X: 63},
		{X: 63, Width: -3, Codes: "c", Font: math.MinInt, Size: math.MaxInt, Link: -1},
		{X: 60, Width: 9, Font: math.MaxInt, Size: math.MinInt, Link: math.MinInt},
		{X: 69, Width: 2, Codes: "\xff", Font: -1, Size: -1, Link: math.MaxInt},
	}
	if !slices.Equal(got, want) {
		t.Errorf("Line is %v, not %v", got, want)
	}
	lines := set.Lines(l, []int{len(l)}, 5, 66)
	if len(lines) != 1 || len(lines[0]) != len(want) || lines[0][4] != (api.Run{X: 63, Width: 2, Codes: "\xff", Font: -1, Size: -1, Link: math.MaxInt}) {
		t.Errorf("Lines is %v", lines)
	}
}

package set_test

import (
	"math/big"
	"slices"
	"strconv"
	"strings"
	"testing"

	"compositor/api"
	"compositor/set"
)

// What the chapter asks, in another way: big numbers, and for each box all that is ahead of it looked at anew.

// standing tells what stands between two places.
func standing(l []api.Item, from, to int) []api.Item {
	var between []api.Item
	for i, x := range l {
		if i >= from && i < to && (x.Kind == 1 || len(between) > 0) {
			between = append(between, x)
		}
	}
	return between
}

func widthOf(x api.Item) int  { return x.Width }
func growOf(x api.Item) int   { return x.Grow }
func shrinkOf(x api.Item) int { return x.Shrink }

// added tells what a number of each item that is no penalty comes to.
func added(l []api.Item, number func(api.Item) int) *big.Int {
	sum := new(big.Int)
	for _, x := range l {
		if x.Kind != 3 {
			sum.Add(sum, big.NewInt(int64(number(x))))
		}
	}
	return sum
}

// hasRoom tells whether layer 1 reckons with n.
func hasRoom(n *big.Int) bool {
	return n.CmpAbs(big.NewInt(1<<62)) <= 0
}

// scaled tells layer 1's Scale of a by b by c, and 0 where it has an error.
func scaled(a, b, c *big.Int) *big.Int {
	if !hasRoom(a) || !hasRoom(b) || !hasRoom(c) || c.Sign() <= 0 {
		return new(big.Int)
	}
	product := new(big.Int).Mul(a, b)
	// Div rounds down where what it divides by is above 0.
	n := new(big.Int).Div(product, c)
	if !hasRoom(n) {
		return new(big.Int)
	}
	return n
}

// placeAsked tells where a box stands, ahead of which so much of a line stands.
func placeAsked(line, ahead []api.Item, x, width int, last bool) int {
	place := new(big.Int).Add(big.NewInt(int64(x)), added(ahead, widthOf))
	room := new(big.Int).Sub(big.NewInt(int64(width)), added(line, widthOf))
	if room.Sign() > 0 && !last {
		place.Add(place, scaled(room, added(ahead, growOf), added(line, growOf)))
	}
	if room.Sign() < 0 {
		over := new(big.Int).Neg(room)
		place.Sub(place, scaled(over, added(ahead, shrinkOf), added(line, shrinkOf)))
	}
	return int(place.Int64())
}

// lineAsked tells the runs of what stands between two places.
func lineAsked(l []api.Item, from, to, x, width int, last bool) []api.Run {
	var runs []api.Run
	line := standing(l, from, to)
	for i, box := range line {
		if box.Kind != 1 {
			continue
		}
		var r api.Run
		r.X = placeAsked(line, line[:i], x, width, last)
		r.Width = box.Width
		r.Codes = box.Codes
		r.Font = box.Font
		r.Size = box.Size
		r.Link = box.Link
		runs = append(runs, r)
	}
	return runs
}

// linesAsked tells the runs of each of the lines that end at ends.
func linesAsked(l []api.Item, ends []int, x, width int) [][]api.Run {
	lines := make([][]api.Run, len(ends))
	for i, to := range ends {
		from := 0
		if i > 0 && ends[i-1] >= 0 {
			from = ends[i-1] + 1
		}
		last := to >= len(l)
		if to >= 0 && to < len(l) && l[to].Kind == 3 {
			last = l[to].Cost <= -10000
		}
		lines[i] = lineAsked(l, from, to, x, width, last)
	}
	return lines
}

// Calls held against the model.

// heldLine holds Line against the model, and tells it.
func heldLine(t *testing.T, l []api.Item, from, to, x, width int, last bool) []api.Run {
	t.Helper()
	got := set.Line(l, from, to, x, width, last)
	want := lineAsked(l, from, to, x, width, last)
	if !slices.Equal(got, want) {
		t.Errorf("Line(%s, %d, %d, %d, %d, %t) is %v, not %v", shown(l), from, to, x, width, last, got, want)
	}
	return got
}

// heldLines holds Lines against the model, and tells it.
func heldLines(t *testing.T, l []api.Item, ends []int, x, width int) [][]api.Run {
	t.Helper()
	got := set.Lines(l, ends, x, width)
	want := linesAsked(l, ends, x, width)
	if !slices.EqualFunc(got, want, slices.Equal[[]api.Run]) {
		t.Errorf("Lines(%s, %v, %d, %d) is %v, not %v", shown(l), ends, x, width, got, want)
	}
	return got
}

// heldAll holds Line at all places in l, and beside it, against the model.
func heldAll(t *testing.T, l []api.Item, x int, widths []int) {
	t.Helper()
	for from := range len(l) + 2 {
		for to := -1; to <= len(l)+1; to++ {
			for _, width := range widths {
				heldLine(t, l, from-1, to, x, width, false)
				heldLine(t, l, from-1, to, x, width, true)
			}
		}
	}
}

// shown tells items in short: a box as [width], a glue as its width alone, a penalty as |cost|, an item of another kind as ?kind and its width; growth and shrinking, where there are any, behind that.
func shown(l []api.Item) string {
	words := make([]string, len(l))
	for i, x := range l {
		width := strconv.Itoa(x.Width)
		switch x.Kind {
		case api.ItemBox:
			width = "[" + width + "]"
		case api.ItemPenalty:
			width = "|" + strconv.Itoa(x.Cost) + "|"
		case api.ItemGlue:
		default:
			width = "?" + strconv.Itoa(x.Kind) + ":" + width
		}
		if x.Grow != 0 || x.Shrink != 0 {
			width += "+" + strconv.Itoa(x.Grow) + "-" + strconv.Itoa(x.Shrink)
		}
		words[i] = width
	}
	return strings.Join(words, " ")
}

// chance tells numbers below others, the same ones at each run.
type chance uint64

func (c *chance) below(n int) int {
	*c = *c*6364136223846793005 + 1442695040888963407
	return int(uint64(*c)>>33) % n
}

// one tells one of l.
func one[T any](c *chance, l []T) T {
	return l[c.below(len(l))]
}

package wrap_test

import (
	"cmp"
	"math/big"
	"slices"
	"strconv"
	"strings"
	"testing"

	"compositor/api"
	"compositor/wrap"
)

// What the chapter asks, in another way: big numbers, each list looked at from end to end each time, and all ways there are, one by one.

// ends tells whether a line may end at i, and whether it must.
func endsAsked(l []api.Item, i int) (may, must bool) {
	if i == len(l) {
		return true, true
	}
	if i < 0 || i > len(l) {
		return false, false
	}
	x := l[i]
	behindBox := i > 0 && l[i-1].Kind == 1
	may = x.Kind == 2 && behindBox || x.Kind == 3 && x.Cost < 10000
	return may, x.Kind == 3 && x.Cost <= -10000
}

// standing tells what stands between two places.
func standing(l []api.Item, from, to int) []api.Item {
	var between []api.Item
	for i, x := range l {
		if i >= from && i < to && (x.Kind == 1 || len(between) > 0) {
			between = append(between, x)
		}
	}
	return between
}

// added tells what a number of each item that is no penalty comes to.
func added(l []api.Item, number func(api.Item) int) *big.Int {
	sum := new(big.Int)
	for _, x := range l {
		if x.Kind != 3 {
			sum.Add(sum, big.NewInt(int64(number(x))))
		}
	}
	return sum
}

// sumsAsked tells the width, growth and shrinking of what stands between two places.
func sumsAsked(l []api.Item, from, to int) (w, g, s *big.Int) {
	between := standing(l, from, to)
	w = added(between, func(x api.Item) int { return x.Width })
	g = added(between, func(x api.Item) int { return x.Grow })
	s = added(between, func(x api.Item) int { return x.Shrink })
	return w, g, s
}

// badness tells layer 1's Badness of t, that isn't below 0, by s.
func badness(t, s *big.Int) *big.Int {
	worst := big.NewInt(10000)
	if t.Sign() == 0 {
		return new(big.Int)
	}
	if s.Sign() <= 0 {
		return worst
	}
	r := new(big.Int).Mul(t, big.NewInt(297))
	r.Quo(r, s)
	if r.Cmp(big.NewInt(1290)) > 0 {
		return worst
	}
	cube := new(big.Int).Exp(r, big.NewInt(3), nil)
	cube.Add(cube, big.NewInt(1<<17))
	return cube.Rsh(cube, 18)
}

// priceAsked tells what a line from one place to another one costs.
func priceAsked(l []api.Item, from, to, width int) (int, bool) {
	for i := from; i < to; i++ {
		if _, must := endsAsked(l, i); must {
			return 0, false
		}
	}
	w, g, s := sumsAsked(l, from, to)
	there := big.NewInt(int64(width))
	shrunk := new(big.Int).Sub(w, s)
	if w.Cmp(there) > 0 && shrunk.Cmp(there) > 0 {
		return 0, false
	}
	_, must := endsAsked(l, to)
	bad := new(big.Int)
	missing := new(big.Int).Sub(there, w)
	if missing.Sign() < 0 {
		bad = badness(missing.Neg(missing), s)
	} else if !must {
		bad = badness(missing, g)
	}
	cost := 0
	if to < len(l) && l[to].Kind == 3 && !must {
		cost = max(-10000, min(l[to].Cost, 10000))
	}
	b := int(bad.Int64()) + 10
	square := cost * cost
	if cost < 0 {
		square = -square
	}
	return b*b + square, true
}

// costAsked tells what places cost, and whether they part l.
func costAsked(l []api.Item, ends []int, width int) (int, bool) {
	cost := 0
	for n, to := range ends {
		from := 0
		if n > 0 {
			if to <= ends[n-1] {
				return 0, false
			}
			from = ends[n-1] + 1
		}
		may, _ := endsAsked(l, to)
		price, ok := 0, false
		if may && to >= from {
			price, ok = priceAsked(l, from, to, width)
		}
		if !ok {
			return 0, false
		}
		cost += price
	}
	if len(ends) == 0 || ends[len(ends)-1] != len(l) {
		return 0, false
	}
	return cost, true
}

// earlier tells which of two ways comes first: by where their last lines begin, then by where their last but one do, and so on.
func earlier(a, b []int) int {
	// Where the last line begins hangs on where the last but one ends; a way of one line begins at 0.
	a, b = slices.Clone(a[:len(a)-1]), slices.Clone(b[:len(b)-1])
	slices.Reverse(a)
	slices.Reverse(b)
	return slices.Compare(a, b)
}

// breaksAsked tells the places that part l and cost the least: it tries all lists of places that rise.
func breaksAsked(l []api.Item, width int) ([]int, bool) {
	var places []int
	for i := range l {
		if may, _ := endsAsked(l, i); may {
			places = append(places, i)
		}
	}
	var best []int
	least := 0
	for choice := range 1 << len(places) {
		var ends []int
		for n, place := range places {
			if choice>>n&1 == 1 {
				ends = append(ends, place)
			}
		}
		ends = append(ends, len(l))
		cost, ok := costAsked(l, ends, width)
		if ok && (best == nil || cmp.Or(cmp.Compare(cost, least), earlier(ends, best)) < 0) {
			best, least = ends, cost
		}
	}
	return best, best != nil
}

// longBreaksAsked tells the same of lists for which there are too many ways to try all: of each place it keeps the whole way that is best.
func longBreaksAsked(l []api.Item, width int) ([]int, bool) {
	type way struct {
		ends []int
		cost int
	}
	ways := map[int]way{-1: {}}
	for to := range len(l) + 1 {
		if may, _ := endsAsked(l, to); !may {
			continue
		}
		var found []way
		for from := range to + 1 {
			ahead, ok := ways[from-1]
			if !ok {
				continue
			}
			if price, ok := priceAsked(l, from, to, width); ok {
				ends := append(slices.Clone(ahead.ends), to)
				found = append(found, way{ends, ahead.cost + price})
			}
		}
		if len(found) > 0 {
			ways[to] = slices.MinFunc(found, func(a, b way) int {
				return cmp.Or(cmp.Compare(a.cost, b.cost), earlier(a.ends, b.ends))
			})
		}
	}
	last, ok := ways[len(l)]
	return last.ends, ok
}

// Calls held against the model.

// heldLegal holds Legal in l, and beside it, against the model.
func heldLegal(t *testing.T, l []api.Item) {
	t.Helper()
	for _, i := range placesBeside(l) {
		may, _ := endsAsked(l, i)
		if wrap.Legal(l, i) != may {
			t.Errorf("Legal(%s, %d) is %t", shown(l), i, !may)
		}
	}
}

// placesBeside tells all places in l, and some outside.
func placesBeside(l []api.Item) []int {
	places := []int{-1 << 63, -1<<32 + 1, -2, -1}
	for i := range len(l) + 3 {
		places = append(places, i)
	}
	return append(places, 1<<32, 1<<32+1, 1<<63-1)
}

// heldSum holds Sum against the model.
func heldSum(t *testing.T, l []api.Item, from, to int) {
	t.Helper()
	w, g, s := wrap.Sum(l, from, to)
	wantW, wantG, wantS := sumsAsked(l, from, to)
	if int64(w) != wantW.Int64() || int64(g) != wantG.Int64() || int64(s) != wantS.Int64() {
		t.Errorf("Sum(%s, %d, %d) is %d, %d, %d, not %v, %v, %v", shown(l), from, to, w, g, s, wantW, wantG, wantS)
	}
}

// heldPrice holds Price against the model.
func heldPrice(t *testing.T, l []api.Item, from, to, width int) {
	t.Helper()
	got, ok := wrap.Price(l, from, to, width)
	want, can := priceAsked(l, from, to, width)
	if got != want || ok != can {
		t.Errorf("Price(%s, %d, %d, %d) is %d, %t, not %d, %t", shown(l), from, to, width, got, ok, want, can)
	}
}

// heldCost holds Cost against the model, and tells it.
func heldCost(t *testing.T, l []api.Item, ends []int, width int) (int, bool) {
	t.Helper()
	got, ok := wrap.Cost(l, ends, width)
	want, can := costAsked(l, ends, width)
	if got != want || ok != can {
		t.Errorf("Cost(%s, %v, %d) is %d, %t, not %d, %t", shown(l), ends, width, got, ok, want, can)
	}
	return got, ok
}

// heldBreaks holds Breaks against what a model tells, Cost against what it tells, and tells it.
func heldBreaks(t *testing.T, l []api.Item, width int, model func([]api.Item, int) ([]int, bool)) ([]int, bool) {
	t.Helper()
	got, ok := wrap.Breaks(l, width)
	want, can := model(l, width)
	if !slices.Equal(got, want) || ok != can {
		t.Errorf("Breaks(%s, %d) is %v, %t, not %v, %t", shown(l), width, got, ok, want, can)
	}
	if _, parts := heldCost(t, l, got, width); parts != ok {
		t.Errorf("Breaks(%s, %d) is %v, %t, and whether that parts them is %t", shown(l), width, got, ok, parts)
	}
	return got, ok
}

// heldAll holds all calls at all places in l against the model.
func heldAll(t *testing.T, l []api.Item, widths []int) {
	t.Helper()
	heldLegal(t, l)
	for from := range len(l) + 1 {
		for to := range len(l) + 1 {
			heldSum(t, l, from, to)
			for _, width := range widths {
				heldPrice(t, l, from, to, width)
			}
		}
	}
	for _, width := range widths {
		heldBreaks(t, l, width, breaksAsked)
	}
}

// shown tells items in short: a box as [width], a glue as its width alone, a penalty as |cost|, an item of another kind as ?kind and its width; growth and shrinking, where there are any, behind that.
func shown(l []api.Item) string {
	words := make([]string, len(l))
	for i, x := range l {
		width := strconv.Itoa(x.Width)
		switch x.Kind {
		case api.ItemBox:
			width = "[" + width + "]"
		case api.ItemPenalty:
			width = "|" + strconv.Itoa(x.Cost) + "|"
		case api.ItemGlue:
		default:
			width = "?" + strconv.Itoa(x.Kind) + ":" + width
		}
		if x.Grow != 0 || x.Shrink != 0 {
			width += "+" + strconv.Itoa(x.Grow) + "-" + strconv.Itoa(x.Shrink)
		}
		words[i] = width
	}
	return strings.Join(words, " ")
}

// chance tells numbers below others, the same ones at each run.
type chance uint64

func (c *chance) below(n int) int {
	*c = *c*6364136223846793005 + 1442695040888963407
	return int(uint64(*c)>>33) % n
}

// one tells one of l.
func one[T any](c *chance, l []T) T {
	return l[c.below(len(l))]
}

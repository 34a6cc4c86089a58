package wrap_test

import (
	"slices"
	"sync"
	"testing"
	"time"

	"compositor/api"
	"compositor/wrap"
)

// TestUntouched holds rule 3: what is handed in is not changed, its spare room neither, and the list that is told is a new one.
func TestUntouched(t *testing.T) {
	c := chance(20261131)
	for range 3000 {
		l := append(make([]api.Item, 0, 60), c.items(c.below(40))...)
		want := slices.Clone(l)
		width := c.below(200)
		first, ok := wrap.Breaks(l, width)
		second, _ := wrap.Breaks(l, width)
		kept := slices.Clone(second)
		clear(first[:cap(first)])
		if !slices.Equal(second, kept) {
			t.Fatal("two answers of Breaks share memory")
		}
		places := append(make([]int, 0, 60), kept...)
		if _, parts := wrap.Cost(l, places, width); parts != ok || !slices.Equal(places, kept) || slices.Max(places[:60]) > len(l) {
			t.Fatal("Cost changes its argument")
		}
		wrap.Sum(l, 0, len(l))
		wrap.Price(l, 0, len(l), width)
		for i := range l {
			wrap.Legal(l, i)
		}
		spare := l[len(l):cap(l)]
		if !slices.Equal(l, want) || !slices.Equal(spare, make([]api.Item, len(spare))) {
			t.Fatal("a call changes its argument")
		}
	}
}

// TestNone holds rule 1: beside a false there is nothing.
func TestNone(t *testing.T) {
	l := words(3, 40, glue(12, 6, 4))
	if ends, ok := wrap.Breaks(l, 39); len(ends) > 0 || ok {
		t.Errorf("Breaks is %v, %t", ends, ok)
	}
	// The first two lines can be, the last one can't.
	if ends, ok := wrap.Breaks(append(l, glue(0, 0, 0), box(93)), 92); len(ends) > 0 || ok {
		t.Errorf("Breaks is %v, %t", ends, ok)
	}
	if cost, ok := wrap.Cost(l, []int{1, 3}, 92); cost != 0 || ok {
		t.Errorf("Cost is %d, %t", cost, ok)
	}
	if price, ok := wrap.Price(l, 0, 5, 92); price != 0 || ok {
		t.Errorf("Price is %d, %t", price, ok)
	}
}

// TestAtOnce holds rule 4: what a call answers hangs on its arguments alone.
func TestAtOnce(t *testing.T) {
	c := chance(20261132)
	lists := make([][]api.Item, 100)
	ends := make([][]int, len(lists))
	for i := range lists {
		lists[i] = c.items(50)
		ends[i], _ = wrap.Breaks(lists[i], 100)
	}
	var w sync.WaitGroup
	for range 4 {
		w.Go(func() {
			for i, l := range lists {
				if got, _ := wrap.Breaks(l, 100); !slices.Equal(got, ends[i]) {
					t.Errorf("items %d break at other places", i)
				}
			}
		})
	}
	w.Wait()
}

// soon tells of what takes too long: what it costs up to each place is reckoned once.
func soon(t *testing.T, what string, do func()) {
	t.Helper()
	begin := time.Now()
	do()
	if took := time.Since(begin); took > time.Minute {
		t.Errorf("%s takes %v", what, took)
	}
}

// hold holds that items, of which there are many, are parted into so many lines.
func hold(t *testing.T, what string, l []api.Item, width, lines, cost int) {
	t.Helper()
	soon(t, what, func() {
		ends, ok := wrap.Breaks(l, width)
		got, parts := wrap.Cost(l, ends, width)
		if len(ends) != lines || got != cost || !ok || !parts {
			t.Errorf("%s: %d lines that cost %d, %t, %t, not %d and %d", what, len(ends), got, ok, parts, lines, cost)
		}
	})
}

// TestLong holds P1, P18.1 and P18.2 to many items.
func TestLong(t *testing.T) {
	const count = 1 << 18
	g := glue(10, 5, 3)
	hold(t, "a word a line", words(count, 40, g), 40, count, 100*count)
	hold(t, "two words a line", words(count, 40, g), 90, count/2, 100*count/2)
	hold(t, "ten words a line", words(count/16*10, 40, g), 490, count/16, 100*count/16)
	hold(t, "all in one line", words(1<<14, 40, g), far, 1, 100)
	hold(t, "items of no width", words(1<<15, 0, glue(0, 0, 0)), 0, 1, 100)
	hold(t, "many forced ends", slices.Repeat(items(box(40), forced()), count), 50, count+1, 100*(count+1))
	hold(t, "penalties side by side", slices.Repeat(items(penalty(50)), 1<<15), 50, 1, 100)
	hold(t, "glue alone", slices.Repeat(items(g), count), 50, 1, 100)
	hold(t, "boxes alone", slices.Repeat(items(box(1)), count), count, 1, 100)
	hold(t, "boxes of the greatest width", words(1<<20, far, glue(far, far, far)), far, 1<<20, 100<<20)
	soon(t, "a way that ends soon", func() {
		l := append(items(box(41)), words(count, 0, g)...)
		if ends, ok := wrap.Breaks(l, 40); ends != nil || ok {
			t.Errorf("there is a way past a box without room: %v", ends)
		}
	})
}

// TestLongSum holds P18.1 to as many items of the greatest width as may be added up.
func TestLongSum(t *testing.T) {
	const count = 1 << 20
	for _, n := range []int{far, -far} {
		l := slices.Repeat(items(api.Item{Kind: api.ItemBox, Width: n, Grow: n, Shrink: n}), count)
		if w, g, s := wrap.Sum(l, 0, count); w != n*count || g != n*count || s != n*count {
			t.Errorf("Sum is %d, %d, %d", w, g, s)
		}
		if _, ok := wrap.Price(l, 0, count, n*count); !ok {
			t.Error("they have no room")
		}
	}
}

package set_test

import (
	"math"
	"slices"
	"sync"
	"testing"
	"time"

	"compositor/api"
	"compositor/set"
)

// same tells whether lines are alike.
func same(a, b [][]api.Run) bool {
	return slices.EqualFunc(a, b, slices.Equal[[]api.Run])
}

// TestUntouched holds rule 3: what is handed in is not changed, its spare room neither.
func TestUntouched(t *testing.T) {
	c := chance(20261128)
	for range 3000 {
		l := append(make([]api.Item, 0, 60), c.mixed(c.below(40))...)
		ends := append(make([]int, 0, 20), c.ends(l)...)
		wantItems, wantEnds := slices.Clone(l), slices.Clone(ends)
		set.Lines(l, ends, 5, c.below(200))
		set.Line(l, c.below(20), c.below(60), 5, c.below(200), c.below(2) == 0)
		spareItems, spareEnds := l[len(l):cap(l)], ends[len(ends):cap(ends)]
		if !slices.Equal(l, wantItems) || !slices.Equal(spareItems, make([]api.Item, len(spareItems))) {
			t.Fatal("a call changes its items")
		}
		if !slices.Equal(ends, wantEnds) || !slices.Equal(spareEnds, make([]int, len(spareEnds))) {
			t.Fatal("Lines changes its ends")
		}
	}
}

// TestNewMemory holds rule 3: answers share no memory, and no two lines of one do.
func TestNewMemory(t *testing.T) {
	c := chance(20261129)
	for range 3000 {
		l := c.mixed(c.below(40))
		ends := c.ends(l)
		want, got := set.Lines(l, ends, 5, 100), set.Lines(l, ends, 5, 100)
		for i := range got {
			spare := got[i][:cap(got[i])]
			for j := range spare {
				spare[j] = api.Run{X: -1}
			}
			got[i] = nil
			if !same(got[i+1:], want[i+1:]) {
				t.Fatal("two lines share memory")
			}
		}
		first, second := set.Line(l, 0, len(l), 5, 100, false), set.Line(l, 0, len(l), 5, 100, false)
		kept := slices.Clone(second)
		clear(first[:cap(first)])
		if !slices.Equal(second, kept) || !same(set.Lines(l, ends, 5, 100), want) {
			t.Fatal("two answers share memory")
		}
	}
}

// TestAtOnce holds rule 4: what a call answers hangs on its arguments alone.
func TestAtOnce(t *testing.T) {
	c := chance(20261130)
	lists := make([][]api.Item, 100)
	ends := make([][]int, len(lists))
	want := make([][][]api.Run, len(lists))
	for i := range lists {
		lists[i] = c.mixed(50)
		ends[i] = c.ends(lists[i])
		want[i] = set.Lines(lists[i], ends[i], 5, 100)
	}
	var w sync.WaitGroup
	for range 4 {
		w.Go(func() {
			for i, l := range lists {
				if !same(set.Lines(l, ends[i], 5, 100), want[i]) {
					t.Errorf("items %d stand at other places", i)
				}
			}
		})
	}
	w.Wait()
}

// TestAnyNumbers holds P1 to numbers beyond those of which the calls are asked.
func TestAnyNumbers(t *testing.T) {
	c := chance(20261201)
	edges := []int{math.MinInt, math.MinInt + 1, -1 << 62, -1, 0, 1, 1 << 62, math.MaxInt}
	for range 20000 {
		var l []api.Item
		for range c.below(7) {
			l = append(l, api.Item{Kind: one(&c, []int{1, 2, 3, 0}), Width: one(&c, edges), Grow: one(&c, edges), Shrink: one(&c, edges), Cost: one(&c, edges)})
		}
		x, width := one(&c, edges), one(&c, edges)
		set.Line(l, one(&c, edges), one(&c, edges), x, width, c.below(2) == 0)
		ends := []int{one(&c, edges), one(&c, edges), 2, one(&c, edges)}
		if got := set.Lines(l, ends, x, width); len(got) != len(ends) {
			t.Fatalf("of %d ends there are %d lines", len(ends), len(got))
		}
	}
	for _, width := range edges {
		heldAll(t, words(3, 40, glue(12, 6, 4)), 5, []int{width})
	}
}

// soon tells of what takes too long: what is ahead is added up as one goes.
func soon(t *testing.T, what string, do func()) {
	t.Helper()
	begin := time.Now()
	do()
	if took := time.Since(begin); took > time.Minute {
		t.Errorf("%s takes %v", what, took)
	}
}

// TestLong holds P1 and P19.1 to many items, in one line and in many.
func TestLong(t *testing.T) {
	const count = 1 << 20
	l := words(count, 40, glue(10, 5, 3))
	soon(t, "one long line", func() {
		runs := set.Line(l, 0, len(l), 7, 60*count, false)
		if len(runs) != count || runs[count-1].X != 7+60*count-40 || runs[1].X != 7+60 {
			t.Errorf("the second of %d boxes stands at %d, the last at %d", len(runs), runs[1].X, runs[count-1].X)
		}
	})
	soon(t, "a word a line", func() {
		var ends []int
		for i := range count {
			ends = append(ends, 2*i+1)
		}
		got := set.Lines(l, ends, 7, 50)
		if len(got) != count || len(got[0]) != 1 || got[count-1][0].X != 7 {
			t.Errorf("there are %d lines", len(got))
		}
	})
	soon(t, "lines of nothing", func() {
		if got := set.Lines(l, make([]int, count), 7, 50); len(got) != count {
			t.Errorf("there are %d lines", len(got))
		}
	})
}

// TestLongEdges holds P19.1 to many items of the greatest width, growth and shrinking that may be.
func TestLongEdges(t *testing.T) {
	const count = 1 << 20
	for _, n := range []int{far, -far} {
		l := slices.Repeat(items(api.Item{Kind: api.ItemBox, Width: n, Grow: far, Shrink: far}), count)
		for _, width := range []int{far, -far} {
			got := set.Line(l, 0, count, 0, width, false)
			last := (count-1)*n + (width-count*n)/count*(count-1)
			if len(got) != count || got[count-1].X != last {
				t.Errorf("the last of %d boxes stands at %d, not %d", len(got), got[len(got)-1].X, last)
			}
		}
	}
}

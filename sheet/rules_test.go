package sheet_test

import (
	"math"
	"reflect"
	"strings"
	"sync"
	"testing"
	"time"

	"compositor/api"
	"compositor/sheet"
)

// roomy tells b again, in lists that have spare room.
func roomy(b api.Block) api.Block {
	kids := make([]api.Block, 0, len(b.Kids)+3)
	for _, k := range b.Kids {
		kids = append(kids, roomy(k))
	}
	b.Kids, b.Spans = kids, roomySpans(b.Spans)
	return b
}

func roomySpans(l []api.Span) []api.Span {
	spans := make([]api.Span, 0, len(l)+3)
	for _, x := range l {
		x.Kids = roomySpans(x.Kids)
		spans = append(spans, x)
	}
	return spans
}

// empty tells whether the spare room in b is as it was made.
func empty(b api.Block) bool {
	for _, k := range b.Kids {
		if !empty(k) {
			return false
		}
	}
	spare := b.Kids[len(b.Kids):cap(b.Kids)]
	return emptySpans(b.Spans) && reflect.DeepEqual(spare, make([]api.Block, len(spare)))
}

func emptySpans(l []api.Span) bool {
	for _, x := range l {
		if !emptySpans(x.Kids) {
			return false
		}
	}
	spare := l[len(l):cap(l)]
	return reflect.DeepEqual(spare, make([]api.Span, len(spare)))
}

// TestUntouched holds rule 3: what is handed in is not changed, its spare room neither.
func TestUntouched(t *testing.T) {
	c := chance(20261204)
	for range 1000 {
		b := roomy(c.block(4))
		want := roomy(b)
		sheet.Lines(b, c.below(100000), 10000)
		if !reflect.DeepEqual(b, want) || !empty(b) {
			t.Fatal("Lines changes its argument")
		}
	}
}

// spoil overwrites lines, their runs, and the spare room of both.
func spoil(l []api.Line) {
	for _, x := range l[:cap(l)] {
		clear(x.Runs[:cap(x.Runs)])
	}
	clear(l[:cap(l)])
}

// TestNewMemory holds rule 3: answers share no memory, and no two lists of runs in one do.
func TestNewMemory(t *testing.T) {
	c := chance(20261205)
	for range 1000 {
		b := c.block(4)
		if c.below(2) == 0 {
			b = document(t, c.mixed(20))
		}
		got, other, want := sheet.Lines(b, 60000, 10000), sheet.Lines(b, 60000, 10000), sheet.Lines(b, 60000, 10000)
		spoil(other)
		if !same(got, want) {
			t.Fatal("two answers share memory")
		}
		for i := range got {
			runs := got[i].Runs[:cap(got[i].Runs)]
			for j := range runs {
				runs[j] = api.Run{X: -1}
			}
			if !same(got[i+1:], want[i+1:]) {
				t.Fatal("two lines share memory")
			}
		}
		if !same(sheet.Lines(b, 60000, 10000), want) {
			t.Fatal("an answer shares memory with its argument")
		}
	}
}

// TestAtOnce holds rule 4: what a call answers hangs on its arguments alone.
func TestAtOnce(t *testing.T) {
	c := chance(20261206)
	l := make([]api.Block, 60)
	want := make([][]api.Line, len(l))
	for i := range l {
		l[i] = c.block(5)
		if i%2 == 0 {
			l[i] = document(t, c.mixed(20))
		}
		want[i] = sheet.Lines(l[i], 60000, 10000)
	}
	var w sync.WaitGroup
	for range 4 {
		w.Go(func() {
			for i, b := range l {
				if !same(sheet.Lines(b, 60000, 10000), want[i]) {
					t.Errorf("the lines of block %d are others", i)
				}
			}
		})
	}
	w.Wait()
}

// TestAnyNumbers holds P1 to widths, sizes and starts beyond those of which the calls are asked.
func TestAnyNumbers(t *testing.T) {
	edges := []int{math.MinInt, math.MinInt + 1, -1 << 62, -1 << 32, -10000, -1, 0, 1, 2, 999, 10000, 72001, 1 << 32, 1 << 62, math.MaxInt - 1, math.MaxInt}
	b := document(t, "# a *b* [c](/d)\n> e f\n\n1. g\n2. ***\n3. - h\n       \ti\n\n***\n")
	b.Kids = append(b.Kids, numbered(math.MaxInt, entry(paragraph("j")), entry()), numbered(math.MinInt, entry(of(api.BlockRule))))
	for _, width := range edges {
		for _, size := range edges {
			sheet.Lines(b, width, size)
			sheet.Scale(width, size)
		}
	}
}

// soon tells of what takes too long: no part of what is long may be gone through again and again.
func soon(t *testing.T, what string, do func()) {
	t.Helper()
	begin := time.Now()
	do()
	if took := time.Since(begin); took > time.Minute {
		t.Errorf("%s takes %v", what, took)
	}
}

// nested tells a leaf in so many blocks of that kind, or of two kinds by turns.
func nested(deep int, leaf api.Block, wraps ...func(b api.Block) api.Block) api.Block {
	for i := range deep {
		leaf = wraps[i%len(wraps)](leaf)
	}
	return leaf
}

// TestDeep holds P1 and P20.1 to as many blocks in one another as may be.
func TestDeep(t *testing.T) {
	const deep, width = 1 << 16, 1 << 24
	in := func(kind int) func(b api.Block) api.Block {
		return func(b api.Block) api.Block { return of(kind, b) }
	}
	leaf := paragraph("a")
	soon(t, "blocks of no kind", func() {
		if got := shown(sheet.Lines(nested(deep, leaf, in(0)), width, 1000), 1000); got != "0 0 750/250 0:a ." {
			t.Errorf("the lines of deep blocks are %s", got)
		}
	})
	soon(t, "quotes", func() {
		// As many as leave two sizes make a step.
		if got := shown(sheet.Lines(nested(deep, leaf, in(api.BlockQuote)), width, 1000), 1000); got != "0 0 750/250 16775000:a ." {
			t.Errorf("the lines of deep quotes are %s", got)
		}
	})
	for _, leaf := range []api.Block{leaf, of(api.BlockRule), of(0)} {
		soon(t, "lists", func() {
			got := sheet.Lines(holding(nested(deep, leaf, in(api.BlockItem), in(api.BlockList))), width, 1000)
			// Their markers stand on one line as long as there is room, then below one another.
			const beside = (width - 2000) / 1056
			lines, first := deep/2-beside, beside+1
			switch leaf.Kind {
			case api.BlockPara, api.BlockRule:
				lines++
			}
			if len(got) != lines || len(got[0].Runs) != first || got[0].Runs[beside].X != beside*1056 {
				t.Errorf("deep lists come to %d lines, not %d; %d markers stand on the first one", len(got), lines, len(got[0].Runs))
			}
		})
		soon(t, "lists that have room", func() {
			got := sheet.Lines(holding(nested(2*15000, leaf, in(api.BlockItem), in(api.BlockList))), width, 1000)
			if len(got[0].Runs) < 15000 || got[0].Runs[14999].X != 14999*1056 {
				t.Errorf("of 15000 markers %d stand on the first line", len(got[0].Runs))
			}
		})
	}
}

// TestDeepDocument holds P20.2 to blocks in as many others as a document may have.
func TestDeepDocument(t *testing.T) {
	widths := []int{3000, 30000, 60000, 1 << 24}
	whole(t, strings.Repeat("> ", 98)+"# [a](b)", widths, 1000)
	whole(t, strings.Repeat("- + ", 24)+"- # [a](b)", widths, 1000)
	whole(t, strings.Repeat("1. > ", 32)+"***", widths, 1000)
}

// TestLong holds P1 and P20.1 to long documents.
func TestLong(t *testing.T) {
	const count = 1 << 18
	for _, x := range []struct {
		what, s string
		lines   int
	}{
		{"paragraphs", strings.Repeat("a\n\n", count), count},
		{"headings", strings.Repeat("# a\n", count), count},
		{"items", strings.Repeat("- a\n", count), count},
		{"items below their numbers", strings.Repeat("1. a\n", count), 2 * count},
		{"items of nothing", strings.Repeat("-\n", count), count},
		{"rules", strings.Repeat("***\n", count), count},
		{"rules in items", strings.Repeat("- ***\n", count), 2 * count},
		{"lines of code", "~~~\n" + strings.Repeat("a\tb\n", count), count},
		{"empty lines of code", "~~~\n" + strings.Repeat("\n", count) + "~~~\n", count},
		{"a long line of code", "~~~\n" + strings.Repeat("0123456789", count), count},
		{"hard breaks", strings.Repeat("a\\\n", count) + "b", count + 1},
	} {
		b := document(t, x.s)
		soon(t, x.what, func() {
			if got := sheet.Lines(b, 60000, 10000); len(got) != x.lines || !got[len(got)-1].Ends {
				t.Errorf("%s come to %d lines, not %d", x.what, len(got), x.lines)
			}
		})
	}
	b := document(t, strings.Repeat("a b ", count))
	soon(t, "a long paragraph", func() {
		if got := sheet.Lines(b, 60000, 10000); len(got) < count/4 || !got[len(got)-1].Ends {
			t.Errorf("a long paragraph comes to %d lines", len(got))
		}
	})
}

package item_test

import (
	"reflect"
	"slices"
	"strings"
	"sync"
	"testing"
	"time"
	"unsafe"

	"compositor/api"
	"compositor/item"
)

// roomy tells l again, in lists that have spare room.
func roomy(l []api.Span) []api.Span {
	spans := make([]api.Span, 0, len(l)+3)
	for _, x := range l {
		x.Kids = roomy(x.Kids)
		spans = append(spans, x)
	}
	return spans
}

// empty tells whether the spare room in l is as it was made.
func empty(l []api.Span) bool {
	for _, x := range l {
		if !empty(x.Kids) {
			return false
		}
	}
	spare := l[len(l):cap(l)]
	return reflect.DeepEqual(spare, make([]api.Span, len(spare)))
}

// TestMakeUntouched holds rule 3 for Make: what is handed in is not changed, its spare room neither, and the list that is told is a new one.
func TestMakeUntouched(t *testing.T) {
	c := chance(20261124)
	for range 2000 {
		l := roomy(c.spans(4))
		want := roomy(l)
		first, _ := item.Make(l, 0, 10000, 1)
		second, _ := item.Make(l, 0, 10000, 1)
		kept := slices.Clone(second)
		clear(first[:cap(first)])
		if !same(second, kept) {
			t.Fatal("two answers of Make share memory")
		}
		if !reflect.DeepEqual(l, want) || !empty(l) {
			t.Fatal("Make changes its argument")
		}
	}
}

// TestSplitUntouched holds rule 3 for Split.
func TestSplitUntouched(t *testing.T) {
	c := chance(20261125)
	for range 5000 {
		l := append(make([]api.Item, 0, 20), c.items(9)...)
		want := slices.Clone(l)
		width := c.below(40000)
		first, second := item.Split(l, width), item.Split(l, width)
		kept := slices.Clone(second)
		clear(first[:cap(first)])
		if !same(second, kept) {
			t.Fatal("two answers of Split share memory")
		}
		spare := l[len(l):cap(l)]
		if !same(l, want) || !same(spare, make([]api.Item, len(spare))) {
			t.Fatal("Split changes its argument")
		}
	}
}

// shares tells whether two texts stand in one memory.
func shares(a, b string) bool {
	if a == "" || b == "" {
		return false
	}
	from, other := uintptr(unsafe.Pointer(unsafe.StringData(a))), uintptr(unsafe.Pointer(unsafe.StringData(b)))
	return from < other+uintptr(len(b)) && other < from+uintptr(len(a))
}

// TestTextsAreNewMemory holds rule 3 for texts.
func TestTextsAreNewMemory(t *testing.T) {
	s := strings.Clone("abc defgh")
	for _, x := range []api.Span{text(s), coded(s), emph(link(text(s)))} {
		l, _ := item.Make(list(x), 0, 10000, 1)
		for _, told := range l {
			if shares(told.Codes, s) {
				t.Errorf("%q, told by Make, shares memory with the span", told.Codes)
			}
		}
	}
	box := mono(s)
	for _, kind := range kinds() {
		other := api.Item{Kind: kind, Codes: s}
		for _, width := range []int{0, 6000, 20000, 99999} {
			for _, told := range item.Split(items(box, other, box), width) {
				if shares(told.Codes, s) {
					t.Errorf("%q, told by Split, shares memory with the item", told.Codes)
				}
			}
		}
	}
	if !shares(s[1:], s) || shares(s, strings.Clone(s)) {
		t.Error("shares doesn't tell what shares memory")
	}
}

// TestAtOnce holds rule 4: what a call answers hangs on its arguments alone.
func TestAtOnce(t *testing.T) {
	c := chance(20261126)
	spans := make([][]api.Span, 100)
	made := make([][]api.Item, len(spans))
	parts := make([][]api.Item, len(spans))
	for i := range spans {
		spans[i] = c.spans(5)
		made[i], _ = item.Make(spans[i], i%5, 10000, i)
		parts[i] = item.Split(made[i], 9000)
	}
	var w sync.WaitGroup
	for range 4 {
		w.Go(func() {
			for i := range spans {
				got, _ := item.Make(spans[i], i%5, 10000, i)
				if !same(got, made[i]) || !same(item.Split(got, 9000), parts[i]) {
					t.Errorf("spans %d make other items", i)
				}
			}
		})
	}
	w.Wait()
}

// soon tells of what takes too long: no part of what is long may be gone through again and again.
func soon(t *testing.T, what string, do func()) {
	t.Helper()
	begin := time.Now()
	do()
	if took := time.Since(begin); took > time.Minute {
		t.Errorf("%s takes %v", what, took)
	}
}

// TestDeep holds P1 and P17.1 to as many spans in one another as may be.
func TestDeep(t *testing.T) {
	const deep = 1 << 16
	for _, x := range []struct {
		kind, font, link, next int
	}{
		{api.SpanEmph, api.FontOblique, 0, 1},
		{api.SpanStrong, api.FontBold, 0, 1},
		{api.SpanLink, api.FontPlain, deep, deep + 1},
		{api.SpanImage, api.FontPlain, 0, 1},
	} {
		l := list(text("a"))
		for range deep {
			l = list(text("b "), api.Span{Kind: x.kind, Kids: l}, text("c"))
		}
		soon(t, "a deep span", func() {
			got, next := item.Make(l, api.FontPlain, 10000, 1)
			if len(got) != 3*deep+1 || got[2*deep] != boxAsked("a", x.font, 10000, x.link) || next != x.next {
				t.Errorf("deep spans of kind %d are %d items, the next link is %d", x.kind, len(got), next)
			}
			if last := got[len(got)-1]; last != boxAsked("c", api.FontPlain, 10000, 0) {
				t.Errorf("behind deep spans of kind %d stands %s", x.kind, shownItem(last))
			}
		})
	}
}

// TestLong holds P1 and P17.1 to long texts, and to many spans.
func TestLong(t *testing.T) {
	const count = 1 << 18
	hold := func(what string, l []api.Span, items, next int) {
		t.Helper()
		soon(t, what, func() {
			got, after := item.Make(l, api.FontPlain, 10000, 1)
			if len(got) != items || after != next {
				t.Errorf("of %s there are %d items, and the next link is %d", what, len(got), after)
			}
		})
	}
	hold("many words", list(text(strings.Repeat("a ", count))), 2*count-1, 1)
	hold("many blanks", list(text("a"+strings.Repeat(" \t\n", count)+"b")), 3, 1)
	hold("a long word", list(text(strings.Repeat("a\u20ac\u4e00\xff", count))), 1, 1)
	hold("many texts", slices.Repeat(list(text("a")), count), count, 1)
	hold("many soft breaks", slices.Repeat(list(text("a"), soft()), count), 2*count-1, 1)
	hold("many hard breaks", slices.Repeat(list(text("a "), hard(), soft()), count), 2*count, 1)
	hold("many links", slices.Repeat(list(link(text("a"))), count), count, count+1)
	hold("many images", slices.Repeat(list(image(link(text("a")))), count), count, 1)
}

// TestSplitLong holds P1 and P17.2 to long boxes, and to many.
func TestSplitLong(t *testing.T) {
	const count = 1 << 20
	hold := func(what string, l []api.Item, width, items int) {
		t.Helper()
		soon(t, what, func() {
			got := item.Split(l, width)
			if len(got) != items || codesOf(got) != codesOf(l) {
				t.Errorf("%s, split in %d, is %d items", what, width, len(got))
			}
			hasRoom(t, got, width)
		})
	}
	long := strings.Repeat("a", count)
	hold("a long box", items(mono(long)), 0, 2*count-1)
	hold("a long box", items(mono(long)), 12000, count-1)
	hold("a long box", items(mono(long)), 6000*count, 1)
	hold("a long box", items(mono(long)), 6000*count-1, 3)
	hold("many boxes", slices.Repeat(items(mono("a")), count), 0, 2*count-1)
	hold("many boxes", slices.Repeat(items(mono("a")), count), 18000, count+count/3)
	hold("many boxes and glue", slices.Repeat(items(mono("abc"), glue()), count/4), 12000, count)
	hold("many boxes without codes", slices.Repeat(items(mono("")), count), 12000, 0)
	hold("glue alone", slices.Repeat(items(glue()), count), 12000, count)
	// The greatest size, and the most that may be in a line.
	most := boxAsked(strings.Repeat("W", 1<<16), api.FontPlain, 1<<31, 0)
	hold("a box of the greatest size", items(most, most), most.Width, 3)
	hold("a box of the greatest size", items(most, most), 2*most.Width-1, 4)
	hold("a box of the greatest size", items(most, most), 2*most.Width, 2)
}

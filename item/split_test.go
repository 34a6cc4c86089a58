package item_test

import (
	"math"
	"strconv"
	"testing"

	"compositor/api"
	"compositor/item"
)

// Short forms of items of a size of 10000: in the mono font each code is 6000 wide.

func mono(codes string) api.Item { return boxAsked(codes, api.FontMono, 10000, 0) }

func glue() api.Item { return glueAsked(api.FontPlain, 10000) }

func penalty(cost int) api.Item { return api.Item{Kind: api.ItemPenalty, Cost: cost} }

func items(l ...api.Item) []api.Item { return l }

// parted is items with what they are parted into, in short.
type parted struct {
	l     []api.Item
	width int
	want  string
}

// checkSplit holds Split to examples, and to the model too.
func checkSplit(t *testing.T, l []parted) {
	t.Helper()
	for _, x := range l {
		got := heldSplit(t, x.l, x.width)
		if shown(got) != x.want {
			t.Errorf("Split(%s, %d) is %s, not %s", shown(x.l), x.width, shown(got), x.want)
		}
	}
}

// TestSplitOne holds P17.2 to one box: one that just has room, one that is one too wide, and one whose first code alone has no room.
func TestSplitOne(t *testing.T) {
	checkSplit(t, []parted{
		{nil, 10000, ""},
		{items(), 10000, ""},
		{items(mono("a")), 6001, "a/4"},
		{items(mono("a")), 6000, "a/4"},
		{items(mono("a")), 5999, "a/4"},
		{items(mono("a")), 0, "a/4"},
		{items(mono("abcd")), 24001, "abcd/4"},
		{items(mono("abcd")), 24000, "abcd/4"},
		{items(mono("abcd")), 23999, "abc/4 | d/4"},
		{items(mono("abcd")), 18000, "abc/4 | d/4"},
		{items(mono("abcd")), 17999, "ab/4 | cd/4"},
		{items(mono("abcd")), 13000, "ab/4 | cd/4"},
		{items(mono("abcd")), 12000, "ab/4 | cd/4"},
		{items(mono("abcd")), 11999, "a/4 | b/4 | c/4 | d/4"},
		{items(mono("abcd")), 6000, "a/4 | b/4 | c/4 | d/4"},
		{items(mono("abcd")), 5999, "a/4 | b/4 | c/4 | d/4"},
		{items(mono("abcd")), 1, "a/4 | b/4 | c/4 | d/4"},
		{items(mono("abcdefg")), 18000, "abc/4 | def/4 | g/4"},
		{items(mono("abcdef")), 18000, "abc/4 | def/4"},
		{items(mono("abcd")), math.MaxInt, "abcd/4"},
	})
}

// TestSplitWidths holds P17.2 to widths of 0 and below.
func TestSplitWidths(t *testing.T) {
	for _, width := range []int{0, -1, -6000, -1 << 40, math.MinInt, math.MinInt + 1} {
		checkSplit(t, []parted{
			{nil, width, ""},
			{items(mono("a")), width, "a/4"},
			{items(mono("abc")), width, "a/4 | b/4 | c/4"},
			{items(mono("a"), mono("b")), width, "a/4 | b/4"},
			{items(mono("ab"), glue(), mono("cd")), width, "a/4 | b/4 _ c/4 | d/4"},
			{items(glue(), penalty(0), mono("a")), width, "_ | a/4"},
			{items(mono("")), width, ""},
		})
	}
}

// TestSplitBehind holds P17.2 to boxes behind others, behind glue, behind penalties, and behind items of no kind.
func TestSplitBehind(t *testing.T) {
	none := api.Item{}
	shownNone := shown(items(none))
	checkSplit(t, []parted{
		// All boxes side by side are used together.
		{items(mono("ab"), mono("cd")), 24000, "ab/4 cd/4"},
		{items(mono("ab"), mono("cd")), 23999, "ab/4 c/4 | d/4"},
		{items(mono("ab"), mono("cd")), 18000, "ab/4 c/4 | d/4"},
		{items(mono("ab"), mono("cd")), 17999, "ab/4 | cd/4"},
		{items(mono("ab"), mono("cd")), 12000, "ab/4 | cd/4"},
		{items(mono("ab"), mono("cd")), 11999, "a/4 | b/4 | c/4 | d/4"},
		{items(mono("ab"), mono("c")), 17999, "ab/4 | c/4"},
		{items(mono("a"), mono("b"), mono("c"), mono("d")), 12000, "a/4 b/4 | c/4 d/4"},
		{items(mono("a"), mono("b"), mono("c"), mono("d")), 5999, "a/4 | b/4 | c/4 | d/4"},
		{items(mono("abc"), mono("d")), 12000, "ab/4 | c/4 d/4"},
		{items(mono("abc"), mono("de")), 12000, "ab/4 | c/4 d/4 | e/4"},
		{items(mono("abc"), mono("defg"), mono("h")), 12000, "ab/4 | c/4 d/4 | ef/4 | g/4 h/4"},
		{items(mono("ab"), mono("cdefg")), 30000, "ab/4 cde/4 | fg/4"},
		{items(mono("a"), mono("bcde")), 12000, "a/4 b/4 | cd/4 | e/4"},
		// Behind anything else nothing is used.
		{items(mono("ab"), glue(), mono("cd")), 12000, "ab/4 _ cd/4"},
		{items(mono("abc"), glue(), mono("def")), 12000, "ab/4 | c/4 _ de/4 | f/4"},
		{items(glue(), mono("abc")), 12000, "_ ab/4 | c/4"},
		{items(mono("ab"), penalty(0), mono("cd")), 12000, "ab/4 | cd/4"},
		{items(mono("ab"), penalty(-10000), mono("cde")), 12000, "ab/4 ! cd/4 | e/4"},
		{items(penalty(-10000), mono("abc")), 12000, "! ab/4 | c/4"},
		{items(mono("ab"), none, mono("cde")), 12000, "ab/4 " + shownNone + " cd/4 | e/4"},
		{items(none, mono("ab")), 12000, shownNone + " ab/4"},
		{items(mono("a"), glue(), glue(), mono("bc")), 12000, "a/4 _ _ bc/4"},
		{items(mono("a"), mono("b"), glue(), mono("c"), mono("d"), mono("e")), 12000, "a/4 b/4 _ c/4 d/4 | e/4"},
		// A code that stands though it has no room is used all the same.
		{items(mono("a"), mono("b")), 5999, "a/4 | b/4"},
		{items(mono("a"), mono("b")), 0, "a/4 | b/4"},
		{items(mono("a"), glue(), mono("b"), mono("c")), 1, "a/4 _ b/4 | c/4"},
		{items(mono("ab"), mono("c")), 1, "a/4 | b/4 | c/4"},
	})
}

// TestSplitStays holds P17.2 to anything but boxes: all of it stays, whatever it has.
func TestSplitStays(t *testing.T) {
	for _, kind := range kinds() {
		if kind == api.ItemBox {
			continue
		}
		x := api.Item{Kind: kind, Width: 99999, Grow: 1, Shrink: 2, Cost: 3, Codes: "abc", Font: 4, Size: 5, Link: 6}
		for _, width := range []int{-1, 0, 1, 12000, math.MaxInt} {
			got := heldSplit(t, items(x, x, mono("ab"), x), width)
			if len(got) < 4 || got[0] != x || got[1] != x || got[len(got)-1] != x {
				t.Errorf("Split of kind %d is %s", kind, shown(got))
			}
		}
		for _, want := range []api.Item{{Kind: kind}, {Kind: kind, Width: math.MaxInt}, {Kind: kind, Width: math.MinInt}} {
			if got := heldSplit(t, items(want), 10); !same(got, items(want)) {
				t.Errorf("Split of kind %d alone is %s", kind, shown(got))
			}
		}
	}
}

// TestSplitBoxStays holds P17.2 to a box that has room: all that it has stays.
func TestSplitBoxStays(t *testing.T) {
	x := api.Item{Kind: api.ItemBox, Width: 24000, Grow: 1, Shrink: 2, Cost: 3, Codes: "abcd", Font: 4, Size: 10000, Link: 6}
	if got := heldSplit(t, items(x), 24000); !same(got, items(x)) {
		t.Errorf("Split changes a box that has room: %s", shown(got))
	}
	got := heldSplit(t, items(mono("a"), x), 24000)
	if !same(got, items(mono("a"), boxAsked("abc", 4, 10000, 6), penalty(0), boxAsked("d", 4, 10000, 6))) {
		t.Errorf("parts of a box are %s", shown(got))
	}
	// One that has room only behind a penalty isn't parted, and stays too.
	got = heldSplit(t, items(mono("abcd"), x), 24000)
	if !same(got, items(mono("abcd"), penalty(0), x)) {
		t.Errorf("a box behind a full line is %s", shown(got))
	}
}

// TestSplitEmpty holds P17.2 to boxes without codes: they go, and are of no account.
func TestSplitEmpty(t *testing.T) {
	wide := api.Item{Kind: api.ItemBox, Width: 99999, Font: 4, Size: 10000}
	checkSplit(t, []parted{
		{items(mono("")), 12000, ""},
		{items(wide), 12000, ""},
		{items(wide), 99999, ""},
		{items(api.Item{Kind: api.ItemBox}), 0, ""},
		{items(api.Item{Kind: api.ItemBox, Width: -1}), 0, ""},
		{items(mono(""), mono("")), 0, ""},
		{items(wide, mono("ab")), 12000, "ab/4"},
		{items(mono("a"), wide, mono("b")), 12000, "a/4 b/4"},
		{items(mono("ab"), mono(""), mono("c")), 12000, "ab/4 | c/4"},
		{items(glue(), wide, glue()), 12000, "_ _"},
		{items(wide, penalty(-10000), wide), 12000, "!"},
	})
}

// TestSplitFonts holds P17.2 to parts of each font, size and link.
func TestSplitFonts(t *testing.T) {
	for _, f := range append(strange(), 0, 1, 2, 3, 4) {
		for _, size := range []int{0, 1, 2, 3, 999, 1000, 4000, 10000, 72000, 1<<31 - 1, 1 << 31} {
			for _, link := range []int{0, 1, -1, math.MaxInt, math.MinInt} {
				x := boxAsked("Wil\x00\xff m", f, size, link)
				for _, width := range []int{-1, 0, x.Width - 1, x.Width, x.Width / 2, x.Width / 3, size, size / 2} {
					got := heldSplit(t, items(x, x), width)
					if codesOf(got) != x.Codes+x.Codes {
						t.Errorf("Split(%s, %d) is %s", shown(items(x, x)), width, shown(got))
					}
				}
			}
		}
	}
	x := boxAsked("iWi", api.FontBold, 10000, 3) // 2780, 9440, 2780
	checkSplit(t, []parted{
		{items(x), 15000, "iWi/1@3"},
		{items(x), 14999, "iW/1@3 | i/1@3"},
		{items(x), 12220, "iW/1@3 | i/1@3"},
		{items(x), 12219, "i/1@3 | W/1@3 | i/1@3"},
		{items(x), 9439, "i/1@3 | W/1@3 | i/1@3"},
		{items(x), 2779, "i/1@3 | W/1@3 | i/1@3"},
		{items(x, x), 12220, "iW/1@3 | i/1@3 i/1@3 | Wi/1@3"},
		{items(x, boxAsked("ii", api.FontPlain, 10000, 0)), 12220, "iW/1@3 | i/1@3 ii"},
	})
}

// TestSplitNothingWide holds P17.2 to codes that go nowhere: while nothing is used, one stands at least.
func TestSplitNothingWide(t *testing.T) {
	x := boxAsked("abc", api.FontMono, 0, 0)
	a, b, c := boxAsked("a", api.FontMono, 0, 0), boxAsked("b", api.FontMono, 0, 0), boxAsked("c", api.FontMono, 0, 0)
	for _, width := range []int{0, 1, 5, math.MaxInt} {
		if got := heldSplit(t, items(x, x), width); !same(got, items(x, x)) {
			t.Errorf("Split(%s, %d) is %s", shown(items(x, x)), width, shown(got))
		}
	}
	for _, width := range []int{-1, math.MinInt} {
		if got := heldSplit(t, items(x, a), width); !same(got, items(a, penalty(0), b, penalty(0), c, a)) {
			t.Errorf("Split(%s, %d) is %s", shown(items(x, a)), width, shown(got))
		}
	}
	// Of the least sizes some codes go nowhere, others don't.
	y := boxAsked("iiWiWW", api.FontPlain, 2, 0) // 0 0 1 0 1 1
	for width := range 5 {
		heldSplit(t, items(y, y), width-1)
	}
}

// TestSplitStrange holds P17.2 to boxes whose width isn't that of their codes, and to the ends of numbers, which may not wrap round.
func TestSplitStrange(t *testing.T) {
	box := func(width int, codes string) api.Item {
		return api.Item{Kind: api.ItemBox, Width: width, Codes: codes, Font: api.FontMono, Size: 10000}
	}
	for _, x := range []struct {
		l     []api.Item
		width int
		want  []api.Item
	}{
		{items(box(5, "abc")), 10, items(box(5, "abc"))},
		{items(box(5, "abc"), mono("d")), 6005, items(box(5, "abc"), mono("d"))},
		{items(box(99999, "abc")), 20000, items(mono("abc"))},
		{items(box(99999, "abc"), mono("d")), 20000, items(mono("abc"), penalty(0), mono("d"))},
		{items(box(99999, "abc")), 12000, items(mono("ab"), penalty(0), mono("c"))},
		{items(box(12001, "abc")), 12000, items(mono("ab"), penalty(0), mono("c"))},
		{items(mono("a"), box(11999, "abc")), 12000, items(mono("a"), mono("a"), penalty(0), mono("bc"))},
		{items(mono("ab"), box(11999, "abc")), 12000, items(mono("ab"), penalty(0), box(11999, "abc"))},
		{items(box(-6000, "a"), mono("bcd")), 12000, items(box(-6000, "a"), mono("bcd"))},
		{items(box(-5999, "a"), mono("bcd")), 12000, items(box(-5999, "a"), mono("bc"), penalty(0), mono("d"))},
		{items(box(-5, "a"), mono("b")), 0, items(box(-5, "a"), penalty(0), mono("b"))},
		{items(box(-6000, "a"), box(6000, "b"), mono("c")), 0, items(box(-6000, "a"), box(6000, "b"), mono("c"))},
		{items(box(math.MaxInt, "a")), math.MaxInt, items(box(math.MaxInt, "a"))},
		{items(box(math.MaxInt, "a"), mono("b")), math.MaxInt, items(box(math.MaxInt, "a"), penalty(0), mono("b"))},
		{items(box(math.MaxInt, "a"), box(math.MaxInt, "b")), math.MaxInt, items(box(math.MaxInt, "a"), penalty(0), box(math.MaxInt, "b"))},
		{items(box(math.MaxInt, "a"), box(math.MaxInt, "b")), 12000, items(mono("a"), mono("b"))},
		{items(box(math.MinInt, "a"), mono("b")), 1, items(box(math.MinInt, "a"), mono("b"))},
		{items(box(math.MinInt, "a"), box(math.MaxInt, "b"), mono("c")), math.MaxInt, items(box(math.MinInt, "a"), box(math.MaxInt, "b"), mono("c"))},
		{items(box(math.MinInt, "a"), box(math.MinInt, "b"), box(math.MaxInt, "c"), box(math.MaxInt, "d"), mono("e")), 5998, items(box(math.MinInt, "a"), box(math.MinInt, "b"), box(math.MaxInt, "c"), box(math.MaxInt, "d"), mono("e"))},
		{items(box(math.MinInt, "a"), box(math.MinInt, "b"), box(math.MaxInt, "c"), box(math.MaxInt, "d"), mono("e")), 5997, items(box(math.MinInt, "a"), box(math.MinInt, "b"), box(math.MaxInt, "c"), box(math.MaxInt, "d"), penalty(0), mono("e"))},
		{items(box(math.MinInt, "a")), math.MinInt, items(box(math.MinInt, "a"))},
		{items(box(math.MinInt+1, "a")), math.MinInt, items(mono("a"))},
		{items(mono("a"), box(math.MinInt, "b")), math.MinInt, items(mono("a"), penalty(0), box(math.MinInt, "b"))},
		{items(mono("a"), mono("b")), math.MinInt, items(mono("a"), penalty(0), mono("b"))},
	} {
		if got := heldSplit(t, x.l, x.width); !same(got, x.want) {
			t.Errorf("Split(%s, %d) is\n%s, not\n%s", shown(x.l), x.width, shown(got), shown(x.want))
		}
	}
}

// TestSplitEnds holds P1 to items for which Split isn't asked: sizes that no font has.
func TestSplitEnds(t *testing.T) {
	for _, size := range []int{-1, -10000, -1 << 31, math.MinInt, 1<<31 + 1, math.MaxInt} {
		for _, width := range []int{math.MinInt, -1, 0, 1, 99999, math.MaxInt} {
			x := api.Item{Kind: api.ItemBox, Width: math.MaxInt, Codes: "abc \xff", Font: 9, Size: size}
			item.Split(items(x, x, glue(), x), width)
		}
	}
}

// TestSplitShort holds P17.2 to all short lists of a few items, in many widths.
func TestSplitShort(t *testing.T) {
	plainBox := func(codes string) api.Item { return boxAsked(codes, api.FontPlain, 1000, 1) }
	pieces := []api.Item{plainBox("i"), plainBox("Wi"), plainBox("iiWi"), plainBox(""), glueAsked(0, 1000), penalty(50), {}}
	var each func(l []api.Item)
	each = func(l []api.Item) {
		for width := -1; width < 3000; width += 111 {
			heldSplit(t, l, width)
		}
		if len(l) < 4 {
			for _, p := range pieces {
				each(append(l[:len(l):len(l)], p))
			}
		}
	}
	each(nil)
}

// TestSplitMixed holds P17.2 to items of any kind, and widths of any kind.
func TestSplitMixed(t *testing.T) {
	c := chance(20261122)
	widths := []int{-1 << 63, -1, 0, 1, 2, 5, 1000, 2780, 5560, 5999, 6000, 6001, 12000, 20000, 43200, 72000, 100000, 1<<63 - 1}
	for range 60000 {
		l := c.items(8)
		width := one(&c, widths)
		if c.below(2) == 0 {
			width = c.below(80000)
		}
		heldSplit(t, l, width)
	}
	numbers := []int{-1 << 63, -1<<63 + 1, -1 << 62, -1 << 32, -6000, -1, 0, 1, 6000, 12000, 1 << 32, 1 << 62, 1<<63 - 2, 1<<63 - 1}
	for range 60000 {
		var l []api.Item
		for range c.below(8) {
			x := boxAsked(one(&c, []string{"", "a", "ab", "abc"}), api.FontMono, 10000, 0)
			if c.below(4) > 0 {
				x.Width = one(&c, numbers)
			}
			if c.below(8) == 0 {
				x.Kind = one(&c, kinds())
			}
			l = append(l, x)
		}
		heldSplit(t, l, one(&c, numbers))
	}
}

// hasRoom holds P17.3: the boxes between places where a line may end have room, but one code that alone is too wide.
func hasRoom(t *testing.T, l []api.Item, width int) {
	t.Helper()
	used, codes := 0, 0
	for i, x := range l {
		if x.Kind != api.ItemBox {
			used, codes = 0, 0
			continue
		}
		used += x.Width
		codes += len(x.Codes)
		if used > width && codes > 1 {
			t.Errorf("up to item %d what stands in %d is %d wide: %s", i, width, used, shown(l[max(i-9, 0):i+1]))
			return
		}
	}
}

// TestSplitRoom holds P17.3 to spans of any kind, and to texts, and holds that no code goes, nor is set in another way.
func TestSplitRoom(t *testing.T) {
	c := chance(20261123)
	for range 20000 {
		size := one(&c, []int{4000, 10000, 72000})
		l, _ := item.Make(c.spans(4), c.below(5), size, 1)
		for _, width := range []int{size / 10, size / 2, size, 2 * size, 3 * size, 10 * size} {
			got := heldSplit(t, l, width)
			hasRoom(t, got, width)
			if signs(got) != signs(l) {
				t.Errorf("Split(%s, %d) is %s", shown(l), width, shown(got))
			}
			// What has room has it still.
			if again := item.Split(got, width); !same(again, got) {
				t.Errorf("Split of %s, again, is %s", shown(got), shown(again))
			}
		}
	}
}

// signs tells each code of l with its font, size and link.
func signs(l []api.Item) string {
	var b []byte
	for _, x := range l {
		for i := range len(x.Codes) {
			b = append(b, x.Codes[i])
			b = strconv.AppendInt(b, int64(x.Font), 10)
			b = append(b, ' ')
			b = strconv.AppendInt(b, int64(x.Size), 10)
			b = append(b, ' ')
			b = strconv.AppendInt(b, int64(x.Link), 10)
		}
	}
	return string(b)
}

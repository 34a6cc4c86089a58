package item_test

import (
	"math"
	"strings"
	"testing"

	"compositor/api"
	"compositor/code"
	"compositor/inline"
	"compositor/item"
	"compositor/plain"
	"compositor/tree"
)

// Short forms of spans.

func text(s string) api.Span { return api.Span{Kind: api.SpanText, Text: s} }

func coded(s string) api.Span { return api.Span{Kind: api.SpanCode, Text: s} }

func of(kind int, kids ...api.Span) api.Span { return api.Span{Kind: kind, Kids: kids} }

func soft() api.Span { return of(api.SpanSoft) }

func hard() api.Span { return of(api.SpanHard) }

func emph(kids ...api.Span) api.Span { return of(api.SpanEmph, kids...) }

func strong(kids ...api.Span) api.Span { return of(api.SpanStrong, kids...) }

func link(kids ...api.Span) api.Span { return of(api.SpanLink, kids...) }

func image(kids ...api.Span) api.Span { return of(api.SpanImage, kids...) }

func list(l ...api.Span) []api.Span { return l }

// example is spans with the items that they make, in short.
type example struct {
	l    []api.Span
	want string
}

// check holds Make to examples, in a plain font of 10000, and to the model too.
func check(t *testing.T, l []example) {
	t.Helper()
	for _, x := range l {
		got, _ := heldMake(t, x.l, api.FontPlain, 10000, 1)
		if shown(got) != x.want {
			t.Errorf("Make(%+v) is %s, not %s", x.l, shown(got), x.want)
		}
	}
}

// TestExample holds the chapter's example.
func TestExample(t *testing.T) {
	l, next := item.Make(list(text("ab  c")), api.FontPlain, 10000, 1)
	if len(l) != 3 || l[0].Kind != api.ItemBox || l[1].Kind != api.ItemGlue || l[2].Kind != api.ItemBox || next != 1 {
		t.Errorf("Make is %s, and %d", shown(l), next)
	}
}

// TestItems holds P17.1 to all fields of each kind of item.
func TestItems(t *testing.T) {
	got, next := item.Make(list(text("i i"), hard(), link(coded("x y"))), api.FontBold, 20000, 7)
	want := []api.Item{
		{Kind: api.ItemBox, Width: 5560, Codes: "i", Font: api.FontBold, Size: 20000},
		{Kind: api.ItemGlue, Width: 5560, Grow: 2780, Shrink: 1853},
		{Kind: api.ItemBox, Width: 5560, Codes: "i", Font: api.FontBold, Size: 20000},
		{Kind: api.ItemPenalty, Cost: -10000},
		{Kind: api.ItemBox, Width: 12000, Codes: "x", Font: api.FontMono, Size: 20000, Link: 7},
		{Kind: api.ItemGlue, Width: 12000, Grow: 6000, Shrink: 4000},
		{Kind: api.ItemBox, Width: 12000, Codes: "y", Font: api.FontMono, Size: 20000, Link: 7},
	}
	if !same(got, want) || next != 8 {
		t.Errorf("Make is %+v and %d, not %+v and 8", got, next, want)
	}
}

// TestTexts holds P17.1 to texts: words, and blanks, tabs and LFs ahead, behind, between them and alone.
func TestTexts(t *testing.T) {
	check(t, []example{
		{nil, ""},
		{list(), ""},
		{list(text("")), ""},
		{list(text("a")), "a"},
		{list(text("ab")), "ab"},
		{list(text("a b")), "a _ b"},
		{list(text("a\tb")), "a _ b"},
		{list(text("a\nb")), "a _ b"},
		{list(text("a b c")), "a _ b _ c"},
		{list(text("a  b")), "a _ b"},
		{list(text("a \t\nb")), "a _ b"},
		{list(text("a\n\n\t\t  b \n c")), "a _ b _ c"},
		{list(text(" ")), ""},
		{list(text("\t")), ""},
		{list(text("\n")), ""},
		{list(text(" \t\n ")), ""},
		{list(text(" a")), "a"},
		{list(text("\ta")), "a"},
		{list(text("\na")), "a"},
		{list(text("  \n\ta")), "a"},
		{list(text("a ")), "a"},
		{list(text("a\t")), "a"},
		{list(text("a\n")), "a"},
		{list(text("a \t\n")), "a"},
		{list(text(" ab  c ")), "ab _ c"},
		{list(text("a.b,c-d")), "a.b,c-d"},
	})
}

// TestCodes holds P17.1 to what is no blank, to runes, and to bytes of no rune.
func TestCodes(t *testing.T) {
	check(t, []example{
		{list(text("a\rb")), "a?b"},
		{list(text("a\vb\fc")), "a?b?c"},
		{list(text("\x00")), "?"},
		{list(text("a\u00a0b")), "a\\xa0b"},
		{list(text("\u2003a\u2028b\u3000")), "?a?b?"},
		{list(text("\u00e4\u20ac \u201e")), "\\xe4\\x80 _ \\x84"},
		{list(text("\u4e00\U0001f600")), "??"},
		{list(text("\xff")), "?"},
		{list(text("a\xffb\x80")), "a?b?"},
		{list(text("\xc3 \xa4")), "? _ ?"},
		{list(text("\xe2\x82\n\xac")), "?? _ ?"},
		{list(text("\xe2\x82"), text("\xac")), "?? ?"},
		{list(text("\xed\xa0\x80")), "???"},
		{list(coded("\xff \u20ac")), "?/4 = \\x80/4"},
	})
}

// TestEachByte holds P17.1 to each byte between two others.
func TestEachByte(t *testing.T) {
	for n := range 256 {
		s := "a" + string([]byte{byte(n)}) + "b"
		want := []api.Item{boxAsked(code.Codes(s), 0, 10000, 0)}
		if n == 32 || n == 9 || n == 10 {
			want = []api.Item{boxAsked("a", 0, 10000, 0), glueAsked(0, 10000), boxAsked("b", 0, 10000, 0)}
		}
		got, _ := heldMake(t, list(text(s)), 0, 10000, 1)
		if !same(got, want) {
			t.Errorf("Make of %q is %s", s, shown(got))
		}
	}
}

// TestEachRune holds P17.1 to each rune but the blank ones.
func TestEachRune(t *testing.T) {
	for r := rune(0); r <= 0x10ffff; r++ {
		if r == ' ' || r == '\t' || r == '\n' {
			continue
		}
		c, _ := code.To(r)
		if 0xd800 <= r && r < 0xe000 {
			c = '?'
		}
		l, _ := item.Make(list(text(string(r))), 0, 1000, 1)
		if len(l) != 1 || l[0] != boxAsked(string([]byte{c}), 0, 1000, 0) {
			t.Fatalf("Make of %x is %s", r, shown(l))
		}
	}
}

// TestBeside holds P17.1 to texts side by side: each has boxes of its own, and of all glue between two boxes the first one stands.
func TestBeside(t *testing.T) {
	check(t, []example{
		{list(text("a"), text("b")), "a b"},
		{list(text("a"), text(""), text("b")), "a b"},
		{list(text("a "), text("b")), "a _ b"},
		{list(text("a"), text(" b")), "a _ b"},
		{list(text("a "), text(" b")), "a _ b"},
		{list(text("a"), text(" "), text("b")), "a _ b"},
		{list(text("a\t"), text("\n"), text(" b")), "a _ b"},
		{list(text(" "), text("a")), "a"},
		{list(text("a"), text(" ")), "a"},
		{list(text(" "), text("\n")), ""},
		{list(text("a"), coded("b"), text("c")), "a b/4 c"},
		{list(text("a "), coded(" b")), "a _ b/4"},
		{list(text("a"), coded(" b")), "a = b/4"},
		{list(coded("a "), text(" b")), "a/4 = b"},
		{list(coded("a"), text(" b")), "a/4 _ b"},
		{list(text("a"), coded("  "), text(" b")), "a = b"},
		{list(text("a"), emph(text(" b "), strong(text(" c "))), text(" d")), "a _ b/2 _ c/3 _ d"},
		{list(emph(text("a ")), text("b")), "a/2 _ b"},
		{list(emph(text(" a"))), "a/2"},
		{list(text("a"), emph(text(" "))), "a"},
		{list(text("a"), link(text(" ")), text("b")), "a _ b"},
		{list(text("a"), image(text("\n"), soft()), text(" b")), "a _ b"},
	})
}

// TestCode holds P17.1 to code and HTML.
func TestCode(t *testing.T) {
	html := func(s string) api.Span { return api.Span{Kind: api.SpanHtml, Text: s} }
	check(t, []example{
		{list(coded("")), ""},
		{list(coded(" ")), ""},
		{list(coded("a")), "a/4"},
		{list(coded(" a  b\tc\n")), "a/4 = b/4 = c/4"},
		{list(html("")), ""},
		{list(html("<a>")), "<a>/4"},
		{list(html("<a\nb='c  d'>")), "<a/4 = b='c/4 = d'>/4"},
		{list(html(" \t")), ""},
		{list(strong(coded("a b"), html("<c d>"))), "a/4 = b/4 <c/4 = d>/4"},
		{list(link(coded("a"), html("<b>"))), "a/4@1 <b>/4@1"},
	})
}

// TestSoft holds P17.1 to soft breaks: each is a glue of the font in which it is.
func TestSoft(t *testing.T) {
	check(t, []example{
		{list(soft()), ""},
		{list(soft(), soft()), ""},
		{list(text("a"), soft(), text("b")), "a _ b"},
		{list(text("a"), soft(), soft(), text("b")), "a _ b"},
		{list(text("a "), soft(), text(" b")), "a _ b"},
		{list(soft(), text("a"), soft()), "a"},
		{list(coded("a "), soft(), text("b")), "a/4 = b"},
		{list(coded("a"), soft(), coded("b")), "a/4 _ b/4"},
		{list(text("a"), hard(), soft(), text("b")), "a ! b"},
		{list(text("a"), soft(), hard(), soft(), text("b")), "a ! b"},
		{list(text("a"), emph(soft()), text("b")), "a _ b"},
	})
	got, _ := heldMake(t, list(coded("a"), soft(), coded("b")), api.FontMono, 10000, 1)
	if shown(got) != "a/4 = b/4" {
		t.Errorf("a soft break of a mono font is %s", shown(got))
	}
}

// TestHard holds P17.1 to hard breaks behind a box, a glue, another hard break, and nothing.
func TestHard(t *testing.T) {
	check(t, []example{
		{list(hard()), ""},
		{list(hard(), hard()), ""},
		{list(hard(), text("a")), "a"},
		{list(hard(), text(" a")), "a"},
		{list(text(" "), hard(), text("a")), "a"},
		{list(soft(), hard(), soft(), hard()), ""},
		{list(text(""), hard(), text("a")), "a"},
		{list(text("a"), hard()), "a !"},
		{list(text("a "), hard()), "a !"},
		{list(text("a"), hard(), text(" ")), "a !"},
		{list(text("a"), hard(), text("b")), "a ! b"},
		{list(text("a "), hard(), text("b")), "a ! b"},
		{list(text("a"), soft(), hard(), text("b")), "a ! b"},
		{list(text("a \n\t"), hard(), text("\t\n b")), "a ! b"},
		{list(text("a"), hard(), hard(), text("b")), "a ! b"},
		{list(text("a"), hard(), text(" "), hard(), text("b")), "a ! b"},
		{list(text("a"), hard(), soft(), hard(), hard(), text("b")), "a ! b"},
		{list(text("a"), hard(), text("b"), hard(), text("c")), "a ! b ! c"},
		{list(text("a"), hard(), text("b"), hard()), "a ! b !"},
		// What is ahead may be in another span.
		{list(emph(text("a")), hard(), text("b")), "a/2 ! b"},
		{list(text("a"), emph(hard(), text("b"))), "a ! b/2"},
		{list(text("a "), emph(hard(), text(" b"))), "a ! b/2"},
		{list(emph(text("a "), hard()), hard(), text(" b")), "a/2 ! b"},
		{list(emph(hard()), strong(hard()), text("a")), "a"},
		{list(link(text("a")), image(hard()), coded("b")), "a@1 ! b/4"},
		{list(text("a"), emph(), hard(), text("b")), "a ! b"},
	})
}

// TestFonts holds P17.1 to each font, and to those that there aren't, in emphasis, in strong spans and in both, one in the other.
func TestFonts(t *testing.T) {
	x := text("a")
	ways := map[string]api.Span{
		"":   x,
		"e":  emph(x),
		"s":  strong(x),
		"es": emph(strong(x)),
		"se": strong(emph(x)),
		"ee": emph(emph(x)),
		"ss": strong(strong(x)),
		"c":  coded("a"),
		"ec": emph(coded("a")),
		"sc": strong(emph(coded("a"))),
		"el": emph(link(image(x))),
		"sl": link(image(strong(x))),
	}
	hold := func(way string, f, want int) {
		t.Helper()
		l, _ := heldMake(t, list(ways[way]), f, 10000, 1)
		if len(l) != 1 || l[0].Font != want {
			t.Errorf("in font %d, way %q, Make is %s, not of font %d", f, way, shown(l), want)
		}
	}
	for way, fonts := range map[string][5]int{
		"":   {0, 1, 2, 3, 4},
		"e":  {2, 3, 2, 3, 4},
		"s":  {1, 1, 3, 3, 4},
		"es": {3, 3, 3, 3, 4},
		"se": {3, 3, 3, 3, 4},
		"ee": {2, 3, 2, 3, 4},
		"ss": {1, 1, 3, 3, 4},
		"c":  {4, 4, 4, 4, 4},
		"ec": {4, 4, 4, 4, 4},
		"sc": {4, 4, 4, 4, 4},
		"el": {2, 3, 2, 3, 4},
		"sl": {1, 1, 3, 3, 4},
	} {
		for f, want := range fonts {
			hold(way, f, want)
		}
		for _, f := range strange() {
			if strings.HasSuffix(way, "c") {
				hold(way, f, api.FontMono)
			} else {
				hold(way, f, f)
			}
		}
	}
}

// TestFontsEnd holds P17.1 to the font behind a span: it is the one ahead of it.
func TestFontsEnd(t *testing.T) {
	check(t, []example{
		{list(text("a"), emph(text("b"), strong(text("c")), text("d")), text("e")), "a b/2 c/3 d/2 e"},
		{list(strong(text("a"), emph(text("b")), text("c")), text("d")), "a/1 b/3 c/1 d"},
		{list(emph(), text("a"), strong(), text("b"), coded(""), text("c")), "a b c"},
		{list(emph(coded("a"), text("b")), text("c")), "a/4 b/2 c"},
		{list(emph(text("a b"), soft(), text("c"))), "a/2 _ b/2 _ c/2"},
	})
}

// linked holds Make to spans whose links have the numbers from first on.
func linked(t *testing.T, l []api.Span, first int, want string, wantNext int) {
	t.Helper()
	got, next := heldMake(t, l, api.FontPlain, 10000, first)
	if shown(got) != want || next != wantNext {
		t.Errorf("Make(%+v), links from %d on, is %s and %d, not %s and %d", l, first, shown(got), next, want, wantNext)
	}
}

// TestLinks holds P17.1 to the numbers of links, and the next one.
func TestLinks(t *testing.T) {
	a, b, c := text("a"), text("b"), text("c")
	linked(t, nil, 1, "", 1)
	linked(t, nil, 7, "", 7)
	linked(t, list(a), 1, "a", 1)
	linked(t, list(link()), 1, "", 2)
	linked(t, list(link(text(" "))), 1, "", 2)
	linked(t, list(link(a)), 1, "a@1", 2)
	linked(t, list(link(a)), 4, "a@4", 5)
	linked(t, list(a, link(b), c), 1, "a b@1 c", 2)
	linked(t, list(link(a), link(b), link(c)), 3, "a@3 b@4 c@5", 6)
	linked(t, list(link(text("a b"), soft(), emph(c))), 1, "a@1 _ b@1 _ c/2@1", 2)
	linked(t, list(text("a "), link(text(" b "), hard()), c), 1, "a _ b@1 ! c", 2)
	// In one another: in the order in which they begin.
	linked(t, list(link(a, link(b), c), text("d")), 1, "a@1 b@2 c@1 d", 3)
	linked(t, list(link(link(link(a), b), c), link(text("d"))), 1, "a@3 b@2 c@1 d@4", 5)
	linked(t, list(link(link(), link(a), b)), 1, "a@3 b@1", 4)
	// In emphasis.
	linked(t, list(emph(link(a), b), strong(c, link(text("d")))), 1, "a/2@1 b/2 c/1 d/1@2", 3)
	linked(t, list(emph(strong(emph(link(a)))), link(b)), 1, "a/3@1 b@2", 3)
	linked(t, list(link(emph(a, link(b), c))), 1, "a/2@1 b/2@2 c/2@1", 3)
	linked(t, list(link(strong(a)), coded("b")), 1, "a/1@1 b/4", 2)
}

// TestImages holds P17.1 to images: no link in one counts, and all is of the link in which the image is.
func TestImages(t *testing.T) {
	a, b, c := text("a"), text("b"), text("c")
	linked(t, list(image()), 1, "", 1)
	linked(t, list(image(a)), 1, "a", 1)
	linked(t, list(image(link(a))), 1, "a", 1)
	linked(t, list(image(link(a), b), link(c)), 1, "a b c@1", 2)
	linked(t, list(image(a, emph(link(b), strong(link(c))))), 1, "a b/2 c/3", 1)
	linked(t, list(image(image(link(a)), link(b))), 5, "a b", 5)
	linked(t, list(image(link(image(link(a))), b)), 5, "a b", 5)
	linked(t, list(link(image(a))), 1, "a@1", 2)
	linked(t, list(link(image(a, link(b), c))), 1, "a@1 b@1 c@1", 2)
	linked(t, list(link(image(link(a)), link(b))), 1, "a@1 b@2", 3)
	linked(t, list(link(a, link(image(link(b))), image(c))), 1, "a@1 b@2 c@1", 3)
	linked(t, list(link(emph(image(strong(link(a)))))), 1, "a/3@1", 2)
	linked(t, list(image(coded("a b"), soft(), text("c"), hard(), text("d"))), 1, "a/4 = b/4 _ c ! d", 1)
	linked(t, list(text("a "), image(text(" b ")), text(" c")), 1, "a _ b _ c", 1)
}

// TestNumbers holds P17.1 to links' numbers of any kind.
func TestNumbers(t *testing.T) {
	l := list(link(text("a"), link(text("b"))), text("c"))
	linked(t, l, 0, "a b@1 c", 2)
	linked(t, l, -1, "a@-1 b c", 1)
	linked(t, l, math.MinInt, "a@-9223372036854775808 b@-9223372036854775807 c", math.MinInt+2)
	linked(t, l, math.MaxInt-2, "a@9223372036854775805 b@9223372036854775806 c", math.MaxInt)
	item.Make(l, 0, 10000, math.MaxInt)
}

// TestKinds holds P17.1 to spans of each kind, with all that a span may have: what isn't of its kind is of no account, and one of no kind makes nothing.
func TestKinds(t *testing.T) {
	for _, kind := range kinds() {
		want, next := "y z", 3
		switch kind {
		case api.SpanText:
			want = "y a _ b z"
		case api.SpanSoft:
			want = "y _ z"
		case api.SpanHard:
			want = "y ! z"
		case api.SpanCode, api.SpanHtml:
			want = "y a/4 = b/4 z"
		case api.SpanEmph:
			want, next = "y c/2 d/2@3 z", 4
		case api.SpanStrong:
			want, next = "y c/1 d/1@3 z", 4
		case api.SpanLink:
			want, next = "y c@3 d@4 z", 5
		case api.SpanImage:
			want = "y c d z"
		}
		x := api.Span{Kind: kind, Text: "a b", Dest: "e", Title: "f", Kids: list(text("c"), link(text("d")))}
		linked(t, list(text("y"), x, text("z")), 3, want, next)
	}
	check(t, []example{
		{list(api.Span{}), ""},
		{list(api.Span{}, api.Span{}), ""},
		{list(text("a "), api.Span{}, text(" b")), "a _ b"},
		{list(text("a"), api.Span{Text: "b", Kids: list(hard())}, text("c")), "a c"},
		{list(emph(api.Span{}), link(api.Span{Kind: -1}), image(api.Span{Kind: 10})), ""},
	})
}

// TestKindsInKinds holds P17.1 to spans of each kind in each other.
func TestKindsInKinds(t *testing.T) {
	for _, kind := range kinds() {
		for _, in := range kinds() {
			for _, third := range kinds() {
				kids := list(text("c "), api.Span{Kind: third, Text: " d", Kids: list(text("e"))}, text("f"))
				l := list(text("y"), api.Span{Kind: kind, Text: "a ", Kids: list(api.Span{Kind: in, Text: "b", Kids: kids}, text(" g"))}, text("z"))
				heldMake(t, l, api.FontPlain, 10000, 1)
				heldMake(t, l, api.FontBold, 4000, 9)
			}
		}
	}
}

// TestSizes holds P17.1 to sizes from end to end: half of a glue, and a third, are rounded down.
func TestSizes(t *testing.T) {
	l := list(text("Wi i"), coded("a b"), hard(), emph(strong(text("c"))))
	sizes := []int{0, 1, 2, 3, 4, 5, 9, 10, 11, 12, 13, 14, 15, 18, 21, 999, 1000, 1001, 4000, 10000, 12345, 72000, 1 << 24, 1<<31 - 1, 1 << 31}
	for _, size := range sizes {
		for f := range 6 {
			heldMake(t, l, f, size, 1)
		}
	}
	for _, x := range []struct{ size, width, grow, shrink int }{
		{0, 0, 0, 0},
		{3, 0, 0, 0},
		{4, 1, 0, 0},
		{8, 2, 1, 0},
		{11, 3, 1, 1},
		{18, 5, 2, 1},
		{22, 6, 3, 2},
		{72000, 20016, 10008, 6672},
		{1 << 31, 597000454, 298500227, 199000151},
	} {
		got, _ := item.Make(list(text("a b")), api.FontPlain, x.size, 1)
		want := api.Item{Kind: api.ItemGlue, Width: x.width, Grow: x.grow, Shrink: x.shrink}
		if len(got) != 3 || got[1] != want || got[0].Size != x.size {
			t.Errorf("Make of size %d is %+v", x.size, got)
		}
	}
	// For these Make isn't asked; it ends all the same.
	for _, size := range []int{-1, -10000, math.MinInt, math.MaxInt, 1<<31 + 1} {
		item.Make(l, api.FontPlain, size, 1)
	}
}

// lists hands on all lists of at most so many of these spans.
func lists(count int, pieces []api.Span, do func(l []api.Span)) {
	do(nil)
	if count == 0 {
		return
	}
	for _, p := range pieces {
		lists(count-1, pieces, func(l []api.Span) { do(append([]api.Span{p}, l...)) })
	}
}

// TestShort holds P17.1 to all short lists of a few spans.
func TestShort(t *testing.T) {
	for _, pieces := range [][]api.Span{
		{text("a"), text(" "), hard(), soft(), coded(" b"), emph(text("c "))},
		{text("a "), text(" b"), text("\n"), hard(), link(hard(), text("c")), image(link(text("d")))},
		{link(text("a")), link(link(text("b")), text(" ")), image(link(text("c")), soft()), strong(link()), {}},
		{text(""), coded(""), emph(), strong(hard()), text("a"), link(soft())},
	} {
		lists(4, pieces, func(l []api.Span) {
			heldMake(t, l, api.FontPlain, 10000, 1)
			heldMake(t, list(link(l...), text("z")), api.FontOblique, 10000, 2)
		})
	}
}

// TestMixed holds P17.1 to spans of any kind in one another.
func TestMixed(t *testing.T) {
	c := chance(20261120)
	for range 20000 {
		heldMake(t, c.spans(5), one(&c, []int{0, 1, 2, 3, 4, 5, -1}), one(&c, []int{0, 1, 4000, 10000, 72000}), c.below(9))
	}
}

// TestDocuments holds P17.1 to documents: each leaf's links are numbered on from the ones ahead, and all signs but blanks are told.
func TestDocuments(t *testing.T) {
	pieces := []string{
		"a", "b ", " ", "\n", "*a*", "**b**", "***c d***", "`e f`", "<b>", "&amp;", "&#10;", "&nbsp;", "\u20ac", "\xff", "\\\n", "  \n", "# ", "> ", "\n\n",
		"[g](/u)", "[*h*](/v)", "![i](/w)", "![[j](/x)](/y)", "[![k](/z)](/t)", "<http://l>", "*[m](/n)*", "[o <http://p>](/q)",
	}
	c := chance(20261121)
	for range 3000 {
		var s strings.Builder
		for range c.below(12) {
			s.WriteString(one(&c, pieces))
		}
		b, e := tree.Parse(s.String())
		if e != api.OK {
			t.Fatalf("%q is no document: error %d", s.String(), e)
		}
		next := 1
		for _, leaf := range tree.Leaves(b) {
			var l []api.Item
			l, next = heldMake(t, leaf.Spans, api.FontPlain, 10000, next)
			if got, want := codesOf(l), code.Codes(unblank(plain.Spans(leaf.Spans))); got != want {
				t.Errorf("of %q the boxes have %q, not %q", s.String(), got, want)
			}
		}
		if want := 1 + len(plain.Links(b)); next != want {
			t.Errorf("behind %q the next link is %d, not %d", s.String(), next, want)
		}
	}
}

// codesOf tells the codes of all boxes, one behind the other.
func codesOf(l []api.Item) string {
	var b strings.Builder
	for _, x := range l {
		if x.Kind == api.ItemBox {
			b.WriteString(x.Codes)
		}
	}
	return b.String()
}

// unblank tells s without blanks, tabs and LFs.
func unblank(s string) string {
	return strings.NewReplacer(" ", "", "\t", "", "\n", "").Replace(s)
}

// TestTold holds P17.1 to the spans of texts.
func TestTold(t *testing.T) {
	for _, x := range []struct {
		s, want string
		next    int
	}{
		{"", "", 1},
		{"a *b **c d***", "a _ b/2 _ c/3 _ d/3", 1},
		{"a  \nb\\\nc\nd", "a ! b ! c _ d", 1},
		{"`a  b` <i>c</i>", "a/4 = b/4 _ <i>/4 c </i>/4", 1},
		{"[a *b*](/c) ![d [e](/f)](/g) <http://h>", "a@1 _ b/2@1 _ d _ e _ http://h@2", 3},
		{"[![a](/b) c](/d) [e](/f)", "a@1 _ c@1 _ e@2", 3},
		{"**a*", "* a/2", 1},
	} {
		got, next := heldMake(t, inline.Parse(x.s, nil), api.FontPlain, 10000, 1)
		if shown(got) != x.want || next != x.next {
			t.Errorf("Make of %q is %s and %d, not %s and %d", x.s, shown(got), next, x.want, x.next)
		}
	}
}

package sheet_test

import (
	"strings"
	"testing"

	"compositor/api"
)

// Short forms of blocks.

func text(s string) api.Span { return api.Span{Kind: api.SpanText, Text: s} }

func paragraph(s string) api.Block {
	return api.Block{Kind: api.BlockPara, Spans: []api.Span{text(s)}}
}

func heading(level int, s string) api.Block {
	return api.Block{Kind: api.BlockHeading, Level: level, Spans: []api.Span{text(s)}}
}

// of is a block of that kind that holds others.
func of(kind int, l ...api.Block) api.Block { return api.Block{Kind: kind, Kids: l} }

// holding is a document that holds blocks.
func holding(l ...api.Block) api.Block { return of(api.BlockDoc, l...) }

func entry(l ...api.Block) api.Block { return of(api.BlockItem, l...) }

// list is a list without numbers.
func list(tight bool, l ...api.Block) api.Block {
	return api.Block{Kind: api.BlockList, Mark: '-', Tight: tight, Kids: l}
}

// numbered is a list that counts from a number on.
func numbered(start int, l ...api.Block) api.Block {
	return api.Block{Kind: api.BlockList, Ordered: true, Start: start, Mark: '.', Kids: l}
}

// TestLists holds P20.1 to lists, tight and not: what is ahead of their items, and where these stand.
func TestLists(t *testing.T) {
	check(t, []example{
		{"- a\n- b\n- c\n\nd", wide, rows("0 0 7500/2500 0:o 10560:a .", "2000 0 7500/2500 0:o 10560:b .", "2000 0 7500/2500 0:o 10560:c .", "5000 0 7500/2500 0:d .")},
		{"- a\n\n- b\n- c\n\nd", wide, rows("0 0 7500/2500 0:o 10560:a .", "5000 0 7500/2500 0:o 10560:b .", "5000 0 7500/2500 0:o 10560:c .", "5000 0 7500/2500 0:d .")},
		{"d\n\n- a\n- b", wide, rows("0 0 7500/2500 0:d .", "5000 0 7500/2500 0:o 10560:a .", "2000 0 7500/2500 0:o 10560:b .")},
		{"- a\n- b\n+ c\n+ d", wide, rows("0 0 7500/2500 0:o 10560:a .", "2000 0 7500/2500 0:o 10560:b .", "5000 0 7500/2500 0:o 10560:c .", "2000 0 7500/2500 0:o 10560:d .")},
		{"* a", wide, "0 0 7500/2500 0:o 10560:a ."},
		// Blocks behind the first one of an item.
		{"- a\n\n  b\n- c", wide, rows("0 0 7500/2500 0:o 10560:a .", "5000 0 7500/2500 10560:b .", "5000 0 7500/2500 0:o 10560:c .")},
		{"- a\n  # b\n- c", wide, rows("0 0 7500/2500 0:o 10560:a .", "5000 0 11250/3750 #1 10560:b/1@15000 .", "2000 5000 7500/2500 0:o 10560:c .")},
		{"- a  \n  b  \n  c\n- d", wide, rows("0 0 7500/2500 0:o 10560:a", "2000 500 7500/2500 10560:b", "2000 500 7500/2500 10560:c .", "2000 0 7500/2500 0:o 10560:d .")},
		{"- a\n  ---\n- b", wide, rows("0 0 9750/3250 #1 0:o 10560:a/1@13000 .", "2000 5000 7500/2500 0:o 10560:b .")},
		{"- a\n  ***\n- b", wide, rows("0 0 7500/2500 0:o 10560:a .", "5000 0 5000/0 =10560:189440 .", "2000 0 7500/2500 0:o 10560:b .")},
		// A list in an item: its first item stands beside, or below.
		{"- a\n  - b\n  - c\n- d", wide, rows("0 0 7500/2500 0:o 10560:a .", "5000 0 7500/2500 10560:o 21120:b .", "2000 0 7500/2500 10560:o 21120:c .", "2000 0 7500/2500 0:o 10560:d .")},
		{"- - a\n  - b\n- c", wide, rows("0 0 7500/2500 0:o 10560:o 21120:a .", "2000 0 7500/2500 10560:o 21120:b .", "2000 0 7500/2500 0:o 10560:c .")},
		{"- a\n\n  - b\n  - c\n- d", wide, rows("0 0 7500/2500 0:o 10560:a .", "5000 0 7500/2500 10560:o 21120:b .", "2000 0 7500/2500 10560:o 21120:c .", "5000 0 7500/2500 0:o 10560:d .")},
		{"- a\n- - b\n\n  - c\n- d", wide, rows("0 0 7500/2500 0:o 10560:a .", "2000 0 7500/2500 0:o 10560:o 21120:b .", "5000 0 7500/2500 10560:o 21120:c .", "2000 0 7500/2500 0:o 10560:d .")},
	})
}

// TestSteps holds P20.1 to markers of one digit and of several, and others: the widest one of a list makes its step.
func TestSteps(t *testing.T) {
	check(t, []example{
		{"1. a", wide, "0 0 7500/2500 0:1. 13340:a ."},
		{"7) a", wide, "0 0 7500/2500 0:7) 13890:a ."},
		{"0. a", wide, "0 0 7500/2500 0:0. 13340:a ."},
		{"10. a", wide, "0 0 7500/2500 0:10. 18900:a ."},
		{"8. a\n9. b", wide, rows("0 0 7500/2500 0:8. 13340:a .", "2000 0 7500/2500 0:9. 13340:b .")},
		{"9. a\n9. b", wide, rows("0 0 7500/2500 0:9. 18900:a .", "2000 0 7500/2500 0:10. 18900:b .")},
		{"9. a\n9. b\n\nc\n\n9. d", wide, rows("0 0 7500/2500 0:9. 18900:a .", "2000 0 7500/2500 0:10. 18900:b .", "5000 0 7500/2500 0:c .", "5000 0 7500/2500 0:9. 13340:d .")},
		{"98) a\n5) b\n5) c", wide, rows("0 0 7500/2500 0:98) 25010:a .", "2000 0 7500/2500 0:99) 25010:b .", "2000 0 7500/2500 0:100) 25010:c .")},
		{"999999999. a\n1. b", wide, rows("0 0 7500/2500 0:999999999. 63380:a .", "2000 0 7500/2500 0:1000000000. 63380:b .")},
		{"- a\n\n  9. b\n  9. c", wide, rows("0 0 7500/2500 0:o 10560:a .", "5000 0 7500/2500 10560:9. 29460:b .", "2000 0 7500/2500 10560:10. 29460:c .")},
	})
	for _, x := range []struct {
		b    api.Block
		want string
	}{
		// The first one may be the widest.
		{numbered(-1, entry(paragraph("a")), entry(paragraph("b"))), rows("0 0 7500/2500 0:-1. 16670:a .", "5000 0 7500/2500 0:0. 16670:b .")},
		{numbered(1<<60, entry(paragraph("a"))), "0 0 7500/2500 0:1152921504606846976. 113420:a ."},
		{numbered(-1<<60, entry(paragraph("a"))), "0 0 7500/2500 0:-1152921504606846976. 116750:a ."},
		{api.Block{Kind: api.BlockList, Ordered: true, Start: 1, Kids: []api.Block{entry(paragraph("a"))}}, "0 0 7500/2500 0:1? 16120:a ."},
		{api.Block{Kind: api.BlockList, Ordered: true, Start: 1, Mark: 0x80, Kids: []api.Block{entry(paragraph("a"))}}, "0 0 7500/2500 0:1? 16120:a ."},
		{api.Block{Kind: api.BlockList, Ordered: true, Start: 1, Mark: ' ', Kids: []api.Block{entry(paragraph("a"))}}, "0 0 7500/2500 0:1_ 13340:a ."},
		{api.Block{Kind: api.BlockList, Start: 9, Mark: 'x', Kids: []api.Block{entry(paragraph("a"))}}, "0 0 7500/2500 0:o 10560:a ."},
	} {
		if got := shown(held(t, holding(x.b), wide, 10000), 10000); got != x.want {
			t.Errorf("the lines of %+v are\n%s\nnot\n%s", x.b, got, x.want)
		}
	}
}

// TestFirstLines holds P20.1 to what the first line of an item is, which has its marker.
func TestFirstLines(t *testing.T) {
	check(t, []example{
		// No blocks, and blocks without a line.
		{"-", wide, "0 0 7500/2500 0:o ."},
		{"-\n-\n- a\n-", wide, rows("0 0 7500/2500 0:o .", "2000 0 7500/2500 0:o .", "2000 0 7500/2500 0:o 10560:a .", "2000 0 7500/2500 0:o .")},
		{"- a\n\n-\n- b\n\nc", wide, rows("0 0 7500/2500 0:o 10560:a .", "5000 0 7500/2500 0:o .", "5000 0 7500/2500 0:o 10560:b .", "5000 0 7500/2500 0:c .")},
		{"- ~~~\n- a", wide, rows("0 0 7500/2500 0:o .", "2000 0 7500/2500 0:o 10560:a .")},
		{"- >\n- a", wide, rows("0 0 7500/2500 0:o .", "2000 0 7500/2500 0:o 10560:a .")},
		{"- ~~~\n  ~~~\n  a", wide, "0 0 7500/2500 0:o 10560:a ."},
		{"- >\n\n  a\n\n  b", wide, rows("0 0 7500/2500 0:o 10560:a .", "5000 0 7500/2500 10560:b .")},
		{"- ~~~\n  ~~~\n  ---", wide, rows("0 0 7500/2500 0:o .", "2000 0 5000/0 =10560:189440 .")},
		{"- -\n  - a", wide, rows("0 0 7500/2500 0:o 10560:o .", "2000 0 7500/2500 10560:o 21120:a .")},
		{"- - -\n1. 2. ~~~\n", wide, rows("0 0 5000/0 =0:200000 .", "5000 0 7500/2500 0:1. 13340:2. .")},
		{"- ![](/a)\n- b", wide, rows("0 0 7500/2500 0:o .", "2000 0 7500/2500 0:o 10560:b .")},
		// A rule.
		{"- ***", wide, rows("0 0 7500/2500 0:o .", "2000 0 5000/0 =10560:189440 .")},
		{"a\n\n1. ***\n\n   b\n2. ***\n", wide, rows("0 0 7500/2500 0:a .", "5000 0 7500/2500 0:1. .", "2000 0 5000/0 =13340:186660 .", "5000 0 7500/2500 13340:b .", "5000 0 7500/2500 0:2. .", "2000 0 5000/0 =13340:186660 .")},
		{"- a\n- ***\n  ***\n- b", wide, rows("0 0 7500/2500 0:o 10560:a .", "2000 0 7500/2500 0:o .", "2000 0 5000/0 =10560:189440 .", "5000 0 5000/0 =10560:189440 .", "2000 0 7500/2500 0:o 10560:b .")},
		{"# a\n- ***\n  b", wide, rows("0 0 11250/3750 #1 0:a/1@15000 .", "5000 5000 7500/2500 0:o .", "2000 0 5000/0 =10560:189440 .", "5000 0 7500/2500 10560:b .")},
		{"- > ---\n  > a", wide, rows("0 0 7500/2500 0:o .", "2000 0 5000/0 =20560:179440 .", "5000 0 7500/2500 20560:a .")},
		{"- + ---", wide, rows("0 0 7500/2500 0:o 10560:o .", "2000 0 5000/0 =21120:178880 .")},
		{"# a\n- + ---\n- b", wide, rows("0 0 11250/3750 #1 0:a/1@15000 .", "5000 5000 7500/2500 0:o 10560:o .", "2000 0 5000/0 =21120:178880 .", "2000 0 7500/2500 0:o 10560:b .")},
		// A heading, which is higher.
		{"- # a\n- b", wide, rows("0 0 11250/3750 #1 0:o 10560:a/1@15000 .", "2000 5000 7500/2500 0:o 10560:b .")},
		{"1. ###### a\n   b", wide, rows("0 0 7500/2500 #1 0:1. 13340:a/1 .", "5000 5000 7500/2500 13340:b .")},
		{"- #\n- a", wide, rows("0 0 11250/3750 #1 0:o .", "2000 5000 7500/2500 0:o 10560:a .")},
		{"- a  \n  b\n  ===", wide, rows("0 0 11250/3750 #1 0:o 10560:a/1@15000", "3000 1000 11250/3750 10560:b/1@15000 .")},
		// Code and HTML.
		{"-     a\n      b\n- c", wide, rows("0 0 7500/2500 0:o 10560:a/4", "2000 0 7500/2500 10560:b/4 .", "2000 0 7500/2500 0:o 10560:c .")},
		{"- ~~~\n\n  a\n  ~~~", wide, rows("0 0 7500/2500 0:o", "2000 0 7500/2500 10560:a/4 .")},
		{"- <a>\n  b", wide, rows("0 0 7500/2500 0:o 10560:<a>/4", "2000 0 7500/2500 10560:b/4 .")},
		// A quote, and another list.
		{"- > a\n  > b\n- c", wide, rows("0 0 7500/2500 0:o 20560:a 28900:b .", "2000 0 7500/2500 0:o 10560:c .")},
		{"- 1. + a\n", wide, "0 0 7500/2500 0:o 10560:1. 23900:o 34460:a ."},
		{"- > 1. # a\n", wide, "0 0 11250/3750 #1 0:o 20560:1. 33900:a/1@15000 ."},
		{"- > -\n  > b", wide, rows("0 0 7500/2500 0:o 20560:o .", "5000 0 7500/2500 20560:b .")},
	})
}

// TestRest holds P20.1 to widths that leave an item two sizes, and one less.
func TestRest(t *testing.T) {
	check(t, []example{
		{"- a\n- b", 30560, rows("0 0 7500/2500 0:o 10560:a .", "2000 0 7500/2500 0:o 10560:b .")},
		{"- a\n- b", 30559, rows("0 0 7500/2500 0:o .", "2000 0 7500/2500 0:a .", "2000 0 7500/2500 0:o .", "2000 0 7500/2500 0:b .")},
		{"- a\n\n- b\n\nc", 30559, rows("0 0 7500/2500 0:o .", "2000 0 7500/2500 0:a .", "5000 0 7500/2500 0:o .", "2000 0 7500/2500 0:b .", "5000 0 7500/2500 0:c .")},
		{"- a\n- b\n\nc", 30559, rows("0 0 7500/2500 0:o .", "2000 0 7500/2500 0:a .", "2000 0 7500/2500 0:o .", "2000 0 7500/2500 0:b .", "5000 0 7500/2500 0:c .")},
		{"9. a\n9. b", 38900, rows("0 0 7500/2500 0:9. 18900:a .", "2000 0 7500/2500 0:10. 18900:b .")},
		{"9. a\n9. b", 38899, rows("0 0 7500/2500 0:9. .", "2000 0 7500/2500 0:a .", "2000 0 7500/2500 0:10. .", "2000 0 7500/2500 0:b .")},
		// No blocks: what comes next is a fifth of the size away.
		{"-\n-\n\na", 30559, rows("0 0 7500/2500 0:o .", "2000 0 7500/2500 0:o .", "2000 0 7500/2500 0:a .")},
		{"-\n\n-\n\na", 30559, rows("0 0 7500/2500 0:o .", "2000 0 7500/2500 0:o .", "2000 0 7500/2500 0:a .")},
		{"- ~~~\n  ~~~\n  a\n\nb", 30559, rows("0 0 7500/2500 0:o .", "2000 0 7500/2500 0:a .", "5000 0 7500/2500 0:b .")},
		// The whole width, and what it is broken in.
		{"- a b c\n\n  d", 15000, rows("0 0 7500/2500 0:o .", "2000 0 7500/2500 0:a 9440:b", "2000 1000 7500/2500 0:c .", "5000 0 7500/2500 0:d .")},
		{"- ***\n- # a\n-     b", 30559, rows("0 0 7500/2500 0:o .", "2000 0 5000/0 =0:30559 .", "2000 0 7500/2500 0:o .", "2000 0 11250/3750 #1 0:a/1@15000 .", "2000 5000 7500/2500 0:o .", "2000 0 7500/2500 0:b/4 .")},
		// Quotes and lists in it.
		{"- > a", 30559, rows("0 0 7500/2500 0:o .", "2000 0 7500/2500 10000:a .")},
		{"> - a", 40560, "0 0 7500/2500 10000:o 20560:a ."},
		{"> - a", 40559, rows("0 0 7500/2500 10000:o .", "2000 0 7500/2500 10000:a .")},
		{"- - a", 41120, "0 0 7500/2500 0:o 10560:o 21120:a ."},
		{"- - a\n  - b\n- c", 41119, rows("0 0 7500/2500 0:o 10560:o .", "2000 0 7500/2500 10560:a .", "2000 0 7500/2500 10560:o .", "2000 0 7500/2500 10560:b .", "2000 0 7500/2500 0:o 10560:c .")},
		{"- - a\n- b", 30559, rows("0 0 7500/2500 0:o .", "2000 0 7500/2500 0:o .", "2000 0 7500/2500 0:a .", "2000 0 7500/2500 0:o .", "2000 0 7500/2500 0:b .")},
		{"100. a\n     - b", 34460, rows("0 0 7500/2500 0:100. .", "2000 0 7500/2500 0:a .", "5000 0 7500/2500 0:o 10560:b .")},
		// Markers that must be broken, or can't be.
		{"10. a", 6000, rows("0 0 7500/2500 0:1", "2000 500 7500/2500 0:0", "2000 500 7500/2500 0:. .", "2000 0 7500/2500 0:a .")},
		{"10. a\n2. b", 11120, rows("0 0 7500/2500 0:10", "2000 1000 7500/2500 0:. .", "2000 0 7500/2500 0:a .", "2000 0 7500/2500 0:11", "2000 1000 7500/2500 0:. .", "2000 0 7500/2500 0:b .")},
		{"# i\n10. a", 6000, rows("0 0 11250/3750 #1 0:i/1@15000 .", "5000 5000 7500/2500 0:1", "2000 500 7500/2500 0:0", "2000 500 7500/2500 0:. .", "2000 0 7500/2500 0:a .")},
		{"- i\n- j", 5000, rows("2000 0 7500/2500 0:i .", "2000 0 7500/2500 0:j .")},
		{"- i\n\n- j\n\nk", 5000, rows("2000 0 7500/2500 0:i .", "2000 0 7500/2500 0:j .", "5000 0 7500/2500 0:k .")},
		{"# i\n- i\n- j", 5000, rows("0 0 11250/3750 #1 0:i/1@15000 .", "2000 5000 7500/2500 0:i .", "2000 0 7500/2500 0:j .")},
		{"- W\n- i", 5560, rows("0 0 7500/2500 0:o .", "2000 0 7500/2500 0:o .", "2000 0 7500/2500 0:i .")},
		{"-     a", 0, "2000 0 7500/2500 0:a/4 ."},
	})
}

// TestWrong holds P20.1 to blocks that no document has.
func TestWrong(t *testing.T) {
	a, b, c := paragraph("a"), paragraph("b"), paragraph("c")
	wrong := api.Block{Kind: api.BlockPara, Level: 2, Ordered: true, Start: 3, Mark: '.', Tight: true, Info: "i", Text: "t", Kids: []api.Block{b}, Spans: a.Spans}
	as := func(kind int) api.Block {
		x := wrong
		x.Kind = kind
		return x
	}
	for _, x := range []struct {
		what string
		b    api.Block
		want string
	}{
		{"nothing", api.Block{}, ""},
		{"a block of no kind", of(0, a), "0 0 7500/2500 0:a ."},
		{"blocks of no kind", holding(of(0, a, of(-1, b)), of(10, c)), rows("0 0 7500/2500 0:a .", "5000 0 7500/2500 0:b .", "5000 0 7500/2500 0:c .")},
		{"a block of no kind behind a heading", holding(heading(6, "h"), of(11), of(0, a)), rows("0 0 7500/2500 #1 0:h/1 .", "5000 5000 7500/2500 0:a .")},
		{"a document in a document", holding(holding(a), holding()), "0 0 7500/2500 0:a ."},
		{"items outside a list", holding(entry(a, b), of(api.BlockQuote, entry(c))), rows("0 0 7500/2500 0:a .", "5000 0 7500/2500 0:b .", "5000 0 7500/2500 10000:c .")},
		{"an item in an item", holding(list(true, entry(entry(a), b))), rows("0 0 7500/2500 0:o 10560:a .", "5000 0 7500/2500 10560:b .")},
		{"lists without items", holding(list(true), a, numbered(7), b), rows("0 0 7500/2500 0:a .", "5000 0 7500/2500 0:b .")},
		{"a list without items in an item", holding(list(true, entry(list(true)), entry(numbered(1), a))), rows("0 0 7500/2500 0:o .", "2000 0 7500/2500 0:o 10560:a .")},
		{"a list without items behind a heading", holding(heading(6, "h"), list(true), a), rows("0 0 7500/2500 #1 0:h/1 .", "5000 5000 7500/2500 0:a .")},
		// Whatever a list holds is an item of it, of which but the blocks that it holds count.
		{"a list of paragraphs", holding(list(true, a, wrong)), rows("0 0 7500/2500 0:o .", "2000 0 7500/2500 0:o 10560:b .")},
		{"a list of lists", holding(list(false, list(true, a), numbered(1, b, c))), rows("0 0 7500/2500 0:o 10560:a .", "5000 0 7500/2500 0:o 10560:b .", "5000 0 7500/2500 10560:c .")},
		{"a list of headings, rules and code", holding(list(true, heading(1, "h"), of(api.BlockRule), as(api.BlockCode))), rows("0 0 7500/2500 0:o .", "2000 0 7500/2500 0:o .", "2000 0 7500/2500 0:o 10560:b .")},
		{"a list of quotes and of no kind", holding(list(true, of(api.BlockQuote, a), of(0, b))), rows("0 0 7500/2500 0:o 10560:a .", "2000 0 7500/2500 0:o 10560:b .")},
		// Of leaves but what is theirs counts.
		{"a paragraph of everything", holding(wrong), "0 0 7500/2500 0:a ."},
		{"a heading of everything", holding(as(api.BlockHeading), c), rows("0 0 9750/3250 #1 0:a/1@13000 .", "5000 5000 7500/2500 0:c .")},
		{"code of everything", holding(as(api.BlockCode)), "0 0 7500/2500 0:t/4 ."},
		{"HTML of everything", holding(as(api.BlockHtml)), "0 0 7500/2500 0:t/4 ."},
		{"a rule of everything", holding(as(api.BlockRule)), "0 0 5000/0 =0:200000 ."},
		{"a quote of everything", holding(as(api.BlockQuote)), "0 0 7500/2500 10000:b ."},
		{"a list of everything", holding(as(api.BlockList)), "0 0 7500/2500 0:3. ."},
		{"an item of everything", holding(as(api.BlockItem)), "0 0 7500/2500 0:b ."},
		{"a document of everything", holding(as(api.BlockDoc)), "0 0 7500/2500 0:b ."},
		// Spans without items, and with a line's end at their end.
		{"a paragraph without spans", holding(of(api.BlockPara), a), rows("0 0 7500/2500 .", "5000 0 7500/2500 0:a .")},
		{"a hard break alone", holding(api.Block{Kind: api.BlockPara, Spans: []api.Span{{Kind: api.SpanHard}}}), "0 0 7500/2500 ."},
		{"a hard break at the end", holding(api.Block{Kind: api.BlockPara, Spans: []api.Span{text("a"), {Kind: api.SpanHard}}}), rows("0 0 7500/2500 0:a", "2000 1000 7500/2500 .")},
	} {
		if got := shown(held(t, x.b, wide, 10000), 10000); got != x.want {
			t.Errorf("the lines of %s are\n%s\nnot\n%s", x.what, got, x.want)
		}
	}
	// Whatever b itself is, the blocks that it holds count.
	for _, kind := range kinds() {
		if got := shown(held(t, as(kind), wide, 10000), 10000); got != "0 0 7500/2500 0:b ." {
			t.Errorf("the lines of what a block of kind %d holds are\n%s", kind, got)
		}
	}
}

// TestLevels holds P20.1 to headings of any level.
func TestLevels(t *testing.T) {
	for _, level := range []int{-1 << 63, -1<<63 + 1, -1, 0, 5, 6, 7, 8, 256 + 1, 1<<32 + 2, 1<<63 - 1} {
		got := shown(held(t, holding(heading(level, "a"), paragraph("b")), wide, 10000), 10000)
		if want := rows("0 0 7500/2500 #1 0:a/1 .", "5000 5000 7500/2500 0:b ."); got != want {
			t.Errorf("the lines of a heading of level %d are\n%s\nnot\n%s", level, got, want)
		}
	}
	for level, want := range []string{1: "0 0 11250/3750 #1 0:a/1@15000 .", 2: "0 0 9750/3250 #1 0:a/1@13000 .", 3: "0 0 9000/3000 #1 0:a/1@12000 .", 4: "0 0 8250/2750 #1 0:a/1@11000 ."} {
		if level == 0 {
			continue
		}
		if got := shown(held(t, holding(heading(level, "a")), wide, 10000), 10000); got != want {
			t.Errorf("the lines of a heading of level %d are\n%s\nnot\n%s", level, got, want)
		}
	}
}

// TestManyItems holds P20.1 to a list whose numbers get longer: all its items stand as far right.
func TestManyItems(t *testing.T) {
	got := held(t, document(t, strings.Repeat("1. a\n", 1234)), wide, 10000)
	if len(got) != 1234 {
		t.Fatalf("there are %d lines", len(got))
	}
	for i, l := range got {
		if len(l.Runs) != 2 || l.Runs[0].X != 0 || l.Runs[1].X != 30020 || i > 0 && l.Skip != 2000 {
			t.Errorf("line %d is %s", i, shown(got[i:i+1], 10000))
		}
	}
}

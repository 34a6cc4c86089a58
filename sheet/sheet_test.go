package sheet_test

import (
	"math"
	"strconv"
	"strings"
	"testing"

	"compositor/api"
	"compositor/font"
	"compositor/sheet"
)

// example is a text, or blocks, in a width, and its lines in short.
type example struct {
	s     string
	width int
	want  string
}

// wide is a width in which most has room.
const wide = 200000

// check holds Lines, of size 10000, to examples, and to the model too.
func check(t *testing.T, l []example) {
	t.Helper()
	for _, x := range l {
		got := shown(held(t, document(t, x.s), x.width, 10000), 10000)
		if got != x.want {
			t.Errorf("in %d, the lines of %q are\n%s\nnot\n%s", x.width, x.s, got, x.want)
		}
	}
}

// rows is lines in short, one behind the other.
func rows(l ...string) string { return strings.Join(l, "\n") }

// TestExample holds the chapter's example.
func TestExample(t *testing.T) {
	check(t, []example{{"# T\n\nab\n\n---\n", wide, rows(
		"0 0 11250/3750 #1 0:T/1@15000 .",
		"5000 5000 7500/2500 0:ab .",
		"5000 0 5000/0 =0:200000 .",
	)}})
}

// TestScale holds P20.1 to each level, those below and above, and sizes that parts don't divide.
func TestScale(t *testing.T) {
	for _, x := range []struct{ level, size, want int }{
		{1, 10000, 15000}, {2, 10000, 13000}, {3, 10000, 12000}, {4, 10000, 11000}, {5, 10000, 10000}, {6, 10000, 10000},
		{0, 10000, 10000}, {-1, 10000, 10000}, {7, 10000, 10000}, {-2, 10000, 10000}, {256 + 1, 10000, 10000}, {1<<32 + 1, 10000, 10000},
		{math.MinInt, 10000, 10000}, {math.MinInt + 1, 10000, 10000}, {math.MaxInt, 10000, 10000},
		{1, 1000, 1500}, {2, 1000, 1300}, {3, 1000, 1200}, {4, 1000, 1100}, {5, 1000, 1000},
		{1, 72000, 108000}, {2, 72000, 93600}, {3, 72000, 86400}, {4, 72000, 79200}, {6, 72000, 72000},
		{1, 1001, 1501}, {2, 1001, 1301}, {3, 1001, 1201}, {4, 1001, 1101}, {5, 1001, 1001},
		{1, 1009, 1513}, {2, 1009, 1311}, {3, 1009, 1210}, {4, 1009, 1109}, {0, 1009, 1009},
		{1, 71999, 107998}, {2, 71999, 93598}, {3, 71999, 86398}, {4, 71999, 79198}, {7, 71999, 71999},
	} {
		if got := sheet.Scale(x.level, x.size); got != x.want {
			t.Errorf("Scale(%d, %d) is %d, not %d", x.level, x.size, got, x.want)
		}
	}
	for size := 1000; size <= api.MaxSize; size++ {
		for level := -1; level <= 8; level++ {
			if got, want := sheet.Scale(level, size), askedScale(level, size); got != want {
				t.Errorf("Scale(%d, %d) is %d, not %d", level, size, got, want)
			}
		}
	}
}

// TestSizes holds P20.1 to lines of the least size and the greatest, and of such as parts don't divide.
func TestSizes(t *testing.T) {
	s := "a  \nb\n\n# c\n\n## d\n\n### e\n\n#### f\n\n##### g\n\n###### h\n\n    i\n    j\n\n---\n\n- k\n- ***\n"
	for _, x := range []struct {
		size int
		want string
	}{
		{1000, rows("0 0 750/250 0:a", "200 1000 750/250 0:b .", "500 0 1125/375 #1 0:c/1@1500 .", "500 5000 975/325 #2 0:d/1@1300 .",
			"500 5000 900/300 #3 0:e/1@1200 .", "500 5000 825/275 #4 0:f/1@1100 .", "500 5000 750/250 #5 0:g/1 .", "500 5000 750/250 #6 0:h/1 .",
			"500 5000 750/250 0:i/4", "200 0 750/250 0:j/4 .", "500 0 500/0 =0:200000 .",
			"500 0 750/250 0:o 1056:k .", "200 0 750/250 0:o .", "200 0 500/0 =1056:198944 .")},
		{1009, rows("0 0 756/252 0:a", "201 1000 756/252 0:b .", "504 0 1134/378 #1 0:c/1@1513 .", "504 5000 983/327 #2 0:d/1@1311 .",
			"504 5000 907/302 #3 0:e/1@1210 .", "504 5000 831/277 #4 0:f/1@1109 .", "504 5000 756/252 #5 0:g/1 .", "504 5000 756/252 #6 0:h/1 .",
			"504 5000 756/252 0:i/4", "201 0 756/252 0:j/4 .", "504 0 504/0 =0:200000 .",
			"504 0 756/252 0:o 1065:k .", "201 0 756/252 0:o .", "201 0 504/0 =1065:198935 .")},
		{71999, rows("0 0 53999/17999 0:a", "14399 1000 53999/17999 0:b .", "35999 0 80998/26999 #1 0:c/1@107998 .", "35999 5000 70198/23399 #2 0:d/1@93598 .",
			"35999 5000 64798/21599 #3 0:e/1@86398 .", "35999 5000 59398/19799 #4 0:f/1@79198 .", "35999 5000 53999/17999 #5 0:g/1 .", "35999 5000 53999/17999 #6 0:h/1 .",
			"35999 5000 53999/17999 0:i/4", "14399 0 53999/17999 0:j/4 .", "35999 0 35999/0 =0:200000 .",
			"35999 0 53999/17999 0:o .", "14399 0 53999/17999 0:k .", "14399 0 53999/17999 0:o .", "14399 0 35999/0 =0:200000 .")},
		{72000, rows("0 0 54000/18000 0:a", "14400 1000 54000/18000 0:b .", "36000 0 81000/27000 #1 0:c/1@108000 .", "36000 5000 70200/23400 #2 0:d/1@93600 .",
			"36000 5000 64800/21600 #3 0:e/1@86400 .", "36000 5000 59400/19800 #4 0:f/1@79200 .", "36000 5000 54000/18000 #5 0:g/1 .", "36000 5000 54000/18000 #6 0:h/1 .",
			"36000 5000 54000/18000 0:i/4", "14400 0 54000/18000 0:j/4 .", "36000 0 36000/0 =0:200000 .",
			"36000 0 54000/18000 0:o .", "14400 0 54000/18000 0:k .", "14400 0 54000/18000 0:o .", "14400 0 36000/0 =0:200000 .")},
	} {
		if got := shown(held(t, document(t, s), wide, x.size), x.size); got != x.want {
			t.Errorf("of size %d the lines are\n%s\nnot\n%s", x.size, got, x.want)
		}
	}
}

// TestRuns holds P20.1 to the widths of runs, and to all that they have.
func TestRuns(t *testing.T) {
	got := sheet.Lines(document(t, "1. [a *b*](/u)\n2. `c`\n\n       d\n"), wide, 10000)
	want := []api.Line{
		{Height: 7500, Depth: 2500, Ends: true, Runs: []api.Run{
			{X: 0, Width: 8340, Font: api.FontPlain, Size: 10000, Codes: "1."},
			{X: 13340, Width: 5560, Font: api.FontPlain, Size: 10000, Codes: "a", Link: 1},
			{X: 21680, Width: 5560, Font: api.FontOblique, Size: 10000, Codes: "b", Link: 1},
		}},
		{Height: 7500, Depth: 2500, Skip: 5000, Ends: true, Runs: []api.Run{
			{X: 0, Width: 8340, Font: api.FontPlain, Size: 10000, Codes: "2."},
			{X: 13340, Width: 6000, Font: api.FontMono, Size: 10000, Codes: "c"},
		}},
		{Height: 7500, Depth: 2500, Skip: 5000, Ends: true, Runs: []api.Run{
			{X: 13340, Width: 6000, Font: api.FontMono, Size: 10000, Codes: "d"},
		}},
	}
	if !same(got, want) {
		t.Errorf("the lines are\n%+v\nnot\n%+v", got, want)
	}
}

// TestCosts holds P20.1 to blocks of one line and of more: what it costs to break ahead of each.
func TestCosts(t *testing.T) {
	check(t, []example{
		{"a", wide, "0 0 7500/2500 0:a ."},
		{"a  \nb", wide, rows("0 0 7500/2500 0:a", "2000 1000 7500/2500 0:b .")},
		{"a  \nb  \nc", wide, rows("0 0 7500/2500 0:a", "2000 500 7500/2500 0:b", "2000 500 7500/2500 0:c .")},
		{"a  \nb  \nc  \nd", wide, rows("0 0 7500/2500 0:a", "2000 500 7500/2500 0:b", "2000 0 7500/2500 0:c", "2000 500 7500/2500 0:d .")},
		{"a  \nb  \nc  \nd  \ne", wide, rows("0 0 7500/2500 0:a", "2000 500 7500/2500 0:b", "2000 0 7500/2500 0:c", "2000 0 7500/2500 0:d", "2000 500 7500/2500 0:e .")},
		// Where words have no room beside one another, and signs of one neither.
		{"a b c", 10000, rows("0 0 7500/2500 0:a", "2000 500 7500/2500 0:b", "2000 500 7500/2500 0:c .")},
		{"abc", 6000, rows("0 0 7500/2500 0:a", "2000 500 7500/2500 0:b", "2000 500 7500/2500 0:c .")},
		{"ab", 6000, rows("0 0 7500/2500 0:a", "2000 1000 7500/2500 0:b .")},
		// Of headings so, each in its size.
		{"a  \nb\n---", wide, rows("0 0 9750/3250 #1 0:a/1@13000", "2600 1000 9750/3250 0:b/1@13000 .")},
		{"a  \nb  \nc\n===", wide, rows("0 0 11250/3750 #1 0:a/1@15000", "3000 500 11250/3750 0:b/1@15000", "3000 500 11250/3750 0:c/1@15000 .")},
		{"a  \nb  \nc  \nd\n---", wide, rows("0 0 9750/3250 #1 0:a/1@13000", "2600 500 9750/3250 0:b/1@13000", "2600 0 9750/3250 0:c/1@13000", "2600 500 9750/3250 0:d/1@13000 .")},
		// The first line of a block behind a heading.
		{"# a\nb", wide, rows("0 0 11250/3750 #1 0:a/1@15000 .", "5000 5000 7500/2500 0:b .")},
		{"# a\nb  \nc", wide, rows("0 0 11250/3750 #1 0:a/1@15000 .", "5000 5000 7500/2500 0:b", "2000 1000 7500/2500 0:c .")},
		{"# a\nb  \nc  \nd", wide, rows("0 0 11250/3750 #1 0:a/1@15000 .", "5000 5000 7500/2500 0:b", "2000 500 7500/2500 0:c", "2000 500 7500/2500 0:d .")},
		// Of code no break costs anything.
		{"    a\n    b", wide, rows("0 0 7500/2500 0:a/4", "2000 0 7500/2500 0:b/4 .")},
		{"    a\n    b\n    c", wide, rows("0 0 7500/2500 0:a/4", "2000 0 7500/2500 0:b/4", "2000 0 7500/2500 0:c/4 .")},
	})
}

// costsAhead tells the Costs of lines.
func costsAhead(l []api.Line) string {
	var costs []string
	for _, x := range l {
		costs = append(costs, strconv.Itoa(x.Cost))
	}
	return strings.Join(costs, " ")
}

// checkCosts holds the Costs, in so many sizes' width.
func checkCosts(t *testing.T, width int, l []struct{ s, want string }) {
	t.Helper()
	for _, x := range l {
		if got := costsAhead(held(t, document(t, x.s), width, 10000)); got != x.want {
			t.Errorf("in %d, the costs of %q are %s, not %s", width, x.s, got, x.want)
		}
	}
}

// TestBehindHeadings holds P20.1 to what stands behind headings: the first line behind one, of whatever block it is, costs 5000.
func TestBehindHeadings(t *testing.T) {
	checkCosts(t, wide, []struct{ s, want string }{
		{"a\n\nb", "0 0"},
		{"# a", "0"},
		{"# a\n\nb\n\nc", "0 5000 0"},
		{"b\n\n# a\n\nc", "0 0 5000"},
		{"# a\n# b\nc", "0 5000 5000"},
		{"# a\n## b\n### c\n#### d\n##### e\n###### f\ng\n\nh", "0 5000 5000 5000 5000 5000 5000 0"},
		{"a  \nb\n===\nc", "0 1000 5000"},
		{"# a\n\n    b\n    c", "0 5000 0"},
		{"# a\n~~~\nb\n\nc\n~~~", "0 5000 0 0"},
		{"# a\n<b>\nc", "0 5000 0"},
		{"# a\n\n---\n\nb", "0 5000 0"},
		{"# a\n> b\n\nc", "0 5000 0"},
		{"> # a\n\nb", "0 5000"},
		{"> # a\n> b\n\nc", "0 5000 0"},
		{"# a\n> # b\n\nc", "0 5000 5000"},
		{"# a\n- b\n- c", "0 5000 0"},
		{"# a\n- # b\n- c", "0 5000 5000"},
		{"- # a\n- b", "0 5000"},
		{"- # a\n\nb", "0 5000"},
		{"- # a\n  b", "0 5000"},
		{"# a\n- ***\n- b", "0 5000 0 0"},
		{"# a\n-\n- b", "0 5000 0"},
		{"# a\n- ~~~\n  ~~~\n- b", "0 5000 0"},
		{"# a\n- > ---\n\nb", "0 5000 0 0"},
		{"# a\n- - b", "0 5000"},
		// A heading without signs has a line.
		{"#\na", "0 5000"},
		{"# a\n#\nb", "0 5000 5000"},
		{"a\n\n#\n\nb", "0 0 5000"},
		// What comes to no line doesn't stand between.
		{"# a\n~~~\n~~~\nb\n\nc", "0 5000 0"},
		{"# a\n>\n\nb", "0 5000"},
		{"# a\n> ~~~\n> ~~~\n\n> b\n\nc", "0 5000 0"},
		{"~~~\n~~~\na", "0"},
	})
	// The marker of an item stands between, where it has a line of its own.
	checkCosts(t, 20000, []struct{ s, want string }{
		{"# a\n- b", "0 5000 0"},
		{"# a\n- ***\n- b", "0 5000 0 0 0"},
		{"# a\n-\n- b", "0 5000 0 0"},
		{"- # a\n- b", "0 0 5000 0"},
		{"- # a\n-\n- b", "0 0 5000 0 0"},
		{"# a\n- # b\n- # c", "0 5000 0 5000 0"},
	})
}

// TestAhead holds P20.1 to what is ahead of blocks: nothing ahead of the first line of all, whichever it is, then half of the size.
func TestAhead(t *testing.T) {
	check(t, []example{
		{"", wide, ""},
		{"\n\n", wide, ""},
		{"~~~\n~~~", wide, ""},
		{">", wide, ""},
		{"[a]: /b", wide, ""},
		{"a\n\nb\n\nc", wide, rows("0 0 7500/2500 0:a .", "5000 0 7500/2500 0:b .", "5000 0 7500/2500 0:c .")},
		{"    a\n\nb", wide, rows("0 0 7500/2500 0:a/4 .", "5000 0 7500/2500 0:b .")},
		{"<a>\n\nb", wide, rows("0 0 7500/2500 0:<a>/4 .", "5000 0 7500/2500 0:b .")},
		{"---\nb", wide, rows("0 0 5000/0 =0:200000 .", "5000 0 7500/2500 0:b .")},
		{"> a\n\nb", wide, rows("0 0 7500/2500 10000:a .", "5000 0 7500/2500 0:b .")},
		{"- a\n\nb", wide, rows("0 0 7500/2500 0:o 10560:a .", "5000 0 7500/2500 0:b .")},
		{"-\n\nb", wide, rows("0 0 7500/2500 0:o .", "5000 0 7500/2500 0:b .")},
		{"- ***\n\nb", wide, rows("0 0 7500/2500 0:o .", "2000 0 5000/0 =10560:189440 .", "5000 0 7500/2500 0:b .")},
		// Nothing stands ahead as long as no line came.
		{"~~~\n~~~\na", wide, "0 0 7500/2500 0:a ."},
		{">\n\na", wide, "0 0 7500/2500 0:a ."},
		{"~~~\n~~~\n- a", wide, "0 0 7500/2500 0:o 10560:a ."},
		{"a\n\n~~~\n~~~\nb", wide, rows("0 0 7500/2500 0:a .", "5000 0 7500/2500 0:b .")},
		// The last line of code isn't a block's first one.
		{"    a\n    b\n\nc", wide, rows("0 0 7500/2500 0:a/4", "2000 0 7500/2500 0:b/4 .", "5000 0 7500/2500 0:c .")},
		{"#### a\n##### b", wide, rows("0 0 8250/2750 #1 0:a/1@11000 .", "5000 5000 7500/2500 #2 0:b/1 .")},
	})
}

// TestParagraphs holds P20.1 to lines of spans: fonts, lines that are filled, blanks, and spans that come to nothing.
func TestParagraphs(t *testing.T) {
	check(t, []example{
		{"a *b* **c** ***d*** `e`", wide, "0 0 7500/2500 0:a 8340:b/2 16680:c/1 25020:d/3 33910:e/4 ."},
		{"# a *b* **c** ***d*** `e`", wide, "0 0 11250/3750 #1 0:a/1@15000 12510:b/3@15000 25845:c/1@15000 38355:d/3@15000 51690:e/4@15000 ."},
		// Two words, and a glue that grows; the last line doesn't.
		{"a b c", 15000, rows("0 0 7500/2500 0:a 9440:b", "2000 1000 7500/2500 0:c .")},
		{"a b c", 13900, rows("0 0 7500/2500 0:a 8340:b", "2000 1000 7500/2500 0:c .")},
		// One that shrinks.
		{"a b c", 13000, rows("0 0 7500/2500 0:a 7440:b", "2000 1000 7500/2500 0:c .")},
		{"a b", 13000, "0 0 7500/2500 0:a 7440:b ."},
		{"a\u00a0b\u20ac\u4e00", wide, "0 0 7500/2500 0:a\xa0b\x80? ."},
		{"a\\\nb", wide, rows("0 0 7500/2500 0:a", "2000 1000 7500/2500 0:b .")},
		{"a\nb", wide, "0 0 7500/2500 0:a 8340:b ."},
		{"![a](/b)", wide, "0 0 7500/2500 0:a ."},
		// No items are a line too.
		{"![](/a)", wide, "0 0 7500/2500 ."},
		{"&#32;", wide, "0 0 7500/2500 ."},
		{"a\n\n[](/b)\n\nc", wide, rows("0 0 7500/2500 0:a .", "5000 0 7500/2500 .", "5000 0 7500/2500 0:c .")},
		{"#", wide, "0 0 11250/3750 #1 ."},
		{"a\n\n##\nb", wide, rows("0 0 7500/2500 0:a .", "5000 0 9750/3250 #1 .", "5000 5000 7500/2500 0:b .")},
	})
}

// TestNoWay holds P20.1 to items that can't be broken in the width: they have no line, but count.
func TestNoWay(t *testing.T) {
	check(t, []example{
		{"W", 9440, "0 0 7500/2500 0:W ."},
		{"W", 9439, ""},
		{"a W b", 9439, ""},
		{"iWi", 9000, ""},
		{"a", 0, ""},
		{"![](/a)", 0, "0 0 7500/2500 ."},
		// A heading is wider.
		{"# a\na", 8339, "0 5000 7500/2500 0:a ."},
		{"# a\na", 8340, rows("0 0 11250/3750 #1 0:a/1@15000 .", "5000 5000 7500/2500 0:a .")},
		{"###### b\n\nb", 6000, "0 5000 7500/2500 0:b ."},
		// Headings and links without lines count among the others.
		{"# W\n# i", 9000, "0 5000 11250/3750 #2 0:i/1@15000 ."},
		{"# i\n# W\n# i\ni", 9000, rows("0 0 11250/3750 #1 0:i/1@15000 .", "5000 5000 11250/3750 #3 0:i/1@15000 .", "5000 5000 7500/2500 0:i .")},
		{"i\n\n# W\n\ni\n\ni", 9000, rows("0 0 7500/2500 0:i .", "5000 5000 7500/2500 0:i .", "5000 0 7500/2500 0:i .")},
		{"i\n\nW\n\ni", 9000, rows("0 0 7500/2500 0:i .", "5000 0 7500/2500 0:i .")},
		{"[W](/a)\n\n[i](/b)", 9000, "0 0 7500/2500 0:i^2 ."},
		{"# [W](/a) [b](/b)\n\n[i](/c)", 9000, "0 5000 7500/2500 0:i^3 ."},
		{"# i\n\nW\n\ni\n\ni", 9000, rows("0 0 11250/3750 #1 0:i/1@15000 .", "5000 5000 7500/2500 0:i .", "5000 0 7500/2500 0:i .")},
		// Code and rules have lines in any width.
		{"# W\n\n    WW", 0, rows("0 5000 7500/2500 0:W/4", "2000 0 7500/2500 0:W/4 .")},
		{"# W\n\n---\n", 5, "0 5000 5000/0 =0:5 ."},
		{"# W\n\n---\n", 0, "0 5000 5000/0 ."},
	})
}

// TestNumbers holds P20.1 to which heading lines are of, and to the numbers of links, through the document.
func TestNumbers(t *testing.T) {
	check(t, []example{
		{"# a\nb\n## c\n> # d\n\n- # e\n  # f\n- g\n", wide, rows(
			"0 0 11250/3750 #1 0:a/1@15000 .",
			"5000 5000 7500/2500 0:b .",
			"5000 0 9750/3250 #2 0:c/1@13000 .",
			"5000 5000 11250/3750 #3 10000:d/1@15000 .",
			"5000 5000 11250/3750 #4 0:o 10560:e/1@15000 .",
			"5000 5000 11250/3750 #5 10560:f/1@15000 .",
			"2000 5000 7500/2500 0:o 10560:g .",
		)},
		{"a  \nb\n===\n#\n# c", wide, rows("0 0 11250/3750 #1 0:a/1@15000", "3000 1000 11250/3750 0:b/1@15000 .", "5000 5000 11250/3750 #2 .", "5000 5000 11250/3750 #3 0:c/1@15000 .")},
		{"[a](/a) b [c](/c)\n\n# [d](/d)\n> [e](/e) ![f [g](/g)](/f)\n\n- [h](/h)\n- i [](/j) [k](/k)\n", wide, rows(
			"0 0 7500/2500 0:a^1 8340:b 16680:c^2 .",
			"5000 0 11250/3750 #1 0:d/1@15000^3 .",
			"5000 5000 7500/2500 10000:e^4 18340:f 23900:g .",
			"5000 0 7500/2500 0:o 10560:h^5 .",
			"2000 0 7500/2500 0:o 10560:i 15560:k^7 .",
		)},
		{"![a [b](/b)](/c) [![d](/e)](/f) <http://g>", wide, "0 0 7500/2500 0:a 8340:b 16680:d^1 25020:http://g^2 ."},
		{"[a b](/u) c", 10000, rows("0 0 7500/2500 0:a^1", "2000 500 7500/2500 0:b^1", "2000 500 7500/2500 0:c .")},
	})
}

// TestCode holds P20.1 to code: tabs, empty lines, LFs at its end, and lines that have just room, or none.
func TestCode(t *testing.T) {
	check(t, []example{
		{"~~~\na\n~~~", wide, "0 0 7500/2500 0:a/4 ."},
		{"~~~ info\na\n~~~", wide, "0 0 7500/2500 0:a/4 ."},
		{"~~~\na\n\nb\n~~~", wide, rows("0 0 7500/2500 0:a/4", "2000 0 7500/2500", "2000 0 7500/2500 0:b/4 .")},
		{"~~~\n\n\n~~~", wide, rows("0 0 7500/2500", "2000 0 7500/2500 .")},
		{"~~~\n\na\n\n~~~\nb", wide, rows("0 0 7500/2500", "2000 0 7500/2500 0:a/4", "2000 0 7500/2500 .", "5000 0 7500/2500 0:b .")},
		{"~~~\n  a  b  \n~~~", wide, "0 0 7500/2500 0:__a__b__/4 ."},
		{"~~~\n \n~~~", wide, "0 0 7500/2500 0:_/4 ."},
		// A tab is four blanks wherever it stands.
		{"~~~\n\ta\tb\t\n~~~", wide, "0 0 7500/2500 0:____a____b____/4 ."},
		{"~~~\na\tb\n\t\t\n~~~", wide, rows("0 0 7500/2500 0:a____b/4", "2000 0 7500/2500 0:________/4 .")},
		{"~~~\na\tb\n~~~", 12000, rows("0 0 7500/2500 0:a_/4", "2000 0 7500/2500 0:__/4", "2000 0 7500/2500 0:_b/4 .")},
		// Signs of Markdown are signs, runes codes.
		{"~~~\n*a* &amp; \\*\n~~~", wide, "0 0 7500/2500 0:*a*_&amp;_\\*/4 ."},
		{"~~~\n\u20ac\u00e4\u4e00\n~~~", wide, "0 0 7500/2500 0:\x80\xe4?/4 ."},
		{"~~~\n\u20ac\u20ac\u20ac\n~~~", 12000, rows("0 0 7500/2500 0:\x80\x80/4", "2000 0 7500/2500 0:\x80/4 .")},
		// Just as wide as there is room, one thousandth and one code wider.
		{"~~~\nabc\n~~~", 18000, "0 0 7500/2500 0:abc/4 ."},
		{"~~~\nabc\n~~~", 17999, rows("0 0 7500/2500 0:ab/4", "2000 0 7500/2500 0:c/4 .")},
		{"~~~\nabcd\n~~~", 18000, rows("0 0 7500/2500 0:abc/4", "2000 0 7500/2500 0:d/4 .")},
		{"~~~\nabcdef\n~~~", 18000, rows("0 0 7500/2500 0:abc/4", "2000 0 7500/2500 0:def/4 .")},
		{"~~~\nabcdefg\nh\n\n~~~", 18000, rows("0 0 7500/2500 0:abc/4", "2000 0 7500/2500 0:def/4", "2000 0 7500/2500 0:g/4", "2000 0 7500/2500 0:h/4", "2000 0 7500/2500 .")},
		{"~~~\nabc\n~~~", 5999, rows("0 0 7500/2500 0:a/4", "2000 0 7500/2500 0:b/4", "2000 0 7500/2500 0:c/4 .")},
		{"~~~\nab\n~~~", 0, rows("0 0 7500/2500 0:a/4", "2000 0 7500/2500 0:b/4 .")},
		// HTML is so too.
		{"<div>\n\tb&amp;\n</div>", wide, rows("0 0 7500/2500 0:<div>/4", "2000 0 7500/2500 0:____b&amp;/4", "2000 0 7500/2500 0:</div>/4 .")},
		{"<!-- a\n\nb -->", wide, rows("0 0 7500/2500 0:<!--_a/4", "2000 0 7500/2500", "2000 0 7500/2500 0:b_-->/4 .")},
		// Where it isn't the whole width.
		{"> ~~~\n> abc\n> ~~~", 40000, "0 0 7500/2500 10000:abc/4 ."},
		{"> ~~~\n> abcdef\n> ~~~", 45999, rows("0 0 7500/2500 10000:abcde/4", "2000 0 7500/2500 10000:f/4 .")},
		{"> ~~~\n> abcdef\n> ~~~", 46000, "0 0 7500/2500 10000:abcdef/4 ."},
	})
	long := strings.Repeat("ab", 500)
	got := held(t, document(t, "~~~\n"+long+"\n~~~"), 18000, 10000)
	if len(got) != 334 || got[333].Runs[0].Codes != "b" || !got[333].Ends || got[332].Ends || got[332].Runs[0].Codes != "aba" {
		t.Errorf("a long line of code comes to %d lines", len(got))
	}
}

// TestCodeTexts holds P20.1 to texts of code and HTML that no document has.
func TestCodeTexts(t *testing.T) {
	for _, kind := range []int{api.BlockCode, api.BlockHtml} {
		for _, x := range []struct{ text, want string }{
			{"", ""},
			{"a", "0 0 7500/2500 0:a/4 ."},
			{"a\n", "0 0 7500/2500 0:a/4 ."},
			{"a\nb", rows("0 0 7500/2500 0:a/4", "2000 0 7500/2500 0:b/4 .")},
			{"\n", "0 0 7500/2500 ."},
			{"\n\n", rows("0 0 7500/2500", "2000 0 7500/2500 .")},
			{"a\n\n\n", rows("0 0 7500/2500 0:a/4", "2000 0 7500/2500", "2000 0 7500/2500 .")},
			{"a\n ", rows("0 0 7500/2500 0:a/4", "2000 0 7500/2500 0:_/4 .")},
			{"\xff\x00\r\u20ac", "0 0 7500/2500 0:???\x80/4 ."},
			{"\xe2\t\x82", "0 0 7500/2500 0:?____?/4 ."},
		} {
			b := holding(api.Block{Kind: kind, Text: x.text, Info: "i", Spans: []api.Span{text("s")}, Kids: []api.Block{paragraph("k")}})
			if got := shown(held(t, b, wide, 10000), 10000); got != x.want {
				t.Errorf("the lines of the code %q are\n%s\nnot\n%s", x.text, got, x.want)
			}
		}
	}
}

// TestRules holds P20.1 to rules.
func TestRules(t *testing.T) {
	check(t, []example{
		{"---", wide, "0 0 5000/0 =0:200000 ."},
		{"***\n---\n___", 70000, rows("0 0 5000/0 =0:70000 .", "5000 0 5000/0 =0:70000 .", "5000 0 5000/0 =0:70000 .")},
		{"# a\n---\nb", wide, rows("0 0 11250/3750 #1 0:a/1@15000 .", "5000 5000 5000/0 =0:200000 .", "5000 0 7500/2500 0:b .")},
		{"---\n# a", wide, rows("0 0 5000/0 =0:200000 .", "5000 0 11250/3750 #1 0:a/1@15000 .")},
		{"a\n\n---", wide, rows("0 0 7500/2500 0:a .", "5000 0 5000/0 =0:200000 .")},
		{"> ---", wide, "0 0 5000/0 =10000:190000 ."},
		{"> > ---", 49999, "0 0 5000/0 =20000:29999 ."},
		{"> > ---", 39999, "0 0 5000/0 =10000:29999 ."},
		{"> > ---", 29999, "0 0 5000/0 =0:29999 ."},
		{"---", 1, "0 0 5000/0 =0:1 ."},
	})
}

// TestQuotes holds P20.1 to quotes, in one another too, and to widths that leave them two sizes, and one less.
func TestQuotes(t *testing.T) {
	check(t, []example{
		{"> a\n> # b\n> > c\n\nd", wide, rows("0 0 7500/2500 10000:a .", "5000 0 11250/3750 #1 10000:b/1@15000 .", "5000 5000 7500/2500 20000:c .", "5000 0 7500/2500 0:d .")},
		{"> a", 30000, "0 0 7500/2500 10000:a ."},
		{"> a", 29999, "0 0 7500/2500 0:a ."},
		{"> a", 6000, "0 0 7500/2500 0:a ."},
		{"> > a", 40000, "0 0 7500/2500 20000:a ."},
		{"> > a", 39999, "0 0 7500/2500 10000:a ."},
		{"> > > a", 40000, "0 0 7500/2500 20000:a ."},
		{"> > > a", 50000, "0 0 7500/2500 30000:a ."},
		{"> a\n\nb", 29999, rows("0 0 7500/2500 0:a .", "5000 0 7500/2500 0:b .")},
		// It has just so much room.
		{"> abcd", 31680, "0 0 7500/2500 10000:abcd ."},
		{"> abcd", 31679, rows("0 0 7500/2500 10000:abc", "2000 1000 7500/2500 10000:d .")},
		{"> a b c", 30000, "0 0 7500/2500 10000:a 17500:b 25000:c ."},
		{"> a b WW", 30000, rows("0 0 7500/2500 10000:a 24440:b", "2000 1000 7500/2500 10000:WW .")},
		{"> - a", 50000, "0 0 7500/2500 10000:o 20560:a ."},
	})
	deep := strings.Repeat("> ", 90)
	check(t, []example{{deep + "a", wide, "0 0 7500/2500 180000:a ."}, {deep + "a", 1000000, "0 0 7500/2500 900000:a ."}})
}

// TestWidest holds what is said of lines: each run is as wide as its codes.
func TestWidest(t *testing.T) {
	c := chance(20261201)
	for range 300 {
		for _, l := range held(t, document(t, c.mixed(20)), 20000+c.below(200000), 10000) {
			for _, r := range l.Runs {
				if want := font.Run(r.Font, r.Size, r.Codes); r.Width != want || r.Y != 0 || r.Codes == "" {
					t.Errorf("%+v is a run %d wide", r, want)
				}
			}
		}
	}
}

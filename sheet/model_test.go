package sheet_test

import (
	"reflect"
	"slices"
	"strconv"
	"strings"
	"testing"

	"compositor/api"
	"compositor/code"
	"compositor/font"
	"compositor/item"
	"compositor/plain"
	"compositor/set"
	"compositor/sheet"
	"compositor/tree"
	"compositor/wrap"
)

// What the chapter asks, in another way: each block answers its lines and what it leaves known as values, and an item's marker is put where it belongs when the lines of its blocks are there.

// known is what is known where a block begins, and where it has ended.
type known struct {
	size, ahead  int
	headed       bool
	heads, links int
}

// first tells the first line of a block, and what is known behind it.
func (k known) first(l api.Line) (api.Line, known) {
	l.Skip = k.ahead
	if k.headed {
		l.Cost = 5000
	}
	k.ahead, k.headed = k.size/2, false
	return l, k
}

// block tells the lines of a block, of which only the first and the last one aren't as they are to be.
func (k known) block(l []api.Line) ([]api.Line, known) {
	if len(l) == 0 {
		return nil, k
	}
	l[len(l)-1].Ends = true
	l[0], k = k.first(l[0])
	return l, k
}

func askedScale(level, size int) int {
	parts := map[int][2]int{1: {3, 2}, 2: {13, 10}, 3: {6, 5}, 4: {11, 10}}
	if p, ok := parts[level]; ok {
		return p[0] * size / p[1]
	}
	return size
}

func askedLine(size int, runs ...api.Run) api.Line {
	return api.Line{Height: size * 3 / 4, Depth: size / 4, Skip: size / 5, Runs: runs}
}

// askedOfItems tells the lines of items, the first and the last one not yet as those of a block.
func askedOfItems(l []api.Item, x, width, size int) []api.Line {
	l = item.Split(l, width)
	ends, ok := wrap.Breaks(l, width)
	if !ok {
		return nil
	}
	var lines []api.Line
	for _, runs := range set.Lines(l, ends, x, width) {
		lines = append(lines, askedLine(size, runs...))
	}
	if len(lines) > 1 {
		lines[1].Cost = 500
		lines[len(lines)-1].Cost += 500
	}
	return lines
}

// askedOfCode tells the lines of code, each sign of which is as wide as the others.
func askedOfCode(text string, x, width, size int) []api.Line {
	var lines []api.Line
	sign := 600 * size / 1000
	for text != "" {
		line, rest, _ := strings.Cut(text, "\n")
		text = rest
		codes := code.Codes(strings.Join(strings.Split(line, "\t"), "    "))
		if codes == "" {
			lines = append(lines, askedLine(size))
		}
		for part := range slices.Chunk([]byte(codes), max(1, width/sign)) {
			lines = append(lines, askedLine(size, api.Run{X: x, Width: sign * len(part), Font: 4, Size: size, Codes: string(part)}))
		}
	}
	return lines
}

// askedBlock tells the lines of b, and what is known behind it.
func askedBlock(b api.Block, x, width int, k known) ([]api.Line, known) {
	switch b.Kind {
	case 2:
		if width-k.size >= 2*k.size {
			x, width = x+k.size, width-k.size
		}
		return askedBlocks(b.Kids, x, width, k)
	case 3:
		return askedList(b, x, width, k)
	case 5:
		items, next := item.Make(b.Spans, 0, k.size, k.links+1)
		k.links = next - 1
		return k.block(askedOfItems(items, x, width, k.size))
	case 6:
		k.heads++
		size := askedScale(b.Level, k.size)
		items, next := item.Make(b.Spans, 1, size, k.links+1)
		k.links = next - 1
		lines, after := k.block(askedOfItems(items, x, width, size))
		if len(lines) > 0 {
			lines[0].Heading = k.heads
		}
		after.headed = true
		return lines, after
	case 7, 8:
		return k.block(askedOfCode(b.Text, x, width, k.size))
	case 9:
		return k.block([]api.Line{{Height: k.size / 2, Rule: width, Indent: x}})
	}
	return askedBlocks(b.Kids, x, width, k)
}

// askedBlocks tells the lines of blocks, one behind the other, and what is known behind them.
func askedBlocks(l []api.Block, x, width int, k known) ([]api.Line, known) {
	var lines []api.Line
	for _, b := range l {
		var more []api.Line
		more, k = askedBlock(b, x, width, k)
		lines = append(lines, more...)
	}
	return lines, k
}

// askedList tells the lines of a list, and what is known behind it.
func askedList(b api.Block, x, width int, k known) ([]api.Line, known) {
	var markers []api.Run
	var widths []int
	for i := range b.Kids {
		codes := code.Codes(plain.Marker(b, i))
		r := api.Run{X: x, Width: font.Run(0, k.size, codes), Size: k.size, Codes: codes}
		markers = append(markers, r)
		widths = append(widths, r.Width)
	}
	if len(markers) == 0 {
		return nil, k
	}
	step := slices.Max(widths) + k.size/2
	var lines []api.Line
	for i, it := range b.Kids {
		if i != 0 && b.Tight {
			k.ahead = k.size / 5
		}
		var more []api.Line
		if width-step < 2*k.size {
			more, k = askedBelow(it, markers[i], x, width, k)
		} else {
			more, k = askedBeside(it, markers[i], x+step, width-step, k)
		}
		lines = append(lines, more...)
	}
	return lines, k
}

// askedBelow tells the lines of an item whose blocks stand below its marker.
func askedBelow(it api.Block, marker api.Run, x, width int, k known) ([]api.Line, known) {
	box := api.Item{Kind: 1, Width: marker.Width, Codes: marker.Codes, Size: k.size}
	lines, k := k.block(askedOfItems([]api.Item{box}, x, width, k.size))
	k.ahead = k.size / 5
	more, k := askedBlocks(it.Kids, x, width, k)
	return append(lines, more...), k
}

// askedBeside tells the lines of an item whose blocks stand beside its marker.
func askedBeside(it api.Block, marker api.Run, x, width int, k known) ([]api.Line, known) {
	own := askedLine(k.size, marker)
	own.Ends = true
	lines, after := askedBlocks(it.Kids, x, width, k)
	if len(lines) == 0 {
		own, after = after.first(own)
		return []api.Line{own}, after
	}
	l := &lines[0]
	if l.Rule > 0 {
		own.Skip, own.Cost = l.Skip, l.Cost
		l.Skip, l.Cost = k.size/5, 0
		return append([]api.Line{own}, lines...), after
	}
	l.Runs = append([]api.Run{marker}, l.Runs...)
	l.Height = max(l.Height, own.Height)
	l.Depth = max(l.Depth, own.Depth)
	return lines, after
}

// askedLines tells the lines of the blocks that b holds.
func askedLines(b api.Block, width, size int) []api.Line {
	lines, _ := askedBlocks(b.Kids, 0, width, known{size: size})
	return lines
}

// Calls held against the model.

// same tells whether lines are alike; lists that hold nothing are.
func same(a, b []api.Line) bool {
	return slices.EqualFunc(a, b, func(x, y api.Line) bool {
		alike := slices.Equal(x.Runs, y.Runs)
		x.Runs, y.Runs = nil, nil
		return alike && reflect.DeepEqual(x, y)
	})
}

// held holds Lines against the model, and tells it.
func held(t *testing.T, b api.Block, width, size int) []api.Line {
	t.Helper()
	got, want := sheet.Lines(b, width, size), askedLines(b, width, size)
	if !same(got, want) {
		t.Errorf("in %d, of size %d, the lines are\n%s\nnot\n%s\nof %+v", width, size, shown(got, size), shown(want, size), b)
	}
	return got
}

// document tells the document of s, which may be one.
func document(t *testing.T, s string) api.Block {
	t.Helper()
	b, e := tree.Parse(s)
	if e != api.OK {
		t.Errorf("%q is no document: error %d", s, e)
	}
	return b
}

// Lines told in short.

// shown tells a line of each line: its Skip, its Cost, its Height and Depth, and, if there are such, # and which heading it begins, = and its rule's Indent and Rule, its runs, and . if it ends a block.
func shown(l []api.Line, size int) string {
	var lines []string
	for _, x := range l {
		words := []string{strconv.Itoa(x.Skip), strconv.Itoa(x.Cost), strconv.Itoa(x.Height) + "/" + strconv.Itoa(x.Depth)}
		if x.Heading != 0 {
			words = append(words, "#"+strconv.Itoa(x.Heading))
		}
		if x.Rule != 0 || x.Indent != 0 {
			words = append(words, "="+strconv.Itoa(x.Indent)+":"+strconv.Itoa(x.Rule))
		}
		for _, r := range x.Runs {
			words = append(words, shownRun(r, size))
		}
		if x.Ends {
			words = append(words, ".")
		}
		lines = append(lines, strings.Join(words, " "))
	}
	return strings.Join(lines, "\n")
}

// shownRun tells a run: its X, its codes (blanks as _, the marker of an item without a number as o), and, if they aren't the plain ones, / and its font, @ and its size, ^ and its link.
func shownRun(r api.Run, size int) string {
	s := strconv.Itoa(r.X) + ":" + strings.NewReplacer(" ", "_", "\x95", "o").Replace(r.Codes)
	if r.Font != 0 {
		s += "/" + strconv.Itoa(r.Font)
	}
	if r.Size != size {
		s += "@" + strconv.Itoa(r.Size)
	}
	if r.Link != 0 {
		s += "^" + strconv.Itoa(r.Link)
	}
	return s
}

// Blocks and documents.

// chance tells numbers below others, the same ones at each run.
type chance uint64

func (c *chance) below(n int) int {
	*c = *c*6364136223846793005 + 1442695040888963407
	return int(uint64(*c)>>33) % n
}

// one tells one of l.
func one[T any](c *chance, l []T) T {
	return l[c.below(len(l))]
}

// kinds are kinds of blocks and spans, such too that there aren't.
func kinds() []int {
	return []int{-1 << 63, -7, -1, 0, 1, 2, 3, 4, 5, 6, 7, 8, 9, 10, 11, 256 + 5, 1<<32 + 6, 1<<63 - 1}
}

// words are texts of blocks and spans.
func words() []string {
	return []string{"", "", "a", "b c", "defg", "WWW", " ", "\n", "\t", "h\ti", "j\n\nk", "l\n", "\u20ac", "\u4e00", "\xff", "mn op qr st uv wx yz", "\n\n", "iiiiiiiiiiiiiiiiiiiiiiiiiiiii"}
}

// spans tells up to four spans of any kind that hold such spans.
func (c *chance) spans(deep int) []api.Span {
	var l []api.Span
	for range c.below(4) {
		x := api.Span{Kind: one(c, append(kinds(), 1, 1, 1, 1, 7, 7, 8)), Text: one(c, words()), Dest: one(c, words())}
		if deep > 0 {
			x.Kids = c.spans(c.below(deep))
		}
		l = append(l, x)
	}
	return l
}

// block tells a block of any kind that holds such blocks.
func (c *chance) block(deep int) api.Block {
	levels := []int{1, 2, 3, 4, 5, 6, 0, -1, 7, 1<<32 + 1, -1 << 63, 1<<63 - 1}
	starts := []int{0, 1, 2, 8, 9, 99, 999999999, -1, -2, 1 << 60, -1 << 60}
	b := api.Block{Kind: one(c, append(kinds(), 2, 3, 3, 3, 5, 6, 9)), Level: one(c, levels), Ordered: c.below(2) == 0, Start: one(c, starts), Mark: byte(c.below(256)), Tight: c.below(2) == 0, Info: one(c, words()), Text: one(c, words())}
	b.Spans = c.spans(3)
	if deep == 0 {
		return b
	}
	for range c.below(5) {
		b.Kids = append(b.Kids, c.block(c.below(deep)))
	}
	return b
}

// mixed tells a document's text of up to so many lines.
func (c *chance) mixed(most int) string {
	begins := []string{"", "", "> ", "> ", "- ", "- ", "* ", "1. ", "9) ", "0. ", "999999999) ", "  ", "   ", "    ", "# ", "## ", "### ", "###### "}
	pieces := []string{
		"a", "b ", "cd ef ", "WMWM", "*g*", "**h** ", "`i j`", "<b>", "\u20ac", "\u4e00 ", "\t", "&#32;", "iiiiiiiiiiiiiiiii", "kl mn op qr st uv ",
		"[a](/u)", "[*b* c](#a)", "![d](/w)", "![](/e)", "[](/f)", "<http://g>", "[r]", "![[h](/i)](/j)",
	}
	ends := []string{"\n", "\n", "\n\n", "\n\n", "  \n", "\\\n", "\n===\n", "\n---\n", "\n\n---\n", "\n~~~\n", "\n~~~\n~~~\n", "\n[r]: /r\n", "\n<div>\n"}
	var b strings.Builder
	for range 1 + c.below(most) {
		for range c.below(3) {
			b.WriteString(one(c, begins))
		}
		for range c.below(5) {
			b.WriteString(one(c, pieces))
		}
		b.WriteString(one(c, ends))
	}
	return b.String()
}

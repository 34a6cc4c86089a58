package tree_test

import (
	"reflect"
	"slices"
	"strconv"
	"strings"
	"testing"

	"compositor/api"
	"compositor/block"
	"compositor/inline"
	"compositor/source"
	"compositor/tree"
)

// Documents as texts.

// show tells the answer for a text: its blocks.
func show(b api.Block, e api.Errno) string {
	if e != api.OK {
		return "error " + strconv.Itoa(int(e))
	}
	return shown(b)
}

func shown(b api.Block) string {
	var l []string
	for _, k := range b.Kids {
		l = append(l, shown(k))
	}
	s := strings.Join(l, " ")
	switch b.Kind {
	case api.BlockDoc:
		return "doc(" + s + ")"
	case api.BlockQuote:
		return "quote(" + s + ")"
	case api.BlockList:
		return "list" + string(b.Mark) + "(" + s + ")"
	case api.BlockItem:
		return "item(" + s + ")"
	case api.BlockPara:
		return "p(" + spansShown(b.Spans) + ")"
	case api.BlockHeading:
		return "h" + strconv.Itoa(b.Level) + "(" + spansShown(b.Spans) + ")"
	case api.BlockCode:
		return "code" + b.Info + strconv.Quote(b.Text)
	case api.BlockHtml:
		return "html" + strconv.Quote(b.Text)
	case api.BlockRule:
		return "rule"
	}
	return "?"
}

func spansShown(l []api.Span) string {
	names := []string{api.SpanText: "", api.SpanSoft: "soft", api.SpanHard: "hard", api.SpanCode: "code", api.SpanEmph: "em", api.SpanStrong: "strong", api.SpanLink: "link", api.SpanImage: "image", api.SpanHtml: "html"}
	var parts []string
	for _, x := range l {
		s := names[x.Kind]
		if x.Text != "" {
			s += strconv.Quote(x.Text)
		}
		if x.Kind == api.SpanLink || x.Kind == api.SpanImage {
			s += "<" + strings.TrimSuffix(x.Dest+" "+x.Title, " ") + ">"
		}
		if len(x.Kids) > 0 {
			s += "(" + spansShown(x.Kids) + ")"
		}
		parts = append(parts, s)
	}
	return strings.Join(parts, " ")
}

// clip tells the beginning of s, which may be long.
func clip(s string) string {
	const most = 1000
	if len(s) > most {
		return s[:most] + " .."
	}
	return s
}

// What the chapter asks, in another way: all definitions for each text, and blocks that wait in a list rather than in calls.

// asked tells what Parse of s is asked to tell.
func asked(s string) (api.Block, api.Errno) {
	if len(s) > 1<<24 {
		return api.Block{}, api.ErrLarge
	}
	b, refs, e := block.Parse(source.Clean(s))
	if e != api.OK {
		return api.Block{}, e
	}
	wait := []*api.Block{&b}
	for len(wait) > 0 {
		x := wait[0]
		wait = wait[1:]
		if x.Kind == 5 || x.Kind == 6 {
			x.Spans, x.Text = inline.Parse(x.Text, refs), ""
		}
		for i := range x.Kids {
			wait = append(wait, &x.Kids[i])
		}
	}
	return b, api.OK
}

// found is a block, and in how many others it is.
type found struct {
	api.Block
	deep int
}

// inOrder tells b and all blocks in it, in order, with what leaves hold, if so asked.
func inOrder(b api.Block, intoLeaves bool) []found {
	var l []found
	wait := []found{{b, 0}}
	for len(wait) > 0 {
		x := wait[len(wait)-1]
		wait = wait[:len(wait)-1]
		l = append(l, x)
		if x.Kind >= 5 && !intoLeaves {
			continue
		}
		for _, k := range slices.Backward(x.Kids) {
			wait = append(wait, found{k, x.deep + 1})
		}
	}
	return l
}

func askedWalk(b api.Block) []api.Block {
	var l []api.Block
	for _, x := range inOrder(b, true) {
		l = append(l, x.Block)
	}
	return l
}

func askedDepth(b api.Block) int {
	n := 0
	for _, x := range inOrder(b, true) {
		n = max(n, 1+x.deep)
	}
	return n
}

func askedLeaves(b api.Block) []api.Block {
	var l []api.Block
	for _, x := range inOrder(b, false) {
		if x.Kind >= 5 {
			l = append(l, x.Block)
		}
	}
	return l
}

// Held against each other.

// example is a text, and what show tells of its document.
type example struct{ s, want string }

// check holds each example against Parse, and against the model.
func check(t *testing.T, l []example) {
	t.Helper()
	for _, x := range l {
		if got := show(tree.Parse(x.s)); got != x.want {
			t.Errorf("Parse(%q):\n%s, not\n%s", clip(x.s), clip(got), clip(x.want))
		}
		held(t, x.s)
	}
}

// held holds Parse of s against the model, and the document's walk, depth and leaves.
func held(t *testing.T, s string) {
	t.Helper()
	if b, e := parsed(t, s); e == api.OK {
		gone(t, b)
		leavesSound(t, b)
	}
}

// parsed holds Parse of s against the model, field by field, and tells its answer.
func parsed(t *testing.T, s string) (api.Block, api.Errno) {
	t.Helper()
	b, e := tree.Parse(s)
	want, e2 := asked(s)
	if e != e2 || !reflect.DeepEqual(b, want) {
		t.Errorf("Parse(%q):\n%s, not\n%s", clip(s), clip(show(b, e)), clip(show(want, e2)))
	}
	return b, e
}

// gone holds Walk, Depth and Leaves of b against the model.
func gone(t *testing.T, b api.Block) {
	t.Helper()
	if l := walked(b); !same(l, askedWalk(b)) {
		t.Errorf("Walk of %s goes over %d blocks, or in another order", clip(shown(b)), len(l))
	}
	if n, want := tree.Depth(b), askedDepth(b); n != want {
		t.Errorf("Depth of %s is %d, not %d", clip(shown(b)), n, want)
	}
	if l, want := tree.Leaves(b), askedLeaves(b); !same(l, want) {
		t.Errorf("Leaves of %s are %d, not %d, or in another order", clip(shown(b)), len(l), len(want))
	}
}

// leavesSound holds the leaves of a document to what they have.
func leavesSound(t *testing.T, b api.Block) {
	t.Helper()
	for _, x := range tree.Leaves(b) {
		spans := x.Kind == api.BlockPara || x.Kind == api.BlockHeading
		if x.Kind < api.BlockPara || x.Kind > api.BlockRule || len(x.Kids) > 0 || spans && x.Text != "" || !spans && len(x.Spans) > 0 {
			t.Errorf("a leaf that isn't as it may be: %s", shown(x))
		}
	}
}

func same(l, m []api.Block) bool {
	return slices.EqualFunc(l, m, func(x, y api.Block) bool { return reflect.DeepEqual(x, y) })
}

func walked(b api.Block) []api.Block {
	return slices.Collect(tree.Walk(b))
}

// Texts and blocks.

// texts hands on all texts of at most so many of these pieces.
func texts(count int, pieces []string, do func(s string)) {
	do("")
	if count == 0 {
		return
	}
	for _, p := range pieces {
		texts(count-1, pieces, func(s string) { do(p + s) })
	}
}

// chance tells numbers below others, the same ones at each run.
type chance uint64

func (c *chance) below(n int) int {
	*c = *c*6364136223846793005 + 1442695040888963407
	return int(uint64(*c)>>33) % n
}

func (c *chance) of(l []string) string {
	return l[c.below(len(l))]
}

// mixed tells a text of up to so many lines.
func (c *chance) mixed(most int) string {
	begins := []string{"", "", "", "", "> ", "> ", "- ", "- ", "+ ", "1. ", "  ", "  ", "   ", "    ", "# ", "## ", "\t"}
	pieces := []string{
		"a", "b ", "*a*", "**b**", "_", "*", "[a]", "[A]", "[b]", "[c]", "[a][b]", "[a][]", "![b]", "![a", "[", "]", "](", "/u)", "\\", "\\[", "\\]", "\\\\", "`", "``", "`a`", "<a>", "<http://b>", "&amp;", "&#91;",
		"```", "~~~", "---", "===", "***", "<div>", "<!--", "-->", "[a]: /a", "[b]: /b 't'", "[ C ]: <>", "[\\[]: /o", "[a\\]b]: /d", "  ", "\r", "\r\n", "\x00", "\xff", "\xc3", "\u00e9", "\u4e00",
	}
	ends := []string{"\n", "\n", "\n\n", "\r\n", "\r", "\\\n"}
	var b strings.Builder
	for range 1 + c.below(most) {
		for range c.below(3) {
			b.WriteString(c.of(begins))
		}
		for range c.below(4) {
			b.WriteString(c.of(pieces))
		}
		b.WriteString(c.of(ends))
	}
	s := b.String()
	if c.below(3) == 0 {
		s = strings.TrimRight(s, "\r\n")
	}
	return s
}

// kinds are kinds of blocks, such too that there aren't.
func kinds() []int {
	return []int{-1 << 63, -6, -1, 0, 1, 2, 3, 4, 5, 6, 7, 8, 9, 10, 11, 1 << 32, 1<<63 - 1}
}

// block tells a block of any kind that holds such blocks; each has a number of its own.
func (c *chance) block(number *int, deep int) api.Block {
	l := kinds()
	b := api.Block{Kind: l[c.below(len(l))], Start: *number, Text: strconv.Itoa(*number)}
	*number++
	if deep == 0 {
		return b
	}
	for range c.below(4) {
		b.Kids = append(b.Kids, c.block(number, c.below(deep)))
	}
	return b
}

// chain tells so many blocks of that kind in one another around b.
func chain(count, kind int, b api.Block) api.Block {
	for range count {
		b = api.Block{Kind: kind, Kids: []api.Block{b}}
	}
	return b
}

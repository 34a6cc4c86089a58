package plain_test

import (
	"math/big"
	"reflect"
	"regexp"
	"slices"
	"strconv"
	"strings"
	"testing"

	"compositor/api"
	"compositor/plain"
	"compositor/tree"
)

// What the chapter asks, in another way: blocks and spans that wait in a list rather than in calls, and looks at all headings ahead each time.

func askedSpans(l []api.Span) string {
	var s strings.Builder
	wait := turned(l)
	for len(wait) > 0 {
		x := wait[len(wait)-1]
		wait = wait[:len(wait)-1]
		switch x.Kind {
		case 1, 4, 9:
			s.WriteString(x.Text)
		case 2, 3:
			s.WriteString(" ")
		default:
			wait = append(wait, turned(x.Kids)...)
		}
	}
	return s.String()
}

func turned[T any](l []T) []T {
	l = slices.Clone(l)
	slices.Reverse(l)
	return l
}

func askedMarker(b api.Block, i int) string {
	if !b.Ordered {
		return "\xe2\x80\xa2"
	}
	number := new(big.Int).Add(big.NewInt(int64(b.Start)), big.NewInt(int64(i)))
	return string(append([]byte(number.String()), b.Mark))
}

func askedText(b api.Block) string {
	// What waits is a marker's line, or a block.
	type part struct {
		line  string
		block api.Block
	}
	var s strings.Builder
	wait := []part{{"", b}}
	for len(wait) > 0 {
		x := wait[len(wait)-1]
		wait = wait[:len(wait)-1]
		s.WriteString(x.line)
		switch x.block.Kind {
		case 5, 6:
			s.WriteString(askedSpans(x.block.Spans) + "\n")
		case 7, 8:
			s.WriteString(x.block.Text)
		default:
			for i, k := range slices.Backward(x.block.Kids) {
				line := ""
				if x.block.Kind == 3 {
					line = askedMarker(x.block, i) + "\n"
				}
				wait = append(wait, part{line, k})
			}
		}
	}
	return s.String()
}

var noName = regexp.MustCompile("[^-A-Za-z0-9_]")

func askedSlug(s string) string {
	return strings.ToLower(noName.ReplaceAllString(strings.ReplaceAll(s, " ", "-"), ""))
}

func askedHeads(b api.Block) []api.Head {
	var l []api.Head
	for _, x := range tree.Leaves(b) {
		if x.Kind != 6 {
			continue
		}
		h := api.Head{Level: x.Level, Title: askedSpans(x.Spans), Up: -1}
		name := askedSlug(h.Title)
		h.Slug = name
		for n := 1; slices.ContainsFunc(l, func(ahead api.Head) bool { return ahead.Slug == h.Slug }); n++ {
			h.Slug = name + "-" + strconv.Itoa(n)
		}
		for i, ahead := range l {
			if ahead.Level < h.Level {
				h.Up = i
			}
		}
		l = append(l, h)
	}
	return l
}

func askedLinks(b api.Block) []string {
	var dests []string
	for _, leaf := range tree.Leaves(b) {
		wait := turned(leaf.Spans)
		for len(wait) > 0 {
			x := wait[len(wait)-1]
			wait = wait[:len(wait)-1]
			if x.Kind == 7 {
				dests = append(dests, x.Dest)
			}
			if x.Kind >= 5 && x.Kind <= 7 {
				wait = append(wait, turned(x.Kids)...)
			}
		}
	}
	return dests
}

// held holds all that can be told of b against the model, and P16.3.
func held(t *testing.T, b api.Block) {
	t.Helper()
	if got, want := plain.Text(b), askedText(b); got != want {
		t.Errorf("Text is %q, not %q, of %+v", got, want, b)
	}
	if got, want := plain.Spans(b.Spans), askedSpans(b.Spans); got != want {
		t.Errorf("Spans is %q, not %q, of %+v", got, want, b.Spans)
	}
	for _, i := range []int{-1, 0, 1, 1 << 60} {
		if got, want := plain.Marker(b, i), askedMarker(b, i); got != want {
			t.Errorf("Marker of item %d is %q, not %q, of %+v", i, got, want, b)
		}
	}
	heads := plain.Heads(b)
	if want := askedHeads(b); len(heads) != len(want) || len(want) > 0 && !reflect.DeepEqual(heads, want) {
		t.Errorf("Heads are\n%s\nnot\n%s\nof %+v", headsShown(heads), headsShown(want), b)
	}
	apart(t, heads)
	if got, want := plain.Links(b), askedLinks(b); !slices.Equal(got, want) {
		t.Errorf("Links are %q, not %q, of %+v", got, want, b)
	}
}

// apart holds P16.3.
func apart(t *testing.T, heads []api.Head) {
	t.Helper()
	names := map[string]int{}
	for i, h := range heads {
		if ahead, ok := names[h.Slug]; ok {
			t.Errorf("headings %d and %d have one name, %q", ahead, i, h.Slug)
		}
		names[h.Slug] = i
	}
}

// headsShown tells a line of each heading: its level, its name, which one it is under, its title.
func headsShown(l []api.Head) string {
	var lines []string
	for _, h := range l {
		line := strconv.Itoa(h.Level) + " " + h.Slug + " " + strconv.Itoa(h.Up) + " " + h.Title
		if h.Page != 0 || h.Y != 0 {
			line += ", on a page"
		}
		lines = append(lines, line)
	}
	return strings.Join(lines, "\n")
}

// document tells the document of s, which may be one.
func document(t *testing.T, s string) api.Block {
	t.Helper()
	b, e := tree.Parse(s)
	if e != api.OK {
		t.Errorf("%q is no document: error %d", s, e)
	}
	return b
}

// Texts, spans and blocks.

// texts hands on all texts of at most so many of these pieces.
func texts(count int, pieces []string, do func(s string)) {
	do("")
	if count == 0 {
		return
	}
	for _, p := range pieces {
		texts(count-1, pieces, func(s string) { do(p + s) })
	}
}

// chance tells numbers below others, the same ones at each run.
type chance uint64

func (c *chance) below(n int) int {
	*c = *c*6364136223846793005 + 1442695040888963407
	return int(uint64(*c)>>33) % n
}

// one tells one of l.
func one[T any](c *chance, l []T) T {
	return l[c.below(len(l))]
}

// kinds are kinds of blocks and spans, such too that there aren't.
func kinds() []int {
	return []int{-1 << 63, -7, -1, 0, 1, 2, 3, 4, 5, 6, 7, 8, 9, 10, 11, 1<<32 + 7, 1<<63 - 1}
}

// likely are kinds in their numbers' order, those most often that hold others, or have something to tell.
func likely() []int {
	return append(kinds(), 1, 3, 3, 3, 4, 5, 5, 5, 6, 6, 6, 6, 7, 7, 7)
}

func words() []string {
	return []string{"", "", "a", "A", "b", "a-1", "a-", "-1", "1", "a 1", " ", "\n", "\t", "_", "\u00e4", "\xff", "#a", "a-1-1", "a-2", "-"}
}

// spans tells up to four spans of any kind that hold such spans.
func (c *chance) spans(deep int) []api.Span {
	var l []api.Span
	for range c.below(4) {
		x := api.Span{Kind: one(c, likely()), Text: one(c, words()), Dest: one(c, words()), Title: one(c, words())}
		if deep > 0 {
			x.Kids = c.spans(c.below(deep))
		}
		l = append(l, x)
	}
	return l
}

// block tells a block of any kind that holds such blocks.
func (c *chance) block(deep int) api.Block {
	levels := []int{1, 1, 2, 2, 3, 4, 5, 6, 0, -1, 7, -1 << 63, 1<<63 - 1}
	starts := []int{0, 1, 2, 9, 99, 999999999, -1, -2, 1 << 60, -1 << 60}
	b := api.Block{Kind: one(c, likely()), Level: one(c, levels), Ordered: c.below(2) == 0, Start: one(c, starts), Mark: byte(c.below(256)), Tight: c.below(2) == 0, Info: one(c, words()), Text: one(c, words())}
	b.Spans = c.spans(c.below(4))
	if deep == 0 {
		return b
	}
	for range c.below(6) {
		b.Kids = append(b.Kids, c.block(c.below(deep)))
	}
	return b
}

// mixed tells a document's text of up to so many lines.
func (c *chance) mixed(most int) string {
	begins := []string{"", "", "> ", "- ", "- ", "+ ", "1. ", "7) ", "0. ", "999999999) ", "  ", "   ", "    ", "# ", "# ", "# ", "## ", "## ", "### ", "###### "}
	pieces := []string{
		"a", "a", "A", "b ", "-1", "-2", "1", " ", "*a*", "**b**", "_", "\u00e4", "`a`", "<b>", "&amp;", "\\*",
		"[a](/u)", "[*b*](#a)", "*[c](/v)*", "![d](/w)", "![[e](/x)](/y)", "[![f](/z)](/t)", "<http://g>", "[r]", "[h <http://i>](/j)", "***[k](l)***",
	}
	ends := []string{"\n", "\n", "\n\n", "\n\n", "  \n", "\\\n", "\n===\n", "\n---\n", "\n~~~\n", "\n[r]: /r\n"}
	var b strings.Builder
	for range 1 + c.below(most) {
		for range c.below(3) {
			b.WriteString(one(c, begins))
		}
		for range c.below(4) {
			b.WriteString(one(c, pieces))
		}
		b.WriteString(one(c, ends))
	}
	return b.String()
}

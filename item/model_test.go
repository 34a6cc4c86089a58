package item_test

import (
	"math/big"
	"regexp"
	"slices"
	"strconv"
	"strings"
	"testing"

	"compositor/api"
	"compositor/code"
	"compositor/font"
	"compositor/item"
)

// What the chapter asks, in another way: spans that wait in a list rather than in calls, glue that is thinned out when all of it is there, big numbers.

// token is a box (b), a glue (g) or a hard break (h) that isn't an item yet.
type token struct {
	kind  byte
	text  string
	style told
}

// told is how a span is set, as it waits.
type told struct {
	font, link int
	image      bool
}

var piecesOfText = regexp.MustCompile(`[ \t\n]|[^ \t\n]+`)

// tokensOf tells the tokens of a text: each blank, tab and LF is a glue, what stands between them a box.
func tokensOf(s string, style told) []token {
	var l []token
	for _, piece := range piecesOfText.FindAllString(s, -1) {
		if strings.Trim(piece, " \t\n") == "" {
			l = append(l, token{'g', "", style})
		} else {
			l = append(l, token{'b', piece, style})
		}
	}
	return l
}

// changed tells which font stands for f in emphasis, or in a strong span.
func changed(kind, f int) int {
	changes := map[[2]int]int{{5, 0}: 2, {5, 1}: 3, {6, 0}: 1, {6, 2}: 3}
	if other, ok := changes[[2]int{kind, f}]; ok {
		return other
	}
	return f
}

// tokensAsked tells the tokens of l, and the next link's number.
func tokensAsked(l []api.Span, f, link int) ([]token, int) {
	type waiting struct {
		span  api.Span
		style told
	}
	var wait []waiting
	add := func(kids []api.Span, style told) {
		for _, k := range slices.Backward(kids) {
			wait = append(wait, waiting{k, style})
		}
	}
	add(l, told{font: f})
	var tokens []token
	for len(wait) > 0 {
		x := wait[len(wait)-1]
		wait = wait[:len(wait)-1]
		mono := x.style
		mono.font = 4
		switch x.span.Kind {
		case 1:
			tokens = append(tokens, tokensOf(x.span.Text, x.style)...)
		case 4, 9:
			tokens = append(tokens, tokensOf(x.span.Text, mono)...)
		case 2:
			tokens = append(tokens, token{'g', "", x.style})
		case 3:
			tokens = append(tokens, token{'h', "", x.style})
		case 5, 6:
			x.style.font = changed(x.span.Kind, x.style.font)
			add(x.span.Kids, x.style)
		case 7:
			if !x.style.image {
				x.style.link = link
				link++
			}
			add(x.span.Kids, x.style)
		case 8:
			x.style.image = true
			add(x.span.Kids, x.style)
		}
	}
	return tokens, link
}

// thinned tells l without the tokens that come to nothing: of two side by side that may not be, one goes, till there are none such.
func thinned(l []token) []token {
	edge := token{kind: '|'}
	l = append(append([]token{edge}, l...), edge)
	// Of each two, whether the first one goes, or the second.
	goes := map[string]int{"|g": 1, "gg": 1, "hg": 1, "|h": 1, "hh": 1, "gh": 0, "g|": 0}
	for i := 0; i+1 < len(l); {
		which, ok := goes[string([]byte{l[i].kind, l[i+1].kind})]
		if !ok {
			i++
			continue
		}
		l = slices.Delete(l, i+which, i+which+1)
		i = max(i-1, 0)
	}
	return l[1 : len(l)-1]
}

// advance tells how far c goes.
func advance(f, size int, c byte) int {
	n := new(big.Int).Mul(big.NewInt(int64(font.Width(f, c))), big.NewInt(int64(size)))
	return int(n.Quo(n, big.NewInt(1000)).Int64())
}

// far tells how far codes go.
func far(f, size int, codes string) int {
	sum := 0
	for _, c := range []byte(codes) {
		sum += advance(f, size, c)
	}
	return sum
}

// boxAsked tells codes as a box.
func boxAsked(codes string, f, size, link int) api.Item {
	return api.Item{Kind: 1, Width: far(f, size, codes), Codes: codes, Font: f, Size: size, Link: link}
}

// glueAsked tells a glue of a font.
func glueAsked(f, size int) api.Item {
	w := advance(f, size, ' ')
	return api.Item{Kind: 2, Width: w, Grow: w / 2, Shrink: w / 3}
}

// makeAsked tells what Make is to tell.
func makeAsked(l []api.Span, f, size, link int) ([]api.Item, int) {
	tokens, next := tokensAsked(l, f, link)
	var items []api.Item
	for _, x := range thinned(tokens) {
		switch x.kind {
		case 'b':
			items = append(items, boxAsked(code.Codes(x.text), x.style.font, size, x.style.link))
		case 'g':
			items = append(items, glueAsked(x.style.font, size))
		case 'h':
			items = append(items, api.Item{Kind: 3, Cost: -10000})
		}
	}
	return items, next
}

// above tells whether a and b together are more than width.
func above(a *big.Int, b, width int) bool {
	sum := new(big.Int).Add(a, big.NewInt(int64(b)))
	return sum.Cmp(big.NewInt(int64(width))) > 0
}

// mostAsked tells how many codes of x, from the first one on, have a Run of at most width less used: it tries all of them, then one less, and so on.
func mostAsked(x api.Item, used *big.Int, width int) int {
	for n := len(x.Codes); n > 0; n-- {
		if !above(used, far(x.Font, x.Size, x.Codes[:n]), width) {
			return n
		}
	}
	return 0
}

// splitAsked tells what Split is to tell.
func splitAsked(l []api.Item, width int) []api.Item {
	var items []api.Item
	used := new(big.Int)
	stand := func(x api.Item) {
		items = append(items, x)
		used.Add(used, big.NewInt(int64(x.Width)))
	}
	for _, x := range l {
		if x.Kind != 1 {
			items = append(items, x)
			used.SetInt64(0)
			continue
		}
		for x.Codes != "" && above(used, x.Width, width) {
			n := mostAsked(x, used, width)
			if n == 0 && used.Sign() == 0 {
				n = 1
			}
			if n > 0 {
				stand(boxAsked(x.Codes[:n], x.Font, x.Size, x.Link))
				x = boxAsked(x.Codes[n:], x.Font, x.Size, x.Link)
			}
			if x.Codes != "" {
				items = append(items, api.Item{Kind: 3})
				used.SetInt64(0)
			}
		}
		if x.Codes != "" {
			stand(x)
		}
	}
	return items
}

// same tells whether two lists have the same items.
func same(a, b []api.Item) bool {
	return slices.Equal(a, b)
}

// heldMake holds what Make tells against the model, and tells it.
func heldMake(t *testing.T, l []api.Span, f, size, link int) ([]api.Item, int) {
	t.Helper()
	got, next := item.Make(l, f, size, link)
	want, wantNext := makeAsked(l, f, size, link)
	if !same(got, want) || next != wantNext {
		t.Errorf("Make(%+v, %d, %d, %d) is\n%s and %d, not\n%s and %d", l, f, size, link, shown(got), next, shown(want), wantNext)
	}
	orderly(t, got)
	return got, next
}

// orderly holds that glue and penalties stand only where they may.
func orderly(t *testing.T, l []api.Item) {
	t.Helper()
	for i, x := range l {
		if x.Kind != api.ItemBox && (i == 0 || l[i-1].Kind != api.ItemBox) {
			t.Errorf("item %d isn't right behind a box: %s", i, shown(l))
		}
	}
	if len(l) > 0 && l[len(l)-1].Kind == api.ItemGlue {
		t.Errorf("a glue stands at the end: %s", shown(l))
	}
}

// heldSplit holds what Split tells against the model, and tells it.
func heldSplit(t *testing.T, l []api.Item, width int) []api.Item {
	t.Helper()
	got := item.Split(l, width)
	if want := splitAsked(l, width); !same(got, want) {
		t.Errorf("Split(%s, %d) is\n%s, not\n%s", shown(l), width, shown(got), shown(want))
	}
	return got
}

// shown tells items in short, those of a size of 10000 in the shortest way: a box by its codes, /font and @link, but where these are 0; a glue of a plain font as _, of the mono one as =; a forced penalty as !, one of no cost as |.
func shown(l []api.Item) string {
	words := make([]string, len(l))
	for i, x := range l {
		words[i] = shownItem(x)
	}
	return strings.Join(words, " ")
}

func shownItem(x api.Item) string {
	switch {
	case x == (api.Item{Kind: 2, Width: 2780, Grow: 1390, Shrink: 926}):
		return "_"
	case x == (api.Item{Kind: 2, Width: 6000, Grow: 3000, Shrink: 2000}):
		return "="
	case x == (api.Item{Kind: 3, Cost: -10000}):
		return "!"
	case x == (api.Item{Kind: 3}):
		return "|"
	case x != boxAsked(x.Codes, x.Font, 10000, x.Link):
		return "{" + strconv.Itoa(x.Kind) + " width " + strconv.Itoa(x.Width) + " grow " + strconv.Itoa(x.Grow) + " shrink " + strconv.Itoa(x.Shrink) + " cost " + strconv.Itoa(x.Cost) +
			" " + strconv.Quote(x.Codes) + " font " + strconv.Itoa(x.Font) + " size " + strconv.Itoa(x.Size) + " link " + strconv.Itoa(x.Link) + "}"
	}
	s := strings.Trim(strconv.Quote(x.Codes), `"`)
	if x.Font != 0 {
		s += "/" + strconv.Itoa(x.Font)
	}
	if x.Link != 0 {
		s += "@" + strconv.Itoa(x.Link)
	}
	return s
}

// Spans and items.

// chance tells numbers below others, the same ones at each run.
type chance uint64

func (c *chance) below(n int) int {
	*c = *c*6364136223846793005 + 1442695040888963407
	return int(uint64(*c)>>33) % n
}

// one tells one of l.
func one[T any](c *chance, l []T) T {
	return l[c.below(len(l))]
}

// kinds are kinds of spans and items, such too that there aren't.
func kinds() []int {
	return []int{-1 << 63, -7, -1, 0, 1, 2, 3, 4, 5, 6, 7, 8, 9, 10, 11, 1<<32 + 1, 1<<32 + 7, 1<<63 - 1}
}

// strange are fonts that there aren't, some with the number of one in their lower bits.
func strange() []int {
	return []int{-1 << 63, -5, -4, -2, -1, 5, 6, 7, 256, 257, 1<<32 + 1, 1<<32 + 2, 1<<63 - 1}
}

func words() []string {
	return []string{"", "a", "b", "a b", " a", "b ", " ", "\t", "\n", "  ", " a  b ", "\u20ac", "\xff", "a\xc3 b", "\r", "wider", "\u4e00"}
}

// spans tells up to four spans of any kind that hold such spans.
func (c *chance) spans(deep int) []api.Span {
	var l []api.Span
	for range c.below(5) {
		kind := one(c, []int{1, 1, 1, 2, 3, 4, 5, 5, 6, 6, 7, 7, 8, 9, 0, -1, 10})
		x := api.Span{Kind: kind, Text: one(c, words()), Dest: one(c, words()), Title: one(c, words())}
		if deep > 0 {
			x.Kids = c.spans(c.below(deep))
		}
		l = append(l, x)
	}
	return l
}

// items tells up to so many items, those of each kind such as Make tells, and some of no kind.
func (c *chance) items(most int) []api.Item {
	var l []api.Item
	for range c.below(most + 1) {
		f, size := one(c, []int{0, 1, 2, 3, 4, 4, 7}), one(c, []int{0, 1, 3, 999, 4000, 10000, 10000, 10000, 72000})
		switch c.below(9) {
		case 0:
			l = append(l, glueAsked(f, size))
		case 1:
			l = append(l, api.Item{Kind: 3, Cost: one(c, []int{0, -10000, 10000, 50})})
		case 2:
			l = append(l, api.Item{Kind: one(c, kinds()), Codes: one(c, []string{"", "ab"})})
		default:
			codes := one(c, []string{"", "a", "i", "ab", "iW", "abc", "Wide", "\x00\xff", "1234567890", "iiiiiiiiiWiiiii"})
			l = append(l, boxAsked(codes, f, size, c.below(3)))
		}
	}
	return l
}

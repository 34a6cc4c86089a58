package sheet_test

import (
	"strings"
	"testing"

	"compositor/api"
	"compositor/code"
	"compositor/plain"
)

// signs tells codes without blanks.
func signs(codes string) string {
	return strings.NewReplacer(" ", "", "\t", "", "\n", "").Replace(codes)
}

// signsOf tells the signs of lines, in order.
func signsOf(l []api.Line) string {
	var s strings.Builder
	for _, x := range l {
		for _, r := range x.Runs {
			s.WriteString(r.Codes)
		}
	}
	return signs(s.String())
}

// complete holds P20.2 to lines of a document: they have all its signs, in order; each heading stands where it begins, each link is one of the document's.
func complete(t *testing.T, s string, b api.Block, l []api.Line) {
	t.Helper()
	if got, want := signsOf(l), code.Codes(signs(plain.Text(b))); got != want {
		t.Errorf("the signs of %q are %q, not %q", s, got, want)
	}
	heads, links := plain.Heads(b), plain.Links(b)
	count, last := 0, 0
	for i, x := range l {
		if x.Heading != 0 {
			count++
			if x.Heading != count || count > len(heads) {
				t.Fatalf("in %q, line %d begins heading %d, behind %d", s, i, x.Heading, count-1)
			}
			if title := code.Codes(signs(heads[count-1].Title)); !strings.Contains(signsOf(l[i:]), title) {
				t.Errorf("in %q, heading %d isn't where line %d is", s, count, i)
			}
		}
		for _, r := range x.Runs {
			if r.Link != 0 && r.Link < last || r.Link > len(links) || r.Link < 0 {
				t.Errorf("in %q, a run is of link %d, behind one of link %d", s, r.Link, last)
			}
			last = max(last, r.Link)
		}
	}
	if count != len(heads) {
		t.Errorf("in %q, %d of %d headings have a line", s, count, len(heads))
	}
}

// within holds P20.2 to lines in a width of three sizes, or more: all of them stand within.
func within(t *testing.T, s string, l []api.Line, width int) {
	t.Helper()
	for i, x := range l {
		end := 0
		if x.Rule != 0 {
			end = x.Indent + x.Rule
		}
		if x.Indent < 0 || x.Rule < 0 || end > width {
			t.Errorf("in %d, line %d of %q is a rule from %d to %d", width, i, s, x.Indent, end)
		}
		end = 0
		for _, r := range x.Runs {
			if r.X < end || r.X+r.Width > width {
				t.Errorf("in %d, a run of line %d of %q stands from %d to %d", width, i, s, r.X, r.X+r.Width)
			}
			end = r.X + r.Width
		}
	}
}

// whole holds all that is said of a document's lines, in many widths.
func whole(t *testing.T, s string, widths []int, size int) {
	t.Helper()
	b := document(t, s)
	for _, width := range widths {
		l := held(t, b, width, size)
		if width >= 3*size {
			complete(t, s, b, l)
			within(t, s, l, width)
		}
	}
}

// texts hands on all texts of at most so many of these pieces.
func texts(count int, pieces []string, do func(s string)) {
	do("")
	if count == 0 {
		return
	}
	for _, p := range pieces {
		texts(count-1, pieces, func(s string) { do(p + s) })
	}
}

// TestShort holds P20.1 and P20.2 to all short documents of a few pieces.
func TestShort(t *testing.T) {
	widths := []int{3000, 3056, 4112, 20000}
	for _, pieces := range [][]string{
		{"a\n", "\n", "> ", "- ", "# ", "***\n", "    "},
		{"- ", "1. ", "  ", "a\n", "~~~\n", "***\n", "\n"},
		{"[a](b) ", "# ", "*c* ", "\n", "- ", "![](d) ", "![e](f) "},
		{"9. a\n", "9. ", "> ", "WWWW \n", "# ", "<b>\n", "\t"},
	} {
		texts(5, pieces, func(s string) { whole(t, s, widths, 1000) })
	}
}

// TestMixed holds P20.1 and P20.2 to mixed documents, in widths of all kinds.
func TestMixed(t *testing.T) {
	c := chance(20261202)
	for range 1500 {
		size := one(&c, []int{1000, 1009, 4000, 10000, 71999, 72000})
		widths := []int{3 * size, 3*size + c.below(size), c.below(3 * size), 3*size + c.below(40*size), 1 << 24}
		whole(t, c.mixed(25), widths, size)
		if t.Failed() {
			return
		}
	}
}

// TestNarrowest holds P20.2 to three sizes' width, in which each code has room, in each font, beside or below what is ahead of it.
func TestNarrowest(t *testing.T) {
	var all strings.Builder
	for i := range 256 {
		if r, ok := code.From(byte(i)); ok && !strings.ContainsRune("\\`*_[]<>&", r) {
			all.WriteRune(r)
		}
	}
	s := strings.TrimSpace(all.String())
	for _, size := range []int{1000, 1001, 4000, 10000, 72000} {
		for _, begin := range []string{"", "# ", "> > > ", "- ", "- - ", "> 999. ", "999999999) ", "- > # ", "    ", "> # ", "~~~\n"} {
			for _, width := range []int{3 * size, 3*size + 1, 4 * size} {
				whole(t, begin+"*"+s+"*", []int{width}, size)
				whole(t, begin+s, []int{width}, size)
			}
		}
	}
}

// TestBlocks holds P20.1 to blocks of any kind in one another, in widths of all kinds.
func TestBlocks(t *testing.T) {
	c := chance(20261203)
	for range 15000 {
		size := one(&c, []int{1000, 1009, 10000, 72000})
		b := c.block(5)
		for _, width := range []int{0, c.below(4 * size), 3*size + c.below(30*size), one(&c, []int{1, 2 * size, 1 << 24})} {
			held(t, b, width, size)
		}
		if t.Failed() {
			return
		}
	}
}

// TestWidths holds P20.1 to each width about where something comes to have room.
func TestWidths(t *testing.T) {
	s := "# a b\n> c\n> - d\n>   10. e\n>       > f\n\n1. g\n2. - ***\n   - # h\n   - ~~~\n     i\tj\n\n[k l m n o p q](/r)  \ns\n"
	b := document(t, s)
	for width := range 12000 {
		l := held(t, b, width, 1000)
		if width >= 3000 {
			complete(t, s, b, l)
			within(t, s, l, width)
		}
	}
}

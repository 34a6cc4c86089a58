package cursor_test

import (
	"math"
	"strconv"
	"strings"
	"testing"
	"unsafe"

	"compositor/api"
	"compositor/cursor"
)

const (
	farthest = 1 << 40
	many     = 1 << 20
)

// place is the one at this byte of line, in this column, with so many columns left of a tab.
func place(line string, at, col, left int) api.Cursor {
	return api.Cursor{Line: line, At: at, Col: col, Left: left}
}

// rightAsked tells whether the chapter lets c be.
func rightAsked(c api.Cursor) bool {
	if c.At < 0 || len(c.Line) < c.At || c.Col < 0 || farthest < c.Col || c.Left < 0 || 3 < c.Left {
		return false
	}
	return c.Left == 0 || strings.HasPrefix(c.Line[c.At:], "\t")
}

// stepAsked tells the place one column further, and false, if there is none.
func stepAsked(c api.Cursor) (api.Cursor, bool) {
	rest := c.Line[c.At:]
	left := c.Left - 1
	switch {
	case strings.HasPrefix(rest, " "):
		left = 0
	case !strings.HasPrefix(rest, "\t"):
		return c, false
	case c.Left == 0:
		left = []int{3, 2, 1, 0}[c.Col%4]
	}
	if left == 0 {
		return place(c.Line, c.At+1, c.Col+1, 0), true
	}
	return place(c.Line, c.At, c.Col+1, left), true
}

// placesAsked tells c, and each place so many columns further.
func placesAsked(c api.Cursor) []api.Cursor {
	l := []api.Cursor{c}
	if !rightAsked(c) {
		return l
	}
	for {
		next, ok := stepAsked(l[len(l)-1])
		if !ok {
			return l
		}
		l = append(l, next)
	}
}

func moveAsked(c api.Cursor, n int) api.Cursor {
	if !rightAsked(c) || c.Left != 0 {
		return c
	}
	for i := 0; i < n && c.At < len(c.Line) && c.Line[c.At] != '\t'; i++ {
		c = place(c.Line, c.At+1, c.Col+1, 0)
	}
	return c
}

func restAsked(c api.Cursor) string {
	if !rightAsked(c) {
		return ""
	}
	if c.Left > 0 {
		return "   "[:c.Left] + strings.TrimPrefix(c.Line[c.At:], "\t")
	}
	return c.Line[c.At:]
}

func nextAsked(c api.Cursor) string {
	if !rightAsked(c) {
		return ""
	}
	l := placesAsked(c)
	return c.Line[l[len(l)-1].At:]
}

// show tells a place, of a long line but the beginning.
func show(c api.Cursor) string {
	line := strconv.Quote(c.Line[:min(len(c.Line), 60)])
	return line + " of " + strconv.Itoa(len(c.Line)) + " at " + strconv.Itoa(c.At) + ", " + strconv.Itoa(c.Col) + ", " + strconv.Itoa(c.Left)
}

// cut tells the beginning of a long text.
func cut(s string) string {
	return s[:min(len(s), 60)]
}

func checkRight(t *testing.T, c api.Cursor, want bool) {
	t.Helper()
	if is := cursor.Right(c); is != want {
		t.Errorf("Right(%s) is %v", show(c), is)
	}
}

func checkSkip(t *testing.T, c api.Cursor, n int, want api.Cursor) {
	t.Helper()
	if d := cursor.Skip(c, n); d != want {
		t.Errorf("Skip(%s, %d) is %s, asked is %s", show(c), n, show(d), show(want))
	}
}

func checkIndent(t *testing.T, c api.Cursor, want int) {
	t.Helper()
	if n := cursor.Indent(c); n != want {
		t.Errorf("Indent(%s) is %d, asked is %d", show(c), n, want)
	}
}

func checkMove(t *testing.T, c api.Cursor, n int, want api.Cursor) {
	t.Helper()
	if d := cursor.Move(c, n); d != want {
		t.Errorf("Move(%s, %d) is %s, asked is %s", show(c), n, show(d), show(want))
	}
}

// checkComes asks for what comes at c, and for what comes behind all blanks.
func checkComes(t *testing.T, c api.Cursor, rest, next string) {
	t.Helper()
	if s := cursor.Rest(c); s != rest {
		t.Errorf("Rest(%s) is %q, asked is %q", show(c), cut(s), cut(rest))
	}
	if s := cursor.Next(c); s != next {
		t.Errorf("Next(%s) is %q, asked is %q", show(c), cut(s), cut(next))
	}
	if is := cursor.Blank(c); is != (next == "") {
		t.Errorf("Blank(%s) is %v", show(c), is)
	}
}

// counts are those of columns and bytes that are asked everywhere.
func counts() []int {
	return []int{math.MinInt, math.MinInt + 1, -farthest, -4, -2, -1, 0, 1, 2, 3, 4, 5, 6, 7, 8, 9, 12, farthest, math.MaxInt - 1, math.MaxInt}
}

// checkAsked holds all calls against what the chapter asks.
func checkAsked(t *testing.T, c api.Cursor) {
	t.Helper()
	checkRight(t, c, rightAsked(c))
	checkComes(t, c, restAsked(c), nextAsked(c))
	l := placesAsked(c)
	checkIndent(t, c, len(l)-1)
	for _, n := range counts() {
		checkSkip(t, c, n, l[min(max(n, 0), len(l)-1)])
		checkMove(t, c, n, moveAsked(c, n))
	}
	for _, n := range []int{len(l) - 2, len(l) - 1, len(l)} {
		checkSkip(t, c, n, l[min(max(n, 0), len(l)-1)])
	}
	for _, n := range []int{len(c.Line) - c.At - 1, len(c.Line) - c.At, len(c.Line) - c.At + 1} {
		checkMove(t, c, n, moveAsked(c, n))
	}
}

// checkWrong asks for what the chapter tells of a place that may not be.
func checkWrong(t *testing.T, c api.Cursor) {
	t.Helper()
	checkRight(t, c, false)
	checkComes(t, c, "", "")
	checkIndent(t, c, 0)
	for _, n := range counts() {
		checkSkip(t, c, n, c)
		checkMove(t, c, n, c)
	}
}

// lines tells all of at most so many of these pieces.
func lines(count int, pieces ...string) []string {
	all := []string{""}
	last := all
	for range count {
		var next []string
		for _, s := range last {
			for _, p := range pieces {
				next = append(next, s+p)
			}
		}
		all = append(all, next...)
		last = next
	}
	return all
}

// dice answers numbers below what it is asked for, the same ones at each start.
func dice() func(int) int {
	state := uint64(20261118)
	return func(below int) int {
		state = state*6364136223846793005 + 1442695040888963407
		return int(state>>33) % below
	}
}

// mixed tells lines of fewer than 20 pieces, the same ones at each call.
func mixed(count int) []string {
	pieces := []string{
		" ", " ", " ", "  ", "\t", "\t", "\t", "\t\t", " \t", "a", "b", "ab", ">", "- ", "#", "\n", "\r", "\x00", "\x0b", "\x0c", "\x7f",
		"\u00a0", "\u00e9", "\u2003", "\u20ac", "\U0001f600", "\x80", "\xff", "\xc3", "\xe2\x82", "\xed\xa0\x80", "\xf4\x90\x80\x80", "\xef\xbf\xbd",
	}
	next := dice()
	l := make([]string, count)
	for i := range l {
		for range next(20) {
			l[i] += pieces[next(len(pieces))]
		}
	}
	return l
}

// P7.1: the line's beginning, and which places may be

func TestNew(t *testing.T) {
	l := append(mixed(100), "", "a", " ", "\t", "\n", " \tab", "\x00", "\xff", "\u20ac", strings.Repeat("a", many))
	for _, s := range l {
		c := cursor.New(s)
		if c != place(s, 0, 0, 0) {
			t.Errorf("New(%q) is %s", cut(s), show(c))
		}
		checkRight(t, c, true)
		if r := cursor.Rest(c); r != s {
			t.Errorf("at the beginning of %q comes %q", cut(s), cut(r))
		}
	}
}

func TestPlacesThatMayBe(t *testing.T) {
	for _, c := range []api.Cursor{
		{},
		// At of 0, of the line's length, and between.
		place("", 0, 0, 0), place("a", 0, 0, 0), place("a", 1, 0, 0), place("a", 1, 1, 0), place("ab", 1, 1, 0), place("\t", 0, 0, 0), place("\t", 1, 4, 0), place("\t", 1, 0, 0),
		// Within a rune, and within bytes that are none.
		place("\u20ac", 1, 1, 0), place("\u20ac", 2, 2, 0), place("\u20ac", 3, 3, 0), place("\xff\xff", 1, 1, 0),
		// Col of 0, of 2^40, and beside it; of no account is how many bytes there are.
		place("", 0, 1, 0), place("a", 0, 99, 0), place("a", 1, 0, 0), place("ab", 0, farthest-1, 0), place("ab", 0, farthest, 0), place("", 0, farthest, 0),
		// Left of 0 to 3 at a tab, in whatever column.
		place("\t", 0, 0, 0), place("\t", 0, 1, 3), place("\t", 0, 2, 2), place("\t", 0, 3, 1), place("\t", 0, 0, 1), place("\t", 0, 0, 2), place("\t", 0, 0, 3), place("\t", 0, 7, 3),
		place(" \tab", 1, 2, 2), place("a\t", 1, 1, 3), place("a\t\t", 2, 5, 3), place("\t", 0, farthest, 3), place("\t", 0, farthest, 0), place("\u20ac\t", 3, 3, 1), place("\xff\t", 1, 1, 2),
	} {
		checkRight(t, c, true)
	}
}

func TestPlacesThatMayNotBe(t *testing.T) {
	for _, c := range []api.Cursor{
		// At below 0, and behind the line.
		place("", -1, 0, 0), place("", 1, 0, 0), place("a", -1, 0, 0), place("a", 2, 0, 0), place("  a", -1, 0, 0), place("  a", 4, 0, 0), place("\t", -1, 0, 0), place("\t", 2, 0, 0),
		place("\t", -1, 0, 1), place("\t", 1, 0, 1), place("\t", 2, 0, 1), place("\u20ac", 4, 0, 0), place("\xff", 2, 0, 0), place("  a", math.MinInt, 0, 0), place("  a", math.MaxInt, 0, 0), place("  a", -farthest, 0, 0), place("  a", farthest, 0, 0),
		place("\t", math.MaxInt, 0, 2), place("\t", math.MinInt, 0, 2),
		// Col below 0, and past 2^40.
		place("", 0, -1, 0), place("  a", 0, -1, 0), place("\ta", 0, -1, 0), place("\ta", 0, -4, 0), place("\ta", 0, -1, 1), place("\ta", 0, -3, 3), place("  a", 0, farthest+1, 0), place("", 0, farthest+1, 0), place("\ta", 0, farthest+1, 0), place("\ta", 0, farthest+1, 3),
		place("  a", 0, farthest+4, 0), place("  a", 0, math.MinInt, 0), place("\ta", 0, math.MinInt, 0), place("  a", 0, math.MaxInt, 0), place("\ta", 0, math.MaxInt, 0), place("\ta", 0, math.MaxInt, 1),
		// Left below 0, and above 3.
		place("\ta", 0, 0, -1), place("\ta", 0, 1, -3), place("\ta", 0, 0, 4), place("\ta", 0, 1, 5), place("\ta", 0, 0, math.MinInt), place("\ta", 0, 0, math.MaxInt), place("\ta", 0, 0, farthest), place(" a", 0, 0, -1), place(" a", 0, 0, 4), place("a", 0, 0, -1), place("", 0, 0, -1), place("", 0, 0, 4),
		// Left where no tab is at At, or at the line's end.
		place("", 0, 0, 1), place("", 0, 0, 2), place("", 0, 0, 3), place("a", 0, 0, 1), place("a", 1, 1, 1), place(" ", 0, 0, 1), place(" ", 0, 1, 3), place(" \t", 0, 0, 3), place("a\t", 0, 0, 3), place("\ta", 1, 4, 1), place("\t ", 1, 4, 2), place("\t", 1, 4, 1), place("\t", 1, 4, 3),
		place("\n", 0, 0, 1), place("\x00", 0, 0, 1), place("\x08", 0, 0, 1), place("\x0b", 0, 0, 1), place("\xff", 0, 0, 1), place("\xff\t", 0, 0, 1), place("\u20ac\t", 2, 2, 1), place("\u0109", 0, 0, 1), place("\u0900", 1, 0, 1),
		// In several ways at once.
		place("", -1, -1, -1), place("\t", 5, -1, 9), place("a", math.MinInt, math.MinInt, math.MinInt), place("a", math.MaxInt, math.MaxInt, math.MaxInt),
	} {
		checkWrong(t, c)
		if rightAsked(c) {
			t.Errorf("%s may be", show(c))
		}
	}
}

// P7.1: columns

// gone is where so many columns, or bytes, further lead, and what comes there.
type gone struct {
	n, at, col, left int
	rest             string
}

// checkComesThere asks for a place that may be, and for what comes there.
func checkComesThere(t *testing.T, c api.Cursor, rest string) {
	t.Helper()
	checkRight(t, c, true)
	checkComes(t, c, rest, strings.TrimLeft(rest, " \t"))
}

func checkSkips(t *testing.T, c api.Cursor, l ...gone) {
	t.Helper()
	for _, g := range l {
		there := place(c.Line, g.at, g.col, g.left)
		checkSkip(t, c, g.n, there)
		checkComesThere(t, there, g.rest)
	}
}

func checkMoves(t *testing.T, c api.Cursor, l ...gone) {
	t.Helper()
	for _, g := range l {
		there := place(c.Line, g.at, g.col, g.left)
		checkMove(t, c, g.n, there)
		checkComesThere(t, there, g.rest)
	}
}

func TestEmptyLine(t *testing.T) {
	c := cursor.New("")
	checkIndent(t, c, 0)
	checkComes(t, c, "", "")
	for _, n := range counts() {
		checkSkip(t, c, n, c)
		checkMove(t, c, n, c)
	}
}

func TestExample(t *testing.T) {
	c := cursor.New(" \tab")
	checkIndent(t, c, 4)
	checkComes(t, c, " \tab", "ab")
	checkSkips(t, c, gone{2, 1, 2, 2, "  ab"})
	checkIndent(t, cursor.Skip(c, 2), 2)
}

func TestBlanksAlone(t *testing.T) {
	checkSkips(t, cursor.New("     "),
		gone{-1, 0, 0, 0, "     "}, gone{0, 0, 0, 0, "     "}, gone{1, 1, 1, 0, "    "}, gone{2, 2, 2, 0, "   "}, gone{3, 3, 3, 0, "  "},
		gone{4, 4, 4, 0, " "}, gone{5, 5, 5, 0, ""}, gone{6, 5, 5, 0, ""}, gone{math.MaxInt, 5, 5, 0, ""})
	for n := range 20 {
		c := cursor.New(strings.Repeat(" ", n))
		checkIndent(t, c, n)
		checkAsked(t, c)
		if !cursor.Blank(c) {
			t.Errorf("%d blanks are not blank", n)
		}
	}
}

func TestTabsAlone(t *testing.T) {
	checkSkips(t, cursor.New("\t"),
		gone{-1, 0, 0, 0, "\t"}, gone{0, 0, 0, 0, "\t"}, gone{1, 0, 1, 3, "   "}, gone{2, 0, 2, 2, "  "}, gone{3, 0, 3, 1, " "},
		gone{4, 1, 4, 0, ""}, gone{5, 1, 4, 0, ""}, gone{math.MaxInt, 1, 4, 0, ""})
	checkSkips(t, cursor.New("\t\t"),
		gone{3, 0, 3, 1, " \t"}, gone{4, 1, 4, 0, "\t"}, gone{5, 1, 5, 3, "   "}, gone{7, 1, 7, 1, " "}, gone{8, 2, 8, 0, ""}, gone{9, 2, 8, 0, ""})
	for n := range 20 {
		c := cursor.New(strings.Repeat("\t", n))
		checkIndent(t, c, 4*n)
		checkAsked(t, c)
		if !cursor.Blank(c) {
			t.Errorf("%d tabs are not blank", n)
		}
	}
}

func TestBlanksAndTabs(t *testing.T) {
	// A tab behind none to seven blanks, and one more behind it.
	for _, c := range []struct {
		line   string
		indent int
	}{
		{"\tx", 4}, {" \tx", 4}, {"  \tx", 4}, {"   \tx", 4}, {"    \tx", 8}, {"     \tx", 8}, {"      \tx", 8}, {"       \tx", 8}, {"        \tx", 12},
		{"\t x", 5}, {"\t  x", 6}, {"\t   x", 7}, {"\t    x", 8}, {" \t x", 5}, {"\t\tx", 8}, {"\t \tx", 8}, {"\t   \tx", 8}, {"\t    \tx", 12}, {" \t \tx", 8}, {"   \t\tx", 8}, {"    \t\tx", 12}, {" \t\t \t\tx", 16},
		{"x", 0}, {" x", 1}, {"   x", 3}, {"    x", 4}, {"     x", 5}, {"\t", 4}, {"   \t", 4}, {"    \t", 8}, {"\t ", 5},
	} {
		checkIndent(t, cursor.New(c.line), c.indent)
		checkAsked(t, cursor.New(c.line))
	}
	checkSkips(t, cursor.New("  \t \tx"),
		gone{0, 0, 0, 0, "  \t \tx"}, gone{1, 1, 1, 0, " \t \tx"},
		// Just ahead of a tab, within it at each of its columns, just behind it.
		gone{2, 2, 2, 0, "\t \tx"}, gone{3, 2, 3, 1, "  \tx"}, gone{4, 3, 4, 0, " \tx"},
		// And past the next one.
		gone{5, 4, 5, 0, "\tx"}, gone{6, 4, 6, 2, "  x"}, gone{7, 4, 7, 1, " x"}, gone{8, 5, 8, 0, "x"}, gone{9, 5, 8, 0, "x"}, gone{99, 5, 8, 0, "x"})
	for _, s := range lines(7, " ", "\t") {
		for _, behind := range []string{"", "x", "x \t", "\n"} {
			checkAsked(t, cursor.New(s+behind))
		}
	}
}

func TestTabInEachColumn(t *testing.T) {
	for col := range 40 {
		c := place("\tx", 0, col, 0)
		wide := 4 - col%4
		checkIndent(t, c, wide)
		checkComesThere(t, c, "\tx")
		for n := 1; n < wide; n++ {
			checkSkips(t, c, gone{n, 0, col + n, wide - n, "   "[:wide-n] + "x"})
		}
		checkSkips(t, c, gone{wide, 1, col + wide, 0, "x"}, gone{wide + 1, 1, col + wide, 0, "x"})
		checkAsked(t, c)
		// So it is behind blanks, and behind something else.
		checkIndent(t, cursor.New(strings.Repeat(" ", col)+"\tx"), col+wide)
		checkIndent(t, cursor.Move(cursor.New(strings.Repeat("a", col)+"\tx"), col), wide)
	}
}

func TestWithinATab(t *testing.T) {
	// Where the columns lead to one that 4 divides.
	checkSkips(t, place("\tx", 0, 1, 3), gone{-1, 0, 1, 3, "   x"}, gone{0, 0, 1, 3, "   x"}, gone{1, 0, 2, 2, "  x"}, gone{2, 0, 3, 1, " x"}, gone{3, 1, 4, 0, "x"}, gone{4, 1, 4, 0, "x"})
	checkSkips(t, place("\tx", 0, 2, 2), gone{0, 0, 2, 2, "  x"}, gone{1, 0, 3, 1, " x"}, gone{2, 1, 4, 0, "x"}, gone{3, 1, 4, 0, "x"})
	checkSkips(t, place("\tx", 0, 3, 1), gone{0, 0, 3, 1, " x"}, gone{1, 1, 4, 0, "x"}, gone{2, 1, 4, 0, "x"})
	checkSkips(t, place(" \t \tx", 1, 3, 1), gone{1, 2, 4, 0, " \tx"}, gone{2, 3, 5, 0, "\tx"}, gone{3, 3, 6, 2, "  x"}, gone{5, 4, 8, 0, "x"}, gone{6, 4, 8, 0, "x"})
	checkSkips(t, place("a\t\t", 1, 2, 2), gone{1, 1, 3, 1, " \t"}, gone{2, 2, 4, 0, "\t"}, gone{3, 2, 5, 3, "   "}, gone{6, 3, 8, 0, ""}, gone{7, 3, 8, 0, ""})
	// And where they don't: Left alone tells how many are left, and the next tab begins where this one ended.
	checkSkips(t, place("\t\tx", 0, 0, 1), gone{1, 1, 1, 0, "\tx"}, gone{2, 1, 2, 2, "  x"}, gone{4, 2, 4, 0, "x"}, gone{5, 2, 4, 0, "x"})
	checkSkips(t, place("\t\tx", 0, 3, 3), gone{1, 0, 4, 2, "  \tx"}, gone{2, 0, 5, 1, " \tx"}, gone{3, 1, 6, 0, "\tx"}, gone{4, 1, 7, 1, " x"}, gone{5, 2, 8, 0, "x"}, gone{6, 2, 8, 0, "x"})
	for left := 1; left <= 3; left++ {
		for col := range 9 {
			blanks := "   "[:left]
			for _, behind := range []string{"", "x", " ", " x", "\t", "\tx", " \tx", "x \t", "\u20ac", "\xff"} {
				c := place("a\t"+behind, 1, col, left)
				checkComesThere(t, c, blanks+behind)
				checkAsked(t, c)
				for _, n := range counts() {
					checkMove(t, c, n, c)
				}
			}
			checkIndent(t, place("\tx", 0, col, left), left)
		}
	}
}

func TestColumnsBehindSomethingElse(t *testing.T) {
	checkSkips(t, cursor.New("a \tb"), gone{1, 0, 0, 0, "a \tb"}, gone{math.MaxInt, 0, 0, 0, "a \tb"})
	checkSkips(t, cursor.New(" a \tb"), gone{1, 1, 1, 0, "a \tb"}, gone{2, 1, 1, 0, "a \tb"}, gone{9, 1, 1, 0, "a \tb"})
	checkSkips(t, cursor.New("\ta\t b"), gone{4, 1, 4, 0, "a\t b"}, gone{5, 1, 4, 0, "a\t b"})
	checkSkips(t, place("a \tb", 1, 1, 0), gone{1, 2, 2, 0, "\tb"}, gone{2, 2, 3, 1, " b"}, gone{3, 3, 4, 0, "b"}, gone{4, 3, 4, 0, "b"})
	checkIndent(t, cursor.New("a \tb"), 0)
	checkIndent(t, cursor.New(" a \tb"), 1)
	checkIndent(t, cursor.New("\ta\t b"), 4)
	checkIndent(t, place("a \tb", 1, 1, 0), 3)
	checkIndent(t, place("a ", 2, 2, 0), 0)
	checkComes(t, cursor.New("a \tb \t"), "a \tb \t", "a \tb \t")
	checkComes(t, cursor.New(" a \tb \t"), " a \tb \t", "a \tb \t")
	checkComes(t, place("a \t", 1, 1, 0), " \t", "")
}

func TestOtherSignsAreNoBlanks(t *testing.T) {
	for n := range 256 {
		sign := string([]byte{byte(n)})
		if sign == " " || sign == "\t" {
			continue
		}
		for _, ahead := range []string{"", " ", "\t", " \t"} {
			c := cursor.New(ahead + sign + " \tb")
			checkComes(t, c, c.Line, sign+" \tb")
			checkIndent(t, c, map[string]int{"": 0, " ": 1, "\t": 4, " \t": 4}[ahead])
			checkAsked(t, c)
		}
	}
	for _, s := range []string{"\u00a0", "\u0085", "\u1680", "\u2003", "\u2028", "\u202f", "\u205f", "\u3000", "\ufeff", "\r\n"} {
		checkComes(t, cursor.New(s), s, s)
		checkIndent(t, cursor.New(" "+s), 1)
		checkSkip(t, cursor.New(s), 1, cursor.New(s))
	}
}

// P7.1: the ends of the columns

func TestFarColumns(t *testing.T) {
	// 2^40 is a column that 4 divides.
	checkIndent(t, place("\tx", 0, farthest-1, 0), 1)
	checkIndent(t, place("\tx", 0, farthest-3, 0), 3)
	checkIndent(t, place("\tx", 0, farthest, 0), 4)
	checkIndent(t, place("\tx", 0, farthest, 3), 3)
	checkSkips(t, place(" \tx", 0, farthest-2, 0), gone{1, 1, farthest - 1, 0, "\tx"}, gone{2, 2, farthest, 0, "x"}, gone{3, 2, farthest, 0, "x"})
	checkMoves(t, place("ab", 0, farthest-1, 0), gone{1, 1, farthest, 0, "b"})
	checkComesThere(t, place("  x", 0, farthest, 0), "  x")
	checkComesThere(t, place("\tx", 0, farthest, 2), "  x")
	// Going on leads past it, to places that may not be.
	for _, c := range []struct {
		from, to api.Cursor
	}{
		{place("  x", 0, farthest, 0), place("  x", 2, farthest+2, 0)},
		{place("  x", 0, farthest-1, 0), place("  x", 2, farthest+1, 0)},
		{place("\tx", 0, farthest, 0), place("\tx", 1, farthest+4, 0)},
		{place("\tx", 0, farthest, 3), place("\tx", 1, farthest+3, 0)},
		{place("\t\tx", 0, farthest-1, 0), place("\t\tx", 2, farthest+4, 0)},
	} {
		checkSkip(t, c.from, 99, c.to)
		checkIndent(t, c.from, c.to.Col-c.from.Col)
		checkWrong(t, c.to)
		checkComes(t, c.from, restAsked(c.from), "x")
	}
	checkMove(t, place("ab", 0, farthest, 0), 2, place("ab", 2, farthest+2, 0))
	for col := farthest - 9; col < farthest+9; col++ {
		for _, s := range lines(4, " ", "\t", "x") {
			for left := range 4 {
				checkAsked(t, place(s, 0, col, left))
			}
		}
	}
}

// P7.1: bytes

func TestMove(t *testing.T) {
	checkMoves(t, cursor.New("abc"),
		gone{math.MinInt, 0, 0, 0, "abc"}, gone{-1, 0, 0, 0, "abc"}, gone{0, 0, 0, 0, "abc"}, gone{1, 1, 1, 0, "bc"}, gone{2, 2, 2, 0, "c"},
		gone{3, 3, 3, 0, ""}, gone{4, 3, 3, 0, ""}, gone{math.MaxInt, 3, 3, 0, ""})
	// Up to a tab, and at one.
	checkMoves(t, cursor.New("ab\tc"), gone{1, 1, 1, 0, "b\tc"}, gone{2, 2, 2, 0, "\tc"}, gone{3, 2, 2, 0, "\tc"}, gone{4, 2, 2, 0, "\tc"}, gone{math.MaxInt, 2, 2, 0, "\tc"})
	checkMoves(t, cursor.New("\tab"), gone{-1, 0, 0, 0, "\tab"}, gone{0, 0, 0, 0, "\tab"}, gone{1, 0, 0, 0, "\tab"}, gone{99, 0, 0, 0, "\tab"})
	checkMoves(t, place("ab\tc", 2, 2, 0), gone{1, 2, 2, 0, "\tc"}, gone{2, 2, 2, 0, "\tc"})
	checkMoves(t, cursor.New("a\tb\tc"), gone{2, 1, 1, 0, "\tb\tc"}, gone{5, 1, 1, 0, "\tb\tc"})
	// Within one.
	checkMoves(t, place("\tab", 0, 1, 3), gone{-1, 0, 1, 3, "   ab"}, gone{0, 0, 1, 3, "   ab"}, gone{1, 0, 1, 3, "   ab"}, gone{9, 0, 1, 3, "   ab"})
	checkMoves(t, place("\tab", 0, 3, 1), gone{1, 0, 3, 1, " ab"}, gone{2, 0, 3, 1, " ab"})
	// Behind one, from any column, and at the end.
	checkMoves(t, place("\tab", 1, 4, 0), gone{1, 2, 5, 0, "b"}, gone{2, 3, 6, 0, ""}, gone{3, 3, 6, 0, ""})
	checkMoves(t, place("abc", 1, 99, 0), gone{1, 2, 100, 0, "c"}, gone{9, 3, 101, 0, ""})
	checkMoves(t, place("abc", 3, 3, 0), gone{-1, 3, 3, 0, ""}, gone{0, 3, 3, 0, ""}, gone{1, 3, 3, 0, ""})
	// Blanks, LFs and the like are bytes.
	checkMoves(t, cursor.New("  a b"), gone{1, 1, 1, 0, " a b"}, gone{2, 2, 2, 0, "a b"}, gone{4, 4, 4, 0, "b"}, gone{5, 5, 5, 0, ""})
	checkMoves(t, cursor.New("\n\r\x00\x0b"), gone{1, 1, 1, 0, "\r\x00\x0b"}, gone{3, 3, 3, 0, "\x0b"}, gone{9, 4, 4, 0, ""})
	checkMoves(t, cursor.New("  \t"), gone{9, 2, 2, 0, "\t"})
}

func TestMoveThroughRunes(t *testing.T) {
	checkMoves(t, cursor.New("\u00e9x"), gone{1, 1, 1, 0, "\xa9x"}, gone{2, 2, 2, 0, "x"}, gone{3, 3, 3, 0, ""})
	checkMoves(t, cursor.New("\u20acx"), gone{1, 1, 1, 0, "\x82\xacx"}, gone{2, 2, 2, 0, "\xacx"}, gone{3, 3, 3, 0, "x"}, gone{4, 4, 4, 0, ""})
	checkMoves(t, cursor.New("\U0001f600x"), gone{1, 1, 1, 0, "\x9f\x98\x80x"}, gone{3, 3, 3, 0, "\x80x"}, gone{4, 4, 4, 0, "x"}, gone{9, 5, 5, 0, ""})
	checkMoves(t, cursor.New("\xff\xe2\x82\t\x80"), gone{1, 1, 1, 0, "\xe2\x82\t\x80"}, gone{3, 3, 3, 0, "\t\x80"}, gone{9, 3, 3, 0, "\t\x80"})
	for _, s := range lines(3, "\u00e9", "\u20ac", "\U0001f600", " ", "\t", "a", "\xff", "\xc3", "\xed\xa0\x80") {
		for at := range len(s) + 1 {
			checkAsked(t, place(s, at, at, 0))
		}
	}
	// A tab goes on to the column that 4 divides from where the bytes ended.
	c := cursor.Move(cursor.New("\u20ac\u00e9\tx"), 5)
	checkIndent(t, c, 3)
	checkSkip(t, c, 3, place("\u20ac\u00e9\tx", 6, 8, 0))
}

// P7.1: what comes

func TestWhatComes(t *testing.T) {
	for _, c := range []struct {
		at         api.Cursor
		rest, next string
	}{
		{cursor.New("ab"), "ab", "ab"}, {cursor.New(" ab"), " ab", "ab"}, {cursor.New("\tab"), "\tab", "ab"}, {cursor.New(" \t \tab "), " \t \tab ", "ab "}, {cursor.New(" "), " ", ""}, {cursor.New("\t"), "\t", ""}, {cursor.New(" \t\t  "), " \t\t  ", ""},
		{place("ab", 1, 1, 0), "b", "b"}, {place("ab", 2, 2, 0), "", ""}, {place(" ab", 3, 0, 0), "", ""}, {place("a  ", 1, 1, 0), "  ", ""}, {place("a\t", 1, 0, 0), "\t", ""}, {place("a\t ", 2, 4, 0), " ", ""}, {place("a \tb", 2, 2, 0), "\tb", "b"},
		{place("\tab", 0, 1, 3), "   ab", "ab"}, {place("\tab", 0, 2, 2), "  ab", "ab"}, {place("\tab", 0, 3, 1), " ab", "ab"}, {place("\t", 0, 3, 1), " ", ""}, {place("\t", 0, 1, 3), "   ", ""}, {place("\t\tab", 0, 2, 2), "  \tab", "ab"}, {place("\t ab", 0, 2, 2), "   ab", "ab"}, {place("\t \t", 0, 2, 2), "   \t", ""}, {place("\tab", 0, 0, 3), "   ab", "ab"},
		{place("x\t\u20ac", 1, 3, 1), " \u20ac", "\u20ac"}, {place("\u20ac", 1, 0, 0), "\x82\xac", "\x82\xac"}, {place(" \xff", 0, 0, 0), " \xff", "\xff"}, {place("\t\xc3", 0, 2, 2), "  \xc3", "\xc3"}, {cursor.New("\n"), "\n", "\n"}, {cursor.New(" \n "), " \n ", "\n "},
	} {
		checkRight(t, c.at, true)
		checkComes(t, c.at, c.rest, c.next)
	}
}

// P7.1: all of it, at all places of many lines

// checkEverywhere asks at each place in and beside the line.
func checkEverywhere(t *testing.T, s string) {
	t.Helper()
	for at := -1; at <= len(s)+1; at++ {
		for col := -1; col < 8; col++ {
			for left := -1; left < 5; left++ {
				checkAsked(t, place(s, at, col, left))
			}
		}
	}
}

func TestPlacesInShortLines(t *testing.T) {
	for _, s := range lines(4, " ", "\t", "a", "\u00e9") {
		checkEverywhere(t, s)
	}
	for _, s := range lines(2, "\u20ac", "\U0001f600", "\xff", "\xe2\x82", "\n", "\x00", "\t") {
		checkEverywhere(t, s)
	}
}

func TestPlacesAnywhere(t *testing.T) {
	next := dice()
	ends := []int{math.MinInt, math.MinInt + 1, math.MinInt32, -farthest, -4, -3, -2, -1, 0, 1, 2, 3, 4, 5, math.MaxInt32, farthest - 1, farthest, farthest + 1, math.MaxInt - 1, math.MaxInt}
	pick := func() int { return ends[next(len(ends))] }
	for _, s := range mixed(5000) {
		checkAsked(t, cursor.New(s))
		checkAsked(t, place(s, pick(), pick(), pick()))
		checkAsked(t, place(s, next(len(s)+1), pick(), 0))
		checkAsked(t, place(s, next(len(s)+1), next(100), pick()))
		if tab := strings.IndexByte(s, '\t'); tab >= 0 {
			checkAsked(t, place(s, tab, next(100), next(4)))
			checkAsked(t, place(s, tab, pick(), next(4)))
		}
	}
}

func TestEachWayThroughALine(t *testing.T) {
	// Columns and bytes by turns lead only to places that may be, and to the end at last.
	for _, s := range mixed(5000) {
		for _, n := range []int{1, 2, 3, 5, 99} {
			c := cursor.New(s)
			for range 2*len(s) + 2 {
				for _, d := range []api.Cursor{cursor.Skip(c, n), cursor.Move(c, n)} {
					if d.Line != s || !rightAsked(d) || !cursor.Right(d) || d.At < c.At || d.Col < c.Col {
						t.Fatalf("%s leads to %s", show(c), show(d))
					}
				}
				c = cursor.Move(cursor.Skip(c, 4*n), n)
			}
			if c.At != len(s) || c.Left != 0 {
				t.Fatalf("the way by %d ends at %s", n, show(c))
			}
		}
	}
}

func TestLongLines(t *testing.T) {
	for _, c := range []struct {
		ahead  string
		indent int
	}{{" ", many}, {"\t", 4 * many}, {" \t", 4 * many}, {"    \t", 8 * many}, {"\t ", 4*many + 1}} {
		s := strings.Repeat(c.ahead, many)
		at := cursor.New(s + "x")
		checkIndent(t, at, c.indent)
		if d := cursor.Skip(at, math.MaxInt); d != place(at.Line, len(s), c.indent, 0) {
			t.Errorf("many %q lead to %s", c.ahead, show(d))
		}
		if cursor.Next(at) != "x" || cursor.Blank(at) || !cursor.Blank(cursor.New(s)) {
			t.Errorf("behind many %q comes something else", c.ahead)
		}
	}
	s := strings.Repeat("a", many)
	for _, n := range []int{1, many - 1, many, many + 1, math.MaxInt} {
		end := min(n, many)
		if d := cursor.Move(cursor.New(s+"\t"), n); d != place(s+"\t", end, end, 0) {
			t.Errorf("%d bytes lead to %s", n, show(d))
		}
	}
	// It hangs on n alone how far one looks.
	c := cursor.New(s)
	for range many {
		c = cursor.Move(c, 1)
	}
	if c != place(s, many, many, 0) {
		t.Errorf("byte by byte leads to %s", show(c))
	}
}

// P7.2

// checkTwoGoes asks that a columns and b columns further are a and b in one.
func checkTwoGoes(t *testing.T, c api.Cursor, a, b int) {
	t.Helper()
	first := cursor.Skip(c, a)
	checkSkip(t, first, b, cursor.Skip(c, a+b))
	checkIndent(t, first, cursor.Indent(c)-min(a, cursor.Indent(c)))
	if cursor.Next(first) != cursor.Next(c) || cursor.Blank(first) != cursor.Blank(c) {
		t.Errorf("behind the blanks at %s and %d further comes another thing", show(c), a)
	}
}

func TestTwoGoesAreOne(t *testing.T) {
	checkSkip(t, cursor.Skip(cursor.New("  x"), 1), 1, place("  x", 2, 2, 0))
	checkSkip(t, cursor.Skip(cursor.New(" \tx"), 2), 2, place(" \tx", 2, 4, 0))
	checkSkip(t, cursor.Skip(cursor.New("\t\tx"), 3), 3, place("\t\tx", 1, 6, 2))
	for _, s := range lines(5, " ", "\t", "a") {
		for a := range 10 {
			for b := range 10 {
				checkTwoGoes(t, cursor.New(s), a, b)
				checkTwoGoes(t, place("b"+s, 1, 2, 0), a, b)
			}
			for left := 1; left <= 3; left++ {
				checkTwoGoes(t, place("\t"+s, 0, 4-left, left), a, 3)
				checkTwoGoes(t, place("\t"+s, 0, 2, left), a, 4)
			}
		}
	}
	next := dice()
	for _, s := range mixed(5000) {
		at := next(len(s) + 1)
		checkTwoGoes(t, place(s, at, next(10), 0), next(9), next(9))
		checkTwoGoes(t, cursor.New(s), next(9), farthest)
	}
}

func TestManyGoesAreOne(t *testing.T) {
	for _, s := range mixed(2000) {
		c := cursor.New(" \t " + s)
		d := c
		for n := range 30 {
			checkSkip(t, c, n, d)
			d = cursor.Skip(d, 1)
		}
	}
}

func TestBytesInTwoGoesAreBytesInOne(t *testing.T) {
	for _, s := range mixed(2000) {
		c := cursor.New(s)
		for a := range 8 {
			for b := range 8 {
				checkMove(t, cursor.Move(c, a), b, cursor.Move(c, a+b))
			}
		}
	}
}

// The rules that hold everywhere: what is handed in stays as it is, and a call hangs on its arguments alone.

func TestPlacesStay(t *testing.T) {
	for _, s := range []string{"a", " \tab", "\t\t", "a \tb", "\u20ac\t", "\xff \t"} {
		b := []byte(s)
		line := unsafe.String(&b[0], len(b))
		for at := range len(s) + 1 {
			for left := range 4 {
				c := place(line, at, at, left)
				cursor.Skip(c, 2)
				cursor.Indent(c)
				cursor.Move(c, 2)
				cursor.Rest(c)
				cursor.Next(c)
				cursor.Blank(c)
				cursor.Right(c)
				if c != place(s, at, at, left) || string(b) != s {
					t.Fatalf("%q is changed", s)
				}
			}
		}
	}
}

func TestCallsHangOnTheirArguments(t *testing.T) {
	l := mixed(500)
	for range 2 {
		for i := range l {
			checkAsked(t, cursor.New(l[i]))
			checkAsked(t, cursor.New(l[len(l)-1-i]))
		}
	}
}

package font_test

import (
	"math"
	"math/big"
	"slices"
	"strconv"
	"strings"
	"testing"

	"compositor/api"
	"compositor/font"
)

// The ends of the sizes.
const (
	least = -1 << 31
	most  = 1 << 31
)

// The widths as the chapter writes them down, x10 for ten times.
const (
	plainText = "278 278 355 556 556 889 667 191 333 333 389 584 278 333 278 278 556x10 " +
		"278 278 584 584 584 556 1015 667 667 722 722 667 611 778 722 278 500 667 556 833 722 778 667 778 722 667 611 722 667 944 667 667 611 " +
		"278 278 278 469 556 333 556 556 500 556 556 278 556 556 222 222 500 222 833 556 556 556 556 333 500 278 556 500 722 500 500 500 334 260 334 584"
	boldText = "278 333 474 556 556 889 722 238 333 333 389 584 278 333 278 278 556x10 " +
		"333 333 584 584 584 611 975 722 722 722 722 667 611 778 722 278 556 722 611 833 722 778 667 778 722 667 611 722 667 944 667 667 611 " +
		"333 278 333 584 556 333 556 611 556 611 556 333 611 611 278 278 556 278 889 611 611 611 611 389 556 333 611 556 778 556 556 500 389 280 389 584"
	highText = "278 333 556 556 556 556 260 556 333 737 370 556 584 333 737 333 400 584 333 333 333 556 537 278 333 333 365 556 834 834 834 611 " +
		"667 667 667 667 667 667 1000 722 667 667 667 667 278 278 278 278 722 722 778 778 778 778 778 584 778 722 722 722 722 667 667 611 " +
		"556 556 556 556 556 556 889 500 556 556 556 556 278 278 278 278 556 556 556 556 556 556 556 584 611 556 556 556 556 500 556 500"
)

func numbersOf(text string) []int {
	var l []int
	for word := range strings.FieldsSeq(text) {
		number, times, many := strings.Cut(word, "x")
		count := 1
		if many {
			count, _ = strconv.Atoi(times)
		}
		n, _ := strconv.Atoi(number)
		l = append(l, slices.Repeat([]int{n}, count)...)
	}
	return l
}

// widths tells those of all codes in a font there is.
func widths(f int) [256]int {
	var l [256]int
	low := plainText
	switch f {
	case api.FontMono:
		for c := range l {
			l[c] = 600
		}
		return l
	case api.FontBold, api.FontBoldSlant:
		low = boldText
	}
	for c := range l {
		l[c] = 556
	}
	copy(l[32:127], numbersOf(low))
	copy(l[160:], numbersOf(highText))
	return l
}

// strange are fonts that there aren't, some of them with the number of one in their lower bits.
func strange() []int {
	return []int{
		-1, -2, -3, -4, -5, 5, 6, 7, 8, 9, 100, 255, 256, 257, 260, 1<<16 + 1, 1<<31 + 1, 1<<32 + 1, 1<<32 + 3, 1<<32 + 4, 1<<62 + 1,
		-256 + 1, -1<<32 + 1, -1<<32 + 4, math.MaxInt32, math.MinInt32, math.MaxInt, math.MaxInt - 1, math.MinInt, math.MinInt + 1, math.MinInt + 3, math.MinInt + 4,
	}
}

func fonts() []int { return []int{0, 1, 2, 3, 4} }

// counted tells the font as which f counts.
func counted(f int) int {
	if f < 0 || f >= api.Fonts {
		return api.FontPlain
	}
	return f
}

// sizes are the edges, with their neighbours, and ordinary ones.
func sizes() []int {
	l := []int{least, least + 1, most - 1, most, 4000, 72000, -4000, -72000, 10000, 12000, 12345, 99999, -99999, 1<<30 + 7, -1<<30 - 7}
	for n := range 20 {
		l = append(l, n, -n)
	}
	for _, n := range []int{100, 1000, 2000, 5000, 1 << 16, 1 << 24} {
		l = append(l, n-1, n, n+1, -n-1, -n, -n+1)
	}
	return l
}

// some are the sizes from 0 on that matter to Cut.
func some() []int { return []int{0, 1, 2, 3, 10, 999, 1000, 1001, 10000, 12345, most} }

// allCodes tells all of them, from 0 on.
func allCodes() string {
	var b [256]byte
	for c := range b {
		b[c] = byte(c)
	}
	return string(b[:])
}

// numbers tells a source of numbers below what it is asked, the same ones at each call.
func numbers() func(below int) int {
	state := uint64(20261118)
	return func(below int) int {
		state = state*6364136223846793005 + 1442695040888963407
		return int(state>>33) % below
	}
}

// mixed tells texts of fewer than 30 codes.
func mixed(count int) []string {
	next := numbers()
	l := make([]string, count)
	for i := range l {
		b := make([]byte, next(30))
		for j := range b {
			b[j] = byte(next(256))
		}
		l[i] = string(b)
	}
	return l
}

// part tells times of n by another number, rounded to 0.
func part(n, times, by int) int {
	p := new(big.Int).Mul(big.NewInt(int64(n)), big.NewInt(int64(times)))
	return int(p.Quo(p, big.NewInt(int64(by))).Int64())
}

// runsAsked tells the Runs of the first of codes, of none and more, up to all.
func runsAsked(f, size int, codes string) []int {
	table := widths(counted(f))
	l := []int{0}
	for i, c := range []byte(codes) {
		l = append(l, l[i]+part(size, table[c], 1000))
	}
	return l
}

// cutAsked tries how many codes with these runs have room, from all of them down.
func cutAsked(runs []int, width int) int {
	for n := len(runs) - 1; n > 0; n-- {
		if runs[n] <= width {
			return n
		}
	}
	return min(len(runs)-1, 1)
}

func checkWidth(t *testing.T, f int, c byte, want int) {
	t.Helper()
	if n := font.Width(f, c); n != want {
		t.Errorf("Width(%d, %d) is %d, asked is %d", f, c, n, want)
	}
}

func checkAdvance(t *testing.T, f, size int, c byte, want int) {
	t.Helper()
	if n := font.Advance(f, size, c); n != want {
		t.Errorf("Advance(%d, %d, %d) is %d, asked is %d", f, size, c, n, want)
	}
}

func checkRun(t *testing.T, f, size int, codes string, want int) {
	t.Helper()
	if n := font.Run(f, size, codes); n != want {
		t.Errorf("Run(%d, %d, %q) is %d, asked is %d", f, size, codes, n, want)
	}
}

func checkCut(t *testing.T, f, size int, codes string, width, want int) {
	t.Helper()
	if n := font.Cut(f, size, codes, width); n != want {
		t.Errorf("Cut(%d, %d, %q, %d) is %d, asked is %d", f, size, codes, width, n, want)
	}
}

// P5.1

func TestOrdinaryWidths(t *testing.T) {
	for _, c := range []struct {
		sign        byte
		plain, bold int
	}{
		{' ', 278, 278}, {'!', 278, 333}, {'"', 355, 474}, {'#', 556, 556}, {'%', 889, 889}, {'&', 667, 722}, {'\'', 191, 238}, {'*', 389, 389}, {'+', 584, 584},
		{'-', 333, 333}, {'.', 278, 278}, {'0', 556, 556}, {'5', 556, 556}, {'9', 556, 556}, {':', 278, 333}, {'=', 584, 584}, {'?', 556, 611}, {'@', 1015, 975},
		{'A', 667, 722}, {'B', 667, 722}, {'C', 722, 722}, {'E', 667, 667}, {'I', 278, 278}, {'J', 500, 556}, {'M', 833, 833}, {'W', 944, 944}, {'Z', 611, 611},
		{'[', 278, 333}, {'^', 469, 584}, {'_', 556, 556}, {'`', 333, 333}, {'a', 556, 556}, {'b', 556, 611}, {'c', 500, 556}, {'f', 278, 333}, {'i', 222, 278},
		{'l', 222, 278}, {'m', 833, 889}, {'r', 333, 389}, {'w', 722, 778}, {'z', 500, 500}, {'{', 334, 389}, {'|', 260, 280}, {'}', 334, 389}, {'~', 584, 584},
		{0xa0, 278, 278}, {0xa6, 260, 260}, {0xa9, 737, 737}, {0xb6, 537, 537}, {0xbc, 834, 834}, {0xc6, 1000, 1000}, {0xdf, 611, 611}, {0xe4, 556, 556}, {0xe6, 889, 889},
	} {
		checkWidth(t, api.FontPlain, c.sign, c.plain)
		checkWidth(t, api.FontOblique, c.sign, c.plain)
		checkWidth(t, api.FontBold, c.sign, c.bold)
		checkWidth(t, api.FontBoldSlant, c.sign, c.bold)
		checkWidth(t, api.FontMono, c.sign, 600)
	}
}

func TestWidthsAtTheEndsOfTheTables(t *testing.T) {
	for _, c := range []struct {
		code        byte
		plain, bold int
	}{
		{0, 556, 556}, {1, 556, 556}, {'\t', 556, 556}, {'\n', 556, 556}, {30, 556, 556}, {31, 556, 556}, {32, 278, 278}, {33, 278, 333},
		{125, 334, 389}, {126, 584, 584}, {127, 556, 556}, {128, 556, 556}, {129, 556, 556}, {158, 556, 556}, {159, 556, 556},
		{160, 278, 278}, {161, 333, 333}, {254, 556, 556}, {255, 500, 500},
	} {
		checkWidth(t, api.FontPlain, c.code, c.plain)
		checkWidth(t, api.FontOblique, c.code, c.plain)
		checkWidth(t, api.FontBold, c.code, c.bold)
		checkWidth(t, api.FontBoldSlant, c.code, c.bold)
		checkWidth(t, api.FontMono, c.code, 600)
		for _, f := range strange() {
			checkWidth(t, f, c.code, c.plain)
		}
	}
}

func TestWidthOfEachCode(t *testing.T) {
	for text, want := range map[string]int{plainText: 95, boldText: 95, highText: 96} {
		if n := len(numbersOf(text)); n != want {
			t.Fatalf("%d widths are asked, there are %d", n, want)
		}
	}
	for _, f := range append(fonts(), strange()...) {
		for c, want := range widths(counted(f)) {
			checkWidth(t, f, byte(c), want)
		}
	}
}

func TestWidthsWithoutATable(t *testing.T) {
	for n := range 256 {
		if 32 <= n && n <= 126 || 160 <= n {
			continue
		}
		for _, f := range fonts()[:api.FontMono] {
			checkWidth(t, f, byte(n), 556)
		}
	}
}

func TestAdvance(t *testing.T) {
	for _, c := range []struct {
		font, size int
		code       byte
		want       int
	}{
		{api.FontPlain, 12000, 'i', 2664}, {api.FontPlain, 1000, 'A', 667}, {api.FontBold, 1000, 'A', 722}, {api.FontBoldSlant, 10000, 'm', 8890},
		{api.FontOblique, 10000, 0xff, 5000}, {api.FontMono, 10000, 'i', 6000}, {api.FontMono, 10000, 0, 6000}, {api.FontPlain, 10000, 0, 5560}, {-1, 10000, 'i', 2220}, {5, 10000, '@', 10150},
		// Nothing of size 0.
		{api.FontPlain, 0, '@', 0}, {api.FontBold, 0, 'A', 0}, {api.FontMono, 0, 'A', 0}, {9, 0, 'A', 0},
		// What is less than one is rounded to 0, from either side.
		{api.FontPlain, 1, 'A', 0}, {api.FontPlain, -1, 'A', 0}, {api.FontPlain, 1, 'W', 0}, {api.FontPlain, -1, 'W', 0}, {api.FontMono, 1, 'A', 0}, {api.FontMono, -1, 'A', 0},
		{api.FontBold, 1, '@', 0}, {api.FontBold, -1, '@', 0}, {api.FontPlain, 4, 'i', 0}, {api.FontPlain, -4, 'i', 0}, {api.FontPlain, 5, 'i', 1}, {api.FontPlain, -5, 'i', -1},
		// Just one, and a little more than one.
		{api.FontPlain, 1, 0xc6, 1}, {api.FontPlain, -1, 0xc6, -1}, {api.FontPlain, 1, '@', 1}, {api.FontPlain, -1, '@', -1},
		// A rest is left out, from either side.
		{api.FontPlain, 3, 'A', 2}, {api.FontPlain, -3, 'A', -2}, {api.FontPlain, 2, 'A', 1}, {api.FontPlain, -2, 'A', -1}, {api.FontMono, 3, 'A', 1}, {api.FontMono, -3, 'A', -1},
		{api.FontMono, 5, 'A', 3}, {api.FontMono, -5, 'A', -3}, {api.FontMono, 4, 'A', 2}, {api.FontMono, -4, 'A', -2}, {api.FontPlain, 12345, 'i', 2740}, {api.FontPlain, -12345, 'i', -2740},
		// Negative sizes go back.
		{api.FontPlain, -12000, 'i', -2664}, {api.FontMono, -10000, 'i', -6000},
		// The ends of the sizes.
		{api.FontPlain, most, '@', 2179695902}, {api.FontPlain, least, '@', -2179695902}, {api.FontMono, most, 'A', 1288490188}, {api.FontMono, least, 'A', -1288490188},
		{api.FontPlain, most, 0xc6, most}, {api.FontPlain, least, 0xc6, least}, {api.FontPlain, most - 1, 0xc6, most - 1}, {api.FontPlain, least + 1, 0xc6, least + 1},
		{api.FontPlain, most, 'i', 476741369}, {api.FontPlain, least, 'i', -476741369},
	} {
		checkAdvance(t, c.font, c.size, c.code, c.want)
	}
}

func TestAdvanceOfEachCode(t *testing.T) {
	for _, f := range append(fonts(), -1, 5, math.MinInt, math.MaxInt) {
		table := widths(counted(f))
		for _, size := range sizes() {
			for c, width := range table {
				checkAdvance(t, f, size, byte(c), part(size, width, 1000))
			}
		}
	}
}

func TestAscentAndDescent(t *testing.T) {
	for _, c := range []struct{ size, ascent, descent int }{
		{10000, 7500, 2500}, {12000, 9000, 3000}, {12345, 9258, 3086}, {4000, 3000, 1000}, {72000, 54000, 18000}, {-10000, -7500, -2500}, {-12345, -9258, -3086},
		{0, 0, 0}, {1, 0, 0}, {-1, 0, 0}, {2, 1, 0}, {-2, -1, 0}, {3, 2, 0}, {-3, -2, 0}, {4, 3, 1}, {-4, -3, -1}, {5, 3, 1}, {-5, -3, -1}, {6, 4, 1}, {-6, -4, -1}, {7, 5, 1}, {-7, -5, -1}, {8, 6, 2}, {-8, -6, -2},
		{most, 1610612736, 536870912}, {least, -1610612736, -536870912}, {most - 1, 1610612735, 536870911}, {least + 1, -1610612735, -536870911},
	} {
		if n := font.Ascent(c.size); n != c.ascent {
			t.Errorf("Ascent(%d) is %d, asked is %d", c.size, n, c.ascent)
		}
		if n := font.Descent(c.size); n != c.descent {
			t.Errorf("Descent(%d) is %d, asked is %d", c.size, n, c.descent)
		}
	}
	for _, size := range sizes() {
		if n, want := font.Ascent(size), part(size, 3, 4); n != want {
			t.Errorf("Ascent(%d) is %d, asked is %d", size, n, want)
		}
		if n, want := font.Descent(size), part(size, 1, 4); n != want {
			t.Errorf("Descent(%d) is %d, asked is %d", size, n, want)
		}
	}
}

func TestNames(t *testing.T) {
	for _, c := range []struct {
		font int
		want string
	}{
		{api.FontPlain, "Helvetica"}, {api.FontBold, "Helvetica-Bold"}, {api.FontOblique, "Helvetica-Oblique"}, {api.FontBoldSlant, "Helvetica-BoldOblique"}, {api.FontMono, "Courier"},
		{0, "Helvetica"}, {1, "Helvetica-Bold"}, {2, "Helvetica-Oblique"}, {3, "Helvetica-BoldOblique"}, {4, "Courier"},
	} {
		if s := font.Name(c.font); s != c.want {
			t.Errorf("Name(%d) is %q, asked is %q", c.font, s, c.want)
		}
	}
	for _, f := range strange() {
		if s := font.Name(f); s != "Helvetica" {
			t.Errorf("Name(%d) is %q, asked is Helvetica", f, s)
		}
	}
}

// P5.2

func TestRun(t *testing.T) {
	for _, c := range []struct {
		font, size int
		codes      string
		want       int
	}{
		{api.FontPlain, 12000, "", 0}, {api.FontMono, 10000, "", 0}, {-1, -5, "", 0}, {api.FontBold, most, "", 0},
		{api.FontPlain, 12000, "i", 2664}, {api.FontMono, 10000, "abc", 18000}, {api.FontPlain, 1000, "AB", 1334}, {api.FontBold, 1000, "AB", 1444}, {api.FontPlain, 10000, "a b", 13900},
		{api.FontPlain, 10000, "Head", 23900}, {api.FontBold, 15000, "Head", 36675}, {api.FontOblique, 10000, "Head", 23900}, {api.FontBoldSlant, 15000, "Head", 36675}, {7, 10000, "Head", 23900},
		// Each code is rounded by itself, ahead of all being together.
		{api.FontPlain, 1, "AAAA", 0}, {api.FontPlain, -1, "AAAA", 0}, {api.FontPlain, 3, "AAA", 6}, {api.FontPlain, -3, "AAA", -6}, {api.FontPlain, 1, "A@A\xc6", 2}, {api.FontMono, 3, "abcde", 5},
		{api.FontPlain, 0, "Head", 0}, {api.FontPlain, -10000, "Head", -23900},
		// Codes are bytes, though they may be part of a rune.
		{api.FontPlain, 1000, "\xe4", 556}, {api.FontPlain, 1000, "\u00e4", 667 + 556}, {api.FontMono, 1000, "\u20ac", 1800}, {api.FontPlain, 1000, "\u20ac", 556 + 556 + 584}, {api.FontMono, 1000, "\xff\xfe", 1200}, {api.FontPlain, 1000, "\xc6\x00", 1556},
		{api.FontPlain, most, "@@@", 3 * 2179695902}, {api.FontPlain, least, "@@@", -3 * 2179695902},
		// All codes at once.
		{api.FontPlain, 1000, allCodes(), 50058 + 53649 + 65*556}, {api.FontOblique, 1000, allCodes(), 50058 + 53649 + 65*556},
		{api.FontBold, 1000, allCodes(), 52367 + 53649 + 65*556}, {api.FontBoldSlant, 1000, allCodes(), 52367 + 53649 + 65*556}, {api.FontMono, 1000, allCodes(), 256 * 600},
	} {
		checkRun(t, c.font, c.size, c.codes, c.want)
	}
}

func TestRunOfOneCode(t *testing.T) {
	for _, f := range append(fonts(), -1, 5) {
		for _, size := range []int{0, 1, -1, 7, -7, 10000, least, most} {
			for c := range 256 {
				checkRun(t, f, size, string([]byte{byte(c)}), font.Advance(f, size, byte(c)))
			}
		}
	}
}

func TestRunMixed(t *testing.T) {
	for i, s := range mixed(2000) {
		size := sizes()[i%len(sizes())]
		for _, f := range append(fonts(), -1, 5) {
			checkRun(t, f, size, s, runsAsked(f, size, s)[len(s)])
		}
	}
}

func TestLongRun(t *testing.T) {
	const many = 1 << 22
	s := strings.Repeat("@", many)
	for _, size := range []int{most, least, 1, 0} {
		if n, want := font.Run(api.FontPlain, size, s), many*part(size, 1015, 1000); n != want {
			t.Errorf("Run of a long text of size %d is %d, asked is %d", size, n, want)
		}
	}
	if n := font.Cut(api.FontPlain, most, s, math.MaxInt); n != many {
		t.Errorf("Cut of a long text in all width is %d", n)
	}
	if n := font.Cut(api.FontPlain, most, s, (many-1)*2179695902); n != many-1 {
		t.Errorf("Cut of a long text in the width of all but one is %d", n)
	}
}

func TestCut(t *testing.T) {
	for _, c := range []struct {
		font, size int
		codes      string
		width      int
		want       int
	}{
		{api.FontMono, 10000, "abc", 13000, 2}, {api.FontMono, 10000, "abc", 1, 1}, {api.FontMono, 10000, "", 1, 0},
		// No codes, in any width.
		{api.FontPlain, 10000, "", 0, 0}, {api.FontPlain, 10000, "", -1, 0}, {api.FontPlain, 0, "", math.MinInt, 0}, {-1, most, "", math.MaxInt, 0},
		// Just the width of a Run, one less, one more.
		{api.FontMono, 10000, "abc", 18000, 3}, {api.FontMono, 10000, "abc", 17999, 2}, {api.FontMono, 10000, "abc", 18001, 3}, {api.FontMono, 10000, "abc", 12000, 2}, {api.FontMono, 10000, "abc", 11999, 1}, {api.FontMono, 10000, "abc", 12001, 2},
		{api.FontMono, 10000, "abc", 6000, 1}, {api.FontMono, 10000, "abc", 6001, 1}, {api.FontPlain, 1000, "iWi", 222, 1}, {api.FontPlain, 1000, "iWi", 1165, 1}, {api.FontPlain, 1000, "iWi", 1166, 2}, {api.FontPlain, 1000, "iWi", 1387, 2}, {api.FontPlain, 1000, "iWi", 1388, 3},
		// The first code alone has no room.
		{api.FontMono, 10000, "abc", 5999, 1}, {api.FontMono, 10000, "a", 5999, 1}, {api.FontPlain, 1000, "Wiii", 943, 1}, {api.FontPlain, 1000, "Wiii", 944, 1}, {api.FontPlain, 1000, "W", 0, 1},
		// No width, and less.
		{api.FontMono, 10000, "abc", 0, 1}, {api.FontMono, 10000, "abc", -1, 1}, {api.FontMono, 10000, "abc", -18000, 1}, {api.FontMono, 10000, "abc", math.MinInt, 1}, {api.FontMono, 10000, "abc", math.MinInt + 1, 1},
		{api.FontMono, most, "abc", math.MinInt, 1}, {api.FontPlain, most, "a", math.MinInt, 1},
		// All width there is.
		{api.FontMono, 10000, "abc", math.MaxInt, 3}, {api.FontMono, most, "abc", math.MaxInt, 3}, {api.FontPlain, most, "a", math.MaxInt, 1},
		// Of size 0 all have room, if there is any.
		{api.FontMono, 0, "abc", 0, 3}, {api.FontMono, 0, "abc", 1, 3}, {api.FontMono, 0, "abc", -1, 1}, {api.FontMono, 0, "abc", math.MinInt, 1}, {api.FontMono, 0, "abc", math.MaxInt, 3},
		// What is rounded to 0 takes no room, ahead of what does and behind it.
		{api.FontPlain, 1, "abc", 0, 3}, {api.FontPlain, 1, "abc", -1, 1}, {api.FontPlain, 1, "ab@cd@e", 0, 2}, {api.FontPlain, 1, "ab@cd@e", 1, 5}, {api.FontPlain, 1, "ab@cd@e", 2, 7}, {api.FontPlain, 1, "@ab", 0, 1}, {api.FontPlain, 1, "@ab", 1, 3},
		{api.FontPlain, 1, "@", 0, 1}, {api.FontPlain, 1, "\xc6a", 0, 1},
		// A narrow one behind one that has no room doesn't count.
		{api.FontPlain, 1000, "iWiiii", 900, 1}, {api.FontPlain, 1000, "iiWi", 700, 2}, {api.FontPlain, 10000, "Head", 23899, 3}, {api.FontBold, 15000, "Head", 36675, 4}, {api.FontBold, 15000, "Head", 36674, 3}, {9, 10000, "Head", 18339, 2}, {9, 10000, "Head", 18340, 3},
		// Codes are bytes, though they may be part of a rune.
		{api.FontMono, 1000, "\u20ac", 1200, 2}, {api.FontMono, 1000, "\u20ac", 0, 1}, {api.FontPlain, 1000, "\xff\xff", 999, 1}, {api.FontPlain, 1000, "\xff\xff", 1000, 2},
	} {
		checkCut(t, c.font, c.size, c.codes, c.width, c.want)
	}
}

// about tells the widths at which a Cut of codes with these runs changes, with their neighbours, and the ends.
func about(runs []int) []int {
	l := []int{0, 1, -1, math.MinInt, math.MinInt + 1, math.MaxInt, math.MaxInt - 1}
	for _, run := range runs {
		l = append(l, run-1, run, run+1)
	}
	return l
}

func checkCuts(t *testing.T, f, size int, codes string) {
	t.Helper()
	runs := runsAsked(f, size, codes)
	for _, width := range about(runs) {
		checkCut(t, f, size, codes, width, cutAsked(runs, width))
	}
}

func TestCutOfAllCodes(t *testing.T) {
	for _, f := range append(fonts(), -1, 5, math.MinInt, math.MaxInt) {
		for _, size := range some() {
			checkCuts(t, f, size, allCodes())
			checkCut(t, f, size, allCodes(), math.MaxInt, 256)
			checkCut(t, f, size, allCodes(), math.MinInt, 1)
		}
	}
}

func TestCutMixed(t *testing.T) {
	for i, s := range mixed(300) {
		for _, f := range append(fonts(), -1, 5) {
			checkCuts(t, f, some()[i%len(some())], s)
		}
	}
}

// Of sizes below 0 Cut isn't asked; but none of the calls may panic.
func TestNothingPanics(t *testing.T) {
	ends := []int{math.MinInt, math.MinInt + 1, least - 1, least, -1000, -1, 0, 1, most, most + 1, math.MaxInt - 1, math.MaxInt}
	for _, size := range ends {
		font.Ascent(size)
		font.Descent(size)
		for _, f := range strange() {
			font.Advance(f, size, 'a')
			font.Run(f, size, allCodes())
			for _, width := range ends {
				font.Cut(f, size, "", width)
				font.Cut(f, size, allCodes(), width)
			}
		}
	}
}

// P5.3

func TestPartsSideBySide(t *testing.T) {
	texts := append(mixed(200), "", "a", "ab", "@\xc6@", "AAAA", allCodes())
	for i, s := range texts {
		for _, f := range append(fonts(), -1, 5) {
			for _, size := range []int{0, 1, -1, 3, -3, 999, 10000, -12345, least, most, sizes()[i%len(sizes())]} {
				whole := font.Run(f, size, s)
				for n := range len(s) + 1 {
					if first, rest := font.Run(f, size, s[:n]), font.Run(f, size, s[n:]); first+rest != whole {
						t.Errorf("Run(%d, %d, %q) is %d, of its parts at %d %d and %d", f, size, s, whole, n, first, rest)
					}
				}
			}
		}
	}
}

func TestTwoTextsSideBySide(t *testing.T) {
	texts := mixed(60)
	for _, a := range texts {
		for _, b := range texts {
			for _, size := range []int{1, 7, -7, 10000} {
				checkRun(t, api.FontBold, size, a+b, font.Run(api.FontBold, size, a)+font.Run(api.FontBold, size, b))
			}
		}
	}
}

// What Cut leaves goes as far as is missing, and what it takes has room, but for a first one.
func TestCutsSideBySide(t *testing.T) {
	for _, s := range mixed(200) {
		for _, width := range []int{0, 3000, 6000, 20000, 50000} {
			sum := 0
			for rest := s; rest != ""; {
				n := font.Cut(api.FontPlain, 10000, rest, width)
				if n < 1 || n > len(rest) {
					t.Fatalf("Cut(%q, %d) is %d", rest, width, n)
				}
				run := font.Run(api.FontPlain, 10000, rest[:n])
				if run > width && n > 1 {
					t.Errorf("Cut(%q, %d) is %d, that goes %d", rest, width, n, run)
				}
				sum += run
				rest = rest[n:]
			}
			checkRun(t, api.FontPlain, 10000, s, sum)
		}
	}
}

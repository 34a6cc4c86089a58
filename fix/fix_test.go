package fix_test

import (
	"math"
	"math/big"
	"strconv"
	"strings"
	"testing"

	"compositor/api"
	"compositor/fix"
)

const most = 1 << 62

// edges are the numbers at which something changes, with their neighbours.
func edges() []int {
	about := []int{
		0, 1000, 10000, 131072, 262144, 1 << 31, 1 << 32, 1 << 52,
		most / 1000, most / 3, most / 2, most - 1, most,
	}
	l := []int{
		2, 3, 7, 10, 100, 297, 999, -2, -3, -7, -10, -100, -297, -999,
		math.MaxInt, math.MaxInt - 1, math.MinInt, math.MinInt + 1, math.MinInt + 2,
	}
	for _, n := range about {
		l = append(l, n-1, n, n+1, -n-1, -n, -n+1)
	}
	return l
}

// mixed tells numbers of all sizes, the same ones at each call.
func mixed(count int) []int {
	l := make([]int, count)
	state := uint64(20261118)
	for i := range l {
		state = state*6364136223846793005 + 1442695040888963407
		high := state >> 32
		state = state*6364136223846793005 + 1442695040888963407
		word := high<<32 | state>>32
		shift := (state >> 40) % 64
		l[i] = int(word) >> shift
	}
	return l
}

func whole(n int) *big.Int { return big.NewInt(int64(n)) }

func hasRoom(n *big.Int) bool {
	return n.CmpAbs(whole(most)) <= 0
}

// floor rounds a by b down, where b is above 0.
func floor(a, b *big.Int) *big.Int {
	// Euclid's way leaves a rest that is never below 0.
	return new(big.Int).Div(a, b)
}

func checked(n *big.Int, parts ...int) (int, api.Errno) {
	for _, p := range parts {
		if !hasRoom(whole(p)) {
			return 0, api.ErrOverflow
		}
	}
	if !hasRoom(n) {
		return 0, api.ErrOverflow
	}
	return int(n.Int64()), api.OK
}

func addAsked(a, b int) (int, api.Errno) {
	return checked(new(big.Int).Add(whole(a), whole(b)), a, b)
}

func scaleAsked(a, b, c int) (int, api.Errno) {
	if c <= 0 {
		return 0, api.ErrOverflow
	}
	return checked(floor(new(big.Int).Mul(whole(a), whole(b)), whole(c)), a, b, c)
}

func badnessAsked(t, s int) int {
	switch {
	case t == 0:
		return 0
	case s <= 0 || t == math.MinInt:
		return 10000
	}
	r := new(big.Int).Abs(whole(t))
	r = floor(r.Mul(r, whole(297)), whole(s))
	if r.Cmp(whole(1290)) > 0 {
		return 10000
	}
	cube := new(big.Int).Exp(r, whole(3), nil)
	return int(floor(cube.Add(cube, whole(1<<17)), whole(1<<18)).Int64())
}

func printAsked(n int) string {
	size := new(big.Int).Abs(whole(n))
	part, rest := new(big.Int).DivMod(size, whole(1000), new(big.Int))
	text := part.String()
	if rest.Sign() > 0 {
		noughts := "000"[len(rest.String()):]
		text += "." + strings.TrimRight(noughts+rest.String(), "0")
	}
	if n < 0 {
		return "-" + text
	}
	return text
}

func checkAdd(t *testing.T, a, b int) {
	t.Helper()
	n, e := fix.Add(a, b)
	want, wantError := addAsked(a, b)
	if n != want || e != wantError {
		t.Errorf("Add(%d, %d) is %d, %d, asked is %d, %d", a, b, n, e, want, wantError)
	}
}

func checkScale(t *testing.T, a, b, c int) {
	t.Helper()
	n, e := fix.Scale(a, b, c)
	want, wantError := scaleAsked(a, b, c)
	if n != want || e != wantError {
		t.Errorf("Scale(%d, %d, %d) is %d, %d, asked is %d, %d", a, b, c, n, e, want, wantError)
	}
}

func checkBadness(t *testing.T, a, b int) {
	t.Helper()
	if n, want := fix.Badness(a, b), badnessAsked(a, b); n != want {
		t.Errorf("Badness(%d, %d) is %d, asked is %d", a, b, n, want)
	}
}

// P1.1

func TestAdd(t *testing.T) {
	for _, c := range []struct {
		a, b, want int
		e          api.Errno
	}{
		{2, 3, 5, api.OK},
		{-2, -3, -5, api.OK},
		{0, 0, 0, api.OK},
		{most, 0, most, api.OK},
		{-most, 0, -most, api.OK},
		{most, -most, 0, api.OK},
		{most - 1, 1, most, api.OK},
		{1 - most, -1, -most, api.OK},
		{most, 1, 0, api.ErrOverflow},
		{1, most, 0, api.ErrOverflow},
		{-most, -1, 0, api.ErrOverflow},
		{most, most, 0, api.ErrOverflow},
		{-most, -most, 0, api.ErrOverflow},
		{most + 1, -1, 0, api.ErrOverflow},
		{-1, most + 1, 0, api.ErrOverflow},
		{-most - 1, 1, 0, api.ErrOverflow},
		{1, -most - 1, 0, api.ErrOverflow},
		{math.MaxInt, math.MinInt, 0, api.ErrOverflow},
		{math.MinInt, math.MinInt, 0, api.ErrOverflow},
		{math.MaxInt, math.MaxInt, 0, api.ErrOverflow},
	} {
		if n, e := fix.Add(c.a, c.b); n != c.want || e != c.e {
			t.Errorf("Add(%d, %d) is %d, %d, asked is %d, %d", c.a, c.b, n, e, c.want, c.e)
		}
	}
}

func TestScale(t *testing.T) {
	for _, c := range []struct {
		a, b, c, want int
		e             api.Errno
	}{
		{7, 3, 2, 10, api.OK},
		{7, -3, 2, -11, api.OK},
		{-7, 3, 2, -11, api.OK},
		{-7, -3, 2, 10, api.OK},
		{-6, 3, 2, -9, api.OK},
		{-1, 1, most, -1, api.OK},
		{1, 1, most, 0, api.OK},
		{0, -5, 3, 0, api.OK},
		{-5, 0, 3, 0, api.OK},
		{most, most, most, most, api.OK},
		{most, -most, most, -most, api.OK},
		{-most, -most, most, most, api.OK},
		{most, most - 1, most, most - 1, api.OK},
		{most, 1, 1, most, api.OK},
		{-most, 1, 1, -most, api.OK},
		// Rounded down, these have room again, or have none any more.
		{most, 1<<61 + 1, 1<<61 + 1, most, api.OK},
		{most/2 + 1, 4, 2, 0, api.ErrOverflow},
		{most, 3, 2, 0, api.ErrOverflow},
		{(most*2 - 1) / 7, 7, 2, most - 1, api.OK},
		{-(most*2 - 1) / 7, 7, 2, -most, api.OK},
		{(most*2 + 1) / 3, 3, 2, most, api.OK},
		{-(most*2 + 1) / 3, 3, 2, 0, api.ErrOverflow},
		// Past one word.
		{most, most, 1, 0, api.ErrOverflow},
		{most, -most, 1, 0, api.ErrOverflow},
		{most, 4, 1, 0, api.ErrOverflow},
		{most, 8, 2, 0, api.ErrOverflow},
		{most, 4, 2, 0, api.ErrOverflow},
		// What may not be given.
		{1, 1, 0, 0, api.ErrOverflow},
		{0, 0, 0, 0, api.ErrOverflow},
		{1, 1, -1, 0, api.ErrOverflow},
		{1, 1, -most, 0, api.ErrOverflow},
		{1, 1, math.MinInt, 0, api.ErrOverflow},
		{1, 1, most + 1, 0, api.ErrOverflow},
		{1, 1, math.MaxInt, 0, api.ErrOverflow},
		{most + 1, 0, 1, 0, api.ErrOverflow},
		{-most - 1, 0, 1, 0, api.ErrOverflow},
		{0, most + 1, 1, 0, api.ErrOverflow},
		{0, -most - 1, 1, 0, api.ErrOverflow},
		{math.MinInt, 1, most, 0, api.ErrOverflow},
		{1, math.MinInt, most, 0, api.ErrOverflow},
		{math.MaxInt, 1, most, 0, api.ErrOverflow},
	} {
		if n, e := fix.Scale(c.a, c.b, c.c); n != c.want || e != c.e {
			t.Errorf("Scale(%d, %d, %d) is %d, %d, asked is %d, %d", c.a, c.b, c.c, n, e, c.want, c.e)
		}
	}
}

// Its size is 2^64-1 and a half: one more, to round it down, would be 0 in a word.
func TestScaleAtTheEndOfAWord(t *testing.T) {
	const part = (1<<65 - 1) / 31
	if n, e := fix.Scale(-part, 31, 2); n != 0 || e != api.ErrOverflow {
		t.Errorf("Scale(%d, 31, 2) is %d, %d, asked is an error", -part, n, e)
	}
}

func TestReckonAtEdges(t *testing.T) {
	l := edges()
	for _, a := range l {
		for _, b := range l {
			checkAdd(t, a, b)
			checkBadness(t, a, b)
			for _, c := range l {
				checkScale(t, a, b, c)
			}
		}
	}
}

func TestReckonMixed(t *testing.T) {
	l := mixed(30000)
	for i := 0; i+2 < len(l); i++ {
		checkAdd(t, l[i], l[i+1])
		checkScale(t, l[i], l[i+1], l[i+2])
		checkBadness(t, l[i], l[i+1])
	}
}

// P1.2

func TestBadness(t *testing.T) {
	for _, c := range []struct{ t, s, want int }{
		{1, 1, 100},
		{-1, 1, 100},
		{1, 2, 12},
		{3, 2, 336},
		{0, 0, 0},
		{0, -1, 0},
		{0, math.MinInt, 0},
		{0, math.MaxInt, 0},
		{1, 0, 10000},
		{-1, 0, 10000},
		{1, -1, 10000},
		{-1, -1, 10000},
		{1, math.MinInt, 10000},
		{math.MinInt, 0, 10000},
		{math.MinInt, 1, 10000},
		{math.MinInt, math.MaxInt, 10000},
		{math.MinInt + 1, math.MaxInt, 100},
		{math.MaxInt, math.MaxInt, 100},
		{math.MaxInt, 1, 10000},
		{math.MaxInt, math.MaxInt / 4, 6396},
		{1, math.MaxInt, 0},
		// From 51 on r's cube has a half.
		{50, 297, 0},
		{51, 297, 1},
		{1290, 297, 8189},
		{1291, 297, 10000},
		{-1290, 297, 8189},
		{-1291, 297, 10000},
		// r is rounded down ahead of everything else.
		{1290*1000 + 999, 297000, 8189},
		{1291 * 1000, 297000, 10000},
		{9, 1, 10000},
	} {
		if n := fix.Badness(c.t, c.s); n != c.want {
			t.Errorf("Badness(%d, %d) is %d, asked is %d", c.t, c.s, n, c.want)
		}
	}
}

// badnessOf tells what the chapter asks for a given r.
func badnessOf(r int) int {
	if r > 1290 {
		return 10000
	}
	return (r*r*r + 1<<17) >> 18
}

func TestBadnessOfEachRatio(t *testing.T) {
	for r := 1; r <= 1400; r++ {
		for _, size := range []int{r, -r} {
			if n := fix.Badness(size, 297); n != badnessOf(r) {
				t.Errorf("Badness(%d, 297) is %d, asked is %d", size, n, badnessOf(r))
			}
		}
	}
}

func TestDemerits(t *testing.T) {
	for _, c := range []struct{ badness, cost, want int }{
		{0, 0, 100},
		{10, 5, 425},
		{10, -5, 375},
		{10, -10000, 400},
		{10, -10001, 400},
		{10, math.MinInt, 400},
		{10, -9999, 400 - 9999*9999},
		{10, -1, 399},
		{10, 1, 401},
		{10, 9999, 400 + 9999*9999},
		{10, 10000, 400 + 10000*10000},
		{10, 10001, 400 + 10000*10000},
		{10, math.MaxInt, 400 + 10000*10000},
		{-1, 0, 100},
		{-10, 0, 100},
		{-20, 0, 100},
		{math.MinInt, 0, 100},
		{1, 0, 121},
		{9999, 0, 10009 * 10009},
		{10000, 0, 10010 * 10010},
		{10001, 0, 10010 * 10010},
		{math.MaxInt, 0, 10010 * 10010},
		{math.MaxInt, math.MaxInt, 10010*10010 + 10000*10000},
		{math.MinInt, math.MinInt, 100},
		{math.MaxInt, math.MinInt, 10010 * 10010},
	} {
		if n := fix.Demerits(c.badness, c.cost); n != c.want {
			t.Errorf("Demerits(%d, %d) is %d, asked is %d", c.badness, c.cost, n, c.want)
		}
	}
}

// P1.3

func TestWhole(t *testing.T) {
	for _, c := range []struct {
		n    int
		want string
	}{
		{0, "0"}, {7, "7"}, {-7, "-7"}, {10, "10"}, {-100, "-100"},
		{most, "4611686018427387904"},
		{-most, "-4611686018427387904"},
		{math.MaxInt, "9223372036854775807"},
		{math.MinInt, "-9223372036854775808"},
	} {
		if s := fix.Whole(c.n); s != c.want {
			t.Errorf("Whole(%d) is %q, asked is %q", c.n, s, c.want)
		}
	}
}

func TestPrint(t *testing.T) {
	for _, c := range []struct {
		n    int
		want string
	}{
		{0, "0"}, {1, "0.001"}, {-1, "-0.001"}, {-5, "-0.005"},
		{10, "0.01"}, {100, "0.1"}, {-100, "-0.1"}, {120, "0.12"}, {101, "0.101"},
		{999, "0.999"}, {-999, "-0.999"}, {990, "0.99"}, {900, "0.9"},
		{1000, "1"}, {-1000, "-1"}, {1001, "1.001"}, {-1001, "-1.001"},
		{3000, "3"}, {10000, "10"}, {100000, "100"}, {-100000, "-100"},
		{12500, "12.5"}, {-12340, "-12.34"}, {100010, "100.01"}, {14400000, "14400"},
		{most, "4611686018427387.904"},
		{-most, "-4611686018427387.904"},
		{math.MaxInt, "9223372036854775.807"},
		{math.MinInt, "-9223372036854775.808"},
	} {
		if s := fix.Print(c.n); s != c.want {
			t.Errorf("Print(%d) is %q, asked is %q", c.n, s, c.want)
		}
	}
}

func TestPrintAll(t *testing.T) {
	for _, n := range append(edges(), mixed(30000)...) {
		if s := fix.Print(n); s != printAsked(n) {
			t.Errorf("Print(%d) is %q, asked is %q", n, s, printAsked(n))
		}
		if s := fix.Whole(n); s != whole(n).String() {
			t.Errorf("Whole(%d) is %q", n, s)
		}
	}
}

func TestParse(t *testing.T) {
	for _, c := range []struct {
		s        string
		want, by int
	}{
		{"-12.34x", -12340, 6},
		{"0", 0, 1}, {"-0", 0, 2}, {"7", 7000, 1}, {"-7", -7000, 2},
		{"007", 7000, 3}, {"-000", 0, 4}, {"00.5", 500, 4},
		{"1.5", 1500, 3}, {"1.05", 1050, 4}, {"1.005", 1005, 5}, {"-0.005", -5, 6},
		{"1.50", 1500, 4}, {"1.000", 1000, 5}, {"-0.0", 0, 4},
		{"1.2345", 1234, 5}, {"1.9999", 1999, 5}, {"-1.9999", -1999, 6}, {"1.00000", 1000, 5},
		// A point with no digit behind it isn't of the number.
		{"1.", 1000, 1}, {"-1.", -1000, 2}, {"1.x", 1000, 1}, {"1.-5", 1000, 1},
		{"1..5", 1000, 1}, {"1. 5", 1000, 1}, {"1.5.5", 1500, 3}, {"1.2.", 1200, 3}, {"1.25.", 1250, 4},
		{"1,5", 1000, 1}, {"1 2", 1000, 1}, {"12-3", 12000, 2}, {"3e5", 3000, 1}, {"0x10", 0, 1},
		{"5 0 R", 5000, 1}, {"1\x002", 1000, 1}, {"1\xff", 1000, 1},
		// Fifteen digits, and more.
		{"123456789012345", 123456789012345000, 15},
		{"-123456789012345", -123456789012345000, 16},
		{"1234567890123456", 123456789012345000, 15},
		{"-1234567890123456", -123456789012345000, 16},
		{"1234567890123456.5", 123456789012345000, 15},
		{"123456789012345.678", 123456789012345678, 19},
		{"-123456789012345.678", -123456789012345678, 20},
		{"123456789012345.6789", 123456789012345678, 19},
		{"999999999999999.999", 999999999999999999, 19},
		{"-999999999999999.9999", -999999999999999999, 20},
		{"99999999999999.5", 99999999999999500, 16},
		{"000000000000000", 0, 15},
		{"0000000000000001", 0, 15},
		{"000000000000001", 1000, 15},
		{strings.Repeat("9", 1000), 999999999999999000, 15},
		{"0." + strings.Repeat("9", 1000), 999, 5},
	} {
		if n, by := fix.Parse(c.s); n != c.want || by != c.by {
			t.Errorf("Parse(%q) is %d, %d, asked is %d, %d", c.s, n, by, c.want, c.by)
		}
	}
}

func TestParseNone(t *testing.T) {
	for _, s := range []string{
		"", "-", "x", ".", ".5", "-.5", "-.", "--1", "- 1", "+1", " 1", "\t1", "\n1",
		"-x", "-x1", "x1", "/1", ":1", "-/", "-:", "\x00", "\xff1", "\xef\xbc\x91", "\u0661", "\u00b2", "\u22121", "e5", "R",
	} {
		if n, by := fix.Parse(s); n != 0 || by != 0 {
			t.Errorf("Parse(%q) is %d, %d, asked is 0, 0", s, n, by)
		}
	}
}

func TestParseEachByte(t *testing.T) {
	for b := 0; b < 256; b++ {
		c := byte(b)
		digit := '0' <= c && c <= '9'
		n, by := fix.Parse(string([]byte{c}))
		if digit && (n != int(c-'0')*1000 || by != 1) || !digit && (n != 0 || by != 0) {
			t.Errorf("Parse of byte %d is %d, %d", c, n, by)
		}
		n, by = fix.Parse(string([]byte{'1', '.', c}))
		if digit && (n != 1000+int(c-'0')*100 || by != 3) || !digit && (n != 1000 || by != 1) {
			t.Errorf("Parse of 1. and byte %d is %d, %d", c, n, by)
		}
		n, by = fix.Parse(string([]byte{'1', c, '5'}))
		switch {
		case digit && (n != 105000+int(c-'0')*10000 || by != 3),
			c == '.' && (n != 1500 || by != 3),
			!digit && c != '.' && (n != 1000 || by != 1):
			t.Errorf("Parse of 1, byte %d and 5 is %d, %d", c, n, by)
		}
	}
}

// P1.4

func TestWrittenIsRead(t *testing.T) {
	l := append(edges(), mixed(30000)...)
	for n := -2500; n <= 2500; n++ {
		l = append(l, n)
	}
	for _, n := range append(l, 999999999999999999, -999999999999999999, 1e15, -1e15) {
		// Past 15 digits a number is written, but not read whole.
		if n <= -1e18 || n >= 1e18 {
			continue
		}
		for _, behind := range []string{"", " ", "x", "-", "]"} {
			s := fix.Print(n)
			if m, by := fix.Parse(s + behind); m != n || by != len(s) {
				t.Errorf("Parse(%q) is %d, %d, written was %d", s+behind, m, by, n)
			}
		}
		if n > -1e15 && n < 1e15 {
			s := fix.Whole(n)
			if m, by := fix.Parse(s); m != n*1000 || by != len(s) {
				t.Errorf("Parse(%q) is %d, %d", s, m, by)
			}
			if m, err := strconv.Atoi(s); m != n || err != nil {
				t.Errorf("Whole(%d) is %q", n, s)
			}
		}
	}
}

func TestNothingIsWorse(t *testing.T) {
	l := append(edges(), mixed(300)...)
	for _, a := range l {
		for _, b := range l {
			if n := fix.Badness(a, b); n < 0 || n > 10000 {
				t.Errorf("Badness(%d, %d) is %d", a, b, n)
			}
			if n := fix.Demerits(a, b); n > fix.Demerits(10000, 10000) {
				t.Errorf("Demerits(%d, %d) is %d", a, b, n)
			}
		}
	}
}

package run_test

import (
	"math"
	"math/big"
	"strings"
	"testing"
	"unicode/utf8"

	"compositor/run"
)

const (
	other       = 0
	blank       = 1
	punctuation = 2
	lost        = '\ufffd'
)

// step is a rune from which on, up to the next step, all are of one class.
type step struct {
	from  rune
	class int
}

// steps are the chapter's ranges, with those between them: the first rune of each, and so the one behind the last of the one ahead.
func steps() []step {
	return []step{
		{math.MinInt32, blank}, {0x1, other}, {0x9, blank}, {0xe, other}, {0x20, blank}, {0x21, punctuation}, {0x30, other},
		{0x3a, punctuation}, {0x41, other}, {0x5b, punctuation}, {0x61, other}, {0x7b, punctuation}, {0x7f, other},
		{0xa0, blank}, {0xa1, punctuation}, {0xaa, other}, {0xab, punctuation}, {0xb2, other}, {0xb4, punctuation},
		{0xb5, other}, {0xb6, punctuation}, {0xb9, other}, {0xbb, punctuation}, {0xbc, other}, {0xbf, punctuation},
		{0xc0, other}, {0xd7, punctuation}, {0xd8, other}, {0xf7, punctuation}, {0xf8, other},
		{0x1680, blank}, {0x1681, other}, {0x2000, blank}, {0x200b, other}, {0x2010, punctuation}, {0x2028, other},
		{0x202f, blank}, {0x2030, punctuation}, {0x205f, blank}, {0x2060, other}, {0x20a0, punctuation}, {0x20c1, other},
		{0x2190, punctuation}, {0x2400, other}, {0x2500, punctuation}, {0x27c0, other},
		{0x3000, blank}, {0x3001, punctuation}, {0x3004, other}, {0x3008, punctuation}, {0x3012, other},
	}
}

func classAsked(r rune) int {
	class := other
	for _, s := range steps() {
		if r >= s.from {
			class = s.class
		}
	}
	return class
}

func checkClass(t *testing.T, r rune, want int) {
	t.Helper()
	if c := run.Class(r); c != want {
		t.Errorf("Class(%#x) is %d, asked is %d", r, c, want)
	}
}

// P13.1: Class

func TestOrdinaryClasses(t *testing.T) {
	for _, r := range " \t\n\v\f\r\u00a0\u1680\u2003\u202f\u205f\u3000" {
		checkClass(t, r, blank)
	}
	for _, r := range "!\"#$%&'()*+,-./:;<=>?@[\\]^_`{|}~\u00a1\u00a7\u00ab\u00bb\u00bf\u00d7\u00f7\u2013\u2019\u2026\u2039\u20ac\u2192\u2500\u2713\u3001\u300c" {
		checkClass(t, r, punctuation)
	}
	for _, r := range "abcxyzABCXYZ0123456789\u00aa\u00b5\u00e4\u00c4\u00df\u0391\u0416\u05d0\u4e00\u3042\uac00\U0001f600" {
		checkClass(t, r, other)
	}
}

func TestClassOfNothing(t *testing.T) {
	checkClass(t, 0, blank)
	for _, r := range []rune{-1, -2, -9, -0x20, -0x21, -0x2f, -0x41, -0x61, -0xa1, -0x2010, -0x110000, math.MinInt32, math.MinInt32 + 1, math.MinInt32 + 'a', math.MinInt32 + '*'} {
		checkClass(t, r, blank)
	}
}

// Each end is written out here, with the rune right beside it.

func TestEndsOfBlanks(t *testing.T) {
	for _, c := range []struct {
		r    rune
		want int
	}{
		{-1, blank}, {0, blank}, {1, other}, {8, other}, {9, blank}, {0xa, blank}, {0xb, blank}, {0xc, blank}, {0xd, blank}, {0xe, other},
		{0x1f, other}, {0x20, blank}, {0x21, punctuation},
		{0x85, other}, {0x9f, other}, {0xa0, blank}, {0xa1, punctuation},
		{0x167f, other}, {0x1680, blank}, {0x1681, other}, {0x180e, other},
		{0x1fff, other}, {0x2000, blank}, {0x2001, blank}, {0x2009, blank}, {0x200a, blank}, {0x200b, other},
		{0x2028, other}, {0x2029, other}, {0x202e, other}, {0x202f, blank}, {0x2030, punctuation},
		{0x205e, punctuation}, {0x205f, blank}, {0x2060, other},
		{0x2fff, other}, {0x3000, blank}, {0x3001, punctuation}, {0xfeff, other},
	} {
		checkClass(t, c.r, c.want)
	}
}

func TestEndsOfPunctuation(t *testing.T) {
	for _, c := range []struct {
		r    rune
		want int
	}{
		{0x20, blank}, {0x21, punctuation}, {0x2f, punctuation}, {0x30, other},
		{0x39, other}, {0x3a, punctuation}, {0x40, punctuation}, {0x41, other},
		{0x5a, other}, {0x5b, punctuation}, {0x60, punctuation}, {0x61, other},
		{0x7a, other}, {0x7b, punctuation}, {0x7e, punctuation}, {0x7f, other}, {0x80, other},
		{0xa0, blank}, {0xa1, punctuation}, {0xbf, punctuation}, {0xc0, other},
		{0xd6, other}, {0xd7, punctuation}, {0xd8, other}, {0xf6, other}, {0xf7, punctuation}, {0xf8, other},
		{0x200f, other}, {0x2010, punctuation}, {0x2027, punctuation}, {0x2028, other},
		{0x202f, blank}, {0x2030, punctuation}, {0x205e, punctuation}, {0x205f, blank},
		{0x209f, other}, {0x20a0, punctuation}, {0x20c0, punctuation}, {0x20c1, other},
		{0x218f, other}, {0x2190, punctuation}, {0x23ff, punctuation}, {0x2400, other},
		{0x24ff, other}, {0x2500, punctuation}, {0x27bf, punctuation}, {0x27c0, other},
		{0x3000, blank}, {0x3001, punctuation}, {0x3002, punctuation}, {0x3003, punctuation}, {0x3004, other},
		{0x3007, other}, {0x3008, punctuation}, {0x3011, punctuation}, {0x3012, other},
	} {
		checkClass(t, c.r, c.want)
	}
}

func TestClassesFromA1ToBf(t *testing.T) {
	for _, r := range []rune{0xaa, 0xb2, 0xb3, 0xb5, 0xb9, 0xba, 0xbc, 0xbd, 0xbe} {
		checkClass(t, r, other)
	}
	for _, r := range []rune{
		0xa1, 0xa2, 0xa3, 0xa4, 0xa5, 0xa6, 0xa7, 0xa8, 0xa9, 0xab, 0xac, 0xad, 0xae, 0xaf,
		0xb0, 0xb1, 0xb4, 0xb6, 0xb7, 0xb8, 0xbb, 0xbf,
	} {
		checkClass(t, r, punctuation)
	}
}

func TestClassesBeyondTheGreatestRune(t *testing.T) {
	for _, r := range []rune{utf8.MaxRune - 1, utf8.MaxRune, utf8.MaxRune + 1, utf8.MaxRune + 2, 0x200000, math.MaxInt32 - 1, math.MaxInt32} {
		checkClass(t, r, other)
	}
	// A number is what it is, not what is left of it where there is less room.
	for _, s := range steps()[1:] {
		for bit := 16; bit < 31; bit++ {
			checkClass(t, s.from|1<<bit, other)
			checkClass(t, (s.from-1)|1<<bit, other)
		}
		checkClass(t, s.from+math.MinInt32, blank)
	}
}

func TestClassOfEachRune(t *testing.T) {
	const least, most = -0x20000, utf8.MaxRune + 0x20000
	all := steps()
	class := blank
	for r := rune(least); r <= most; r++ {
		for len(all) > 0 && r >= all[0].from {
			class = all[0].class
			all = all[1:]
		}
		if c := run.Class(r); c != class {
			t.Fatalf("Class(%#x) is %d, asked is %d", r, c, class)
		}
	}
	// Surrogates and fffd are runes like others.
	for _, r := range []rune{0xd7ff, 0xd800, 0xdbff, 0xdc00, 0xdfff, 0xe000, lost, 0xfffe, 0xffff} {
		checkClass(t, r, other)
	}
}

// P13.1: Before and After

func beforeAsked(s string, at int) rune {
	if at <= 0 || at > len(s) {
		return 0
	}
	l := []rune(s[:at])
	return l[len(l)-1]
}

func afterAsked(s string, at int) rune {
	if at < 0 || at >= len(s) {
		return 0
	}
	return []rune(s[at:])[0]
}

func checkBeside(t *testing.T, s string, at int, before, after rune) {
	t.Helper()
	if r := run.Before(s, at); r != before {
		t.Errorf("Before(%q, %d) is %#x, asked is %#x", s, at, r, before)
	}
	if r := run.After(s, at); r != after {
		t.Errorf("After(%q, %d) is %#x, asked is %#x", s, at, r, after)
	}
}

func TestBesidePlaces(t *testing.T) {
	for _, c := range []struct {
		s             string
		at            int
		before, after rune
	}{
		{"abc", 0, 0, 'a'}, {"abc", 1, 'a', 'b'}, {"abc", 2, 'b', 'c'}, {"abc", 3, 'c', 0},
		{"a", 0, 0, 'a'}, {"a", 1, 'a', 0},
		{"a *b* c", 2, ' ', '*'}, {"a *b* c", 3, '*', 'b'}, {"a *b* c", 5, '*', ' '},
		{"a\nb", 1, 'a', '\n'}, {"a\nb", 2, '\n', 'b'}, {"a\tb\r", 2, '\t', 'b'}, {"a\tb\r", 4, '\r', 0},
		// Runes of two, three and four bytes, the first and the last ones of each.
		{"a\u00e4b", 1, 'a', 0xe4}, {"a\u00e4b", 3, 0xe4, 'b'}, {"\u20ac*\u20ac", 3, 0x20ac, '*'}, {"\u20ac*\u20ac", 4, '*', 0x20ac}, {"\u20ac*\u20ac", 7, 0x20ac, 0},
		{"\U0001f600*", 4, 0x1f600, '*'}, {"*\U0001f600", 1, '*', 0x1f600}, {"*\U0001f600", 5, 0x1f600, 0},
		{"\u007f\u0080", 1, 0x7f, 0x80}, {"\u07ff\u0800", 2, 0x7ff, 0x800}, {"\uffff\U00010000", 3, 0xffff, 0x10000}, {"\U0010ffff\U0010ffff", 4, 0x10ffff, 0x10ffff},
		{"\ud7ff\ue000", 3, 0xd7ff, 0xe000}, {"\ufeffa", 3, 0xfeff, 'a'}, {"\ufffda", 3, lost, 'a'},
		{"e\u0301x", 1, 'e', 0x301}, {"e\u0301x", 3, 0x301, 'x'},
	} {
		checkBeside(t, c.s, c.at, c.before, c.after)
	}
}

func TestBesidePlacesThatAreNone(t *testing.T) {
	for _, s := range []string{"", "a", "ab", "\u00e4", "\u20ac\u20ac", "\U0001f600", "\x00", "\xff", strings.Repeat("ab", 500)} {
		for _, at := range []int{
			-1, -2, -3, -4, -5, -8, -256, -len(s) - 1, math.MinInt32, math.MinInt, math.MinInt + 1, math.MinInt + 4,
			len(s) + 1, len(s) + 2, len(s) + 4, len(s) + 256, math.MaxInt32 + 1, 1 << 32, math.MaxInt - 1, math.MaxInt,
		} {
			checkBeside(t, s, at, 0, 0)
		}
	}
}

func TestBesideNoText(t *testing.T) {
	checkBeside(t, "", 0, 0, 0)
	for at := -10; at <= 10; at++ {
		checkBeside(t, "", at, 0, 0)
	}
}

func TestBesidePlacesWithinRunes(t *testing.T) {
	for _, s := range []string{"\u00e4", "a\u00e4b", "\u20ac", "a\u20acb", "\U0001f600", "a\U0001f600b", "\U0010ffff\U0010ffff"} {
		for at := 1; at < len(s); at++ {
			if !utf8.RuneStart(s[at]) {
				checkBeside(t, s, at, lost, lost)
			}
		}
	}
	// Two places within one rune.
	checkBeside(t, "a\u20acb", 1, 'a', 0x20ac)
	checkBeside(t, "a\u20acb", 2, lost, lost)
	checkBeside(t, "a\u20acb", 3, lost, lost)
	checkBeside(t, "a\u20acb", 4, 0x20ac, 'b')
}

func TestBesideBytesOfNoRune(t *testing.T) {
	for _, c := range []struct {
		s             string
		at            int
		before, after rune
	}{
		{"\xff", 0, 0, lost}, {"\xff", 1, lost, 0}, {"a\xffb", 1, 'a', lost}, {"a\xffb", 2, lost, 'b'}, {"\x80", 1, lost, 0}, {"\xfe\xff", 1, lost, lost},
		// Cut off.
		{"\xc3", 0, 0, lost}, {"\xc3", 1, lost, 0}, {"\xc3a", 1, lost, 'a'}, {"\xe2\x82", 2, lost, 0}, {"\xe2\x82a", 2, lost, 'a'}, {"\xf0\x9f\x98", 3, lost, 0}, {"\xf0\x9f\x98", 0, 0, lost},
		{"\xe2\x82\xc3\xa4", 2, lost, 0xe4}, {"\xe2\x82\xc3\xa4", 4, 0xe4, 0}, {"\xf0\x9f\x98\xe2\x82\xac", 6, 0x20ac, 0}, {"\xf0\x9f\x98\xe2\x82\xac", 3, lost, 0x20ac},
		// One byte too many: it belongs to none of the runes ahead.
		{"\xc3\xa4\xa4", 2, 0xe4, lost}, {"\xc3\xa4\xa4", 3, lost, 0}, {"\xe2\x82\xac\x82", 4, lost, 0}, {"\xf0\x9f\x98\x80\x80", 4, 0x1f600, lost}, {"\xf0\x9f\x98\x80\x80", 5, lost, 0},
		{"\x80\x80\x80\x80\x80", 5, lost, 0}, {"\x80\x80\x80\x80\x80", 0, 0, lost}, {"a\x80\x80\x80", 4, lost, 0}, {"a\x80\x80\x80\x80", 5, lost, 0},
		// Surrogates, and runes that are longer than need be, or past the last one.
		{"\xed\xa0\x80", 3, lost, 0}, {"\xed\xa0\x80", 0, 0, lost}, {"\xc0\x80", 2, lost, 0}, {"\xc0\x80", 0, 0, lost}, {"\xe0\x80\x80", 3, lost, 0}, {"\xf0\x80\x80\x80", 4, lost, 0},
		{"\xf4\x90\x80\x80", 4, lost, 0}, {"\xf4\x90\x80\x80", 0, 0, lost}, {"\xf4\x8f\xbf\xbf", 4, utf8.MaxRune, 0}, {"\xf4\x8f\xbf\xbf", 0, 0, utf8.MaxRune},
	} {
		checkBeside(t, c.s, c.at, c.before, c.after)
	}
}

func TestBesideRuneNought(t *testing.T) {
	for _, c := range []struct {
		s             string
		at            int
		before, after rune
	}{
		{"\x00", 0, 0, 0}, {"\x00", 1, 0, 0}, {"a\x00", 1, 'a', 0}, {"a\x00", 2, 0, 0}, {"\x00a", 0, 0, 0}, {"\x00a", 1, 0, 'a'}, {"\x00a", 2, 'a', 0},
		{"a\x00b", 1, 'a', 0}, {"a\x00b", 2, 0, 'b'}, {"a\x00\x00b", 2, 0, 0}, {"\u20ac\x00", 4, 0, 0}, {"\x00\u20ac", 1, 0, 0x20ac}, {"\xe2\x00", 1, lost, 0}, {"\xe2\x00", 2, 0, 0},
	} {
		checkBeside(t, c.s, c.at, c.before, c.after)
	}
}

// texts tells all texts of at most so many of these pieces.
func texts(count int, pieces ...string) []string {
	all := []string{""}
	last := all
	for range count {
		var next []string
		for _, s := range last {
			for _, p := range pieces {
				next = append(next, s+p)
			}
		}
		all = append(all, next...)
		last = next
	}
	return all
}

func TestBesideAllShortTexts(t *testing.T) {
	all := texts(4, "a", "\x00", "\u00e4", "\u20ac", "\U0001f600", "\x80", "\xff", "\xc3", "\xe2\x82", "\xf0\x9f\x98")
	all = append(all, texts(6, "a", "\x80", "\xc3", "\xe2", "\xf0", "\x9f")...)
	for _, s := range all {
		for at := -1; at <= len(s)+1; at++ {
			checkBeside(t, s, at, beforeAsked(s, at), afterAsked(s, at))
		}
	}
}

func TestBesideEachByte(t *testing.T) {
	for n := range 256 {
		for _, s := range []string{string([]byte{byte(n)}), string([]byte{'a', byte(n), 'b'}), string([]byte{byte(n), 0x80}), string([]byte{0xc3, byte(n)})} {
			for at := 0; at <= len(s); at++ {
				checkBeside(t, s, at, beforeAsked(s, at), afterAsked(s, at))
			}
		}
	}
}

func TestBesideEachRune(t *testing.T) {
	for r := rune(0); r <= utf8.MaxRune; r++ {
		if !utf8.ValidRune(r) {
			continue
		}
		s := "a" + string(r) + "b"
		if b, a := run.Before(s, len(s)-1), run.After(s, 1); b != r || a != r {
			t.Fatalf("beside places in %q stand %#x and %#x", s, b, a)
		}
	}
}

func TestBesidePlacesInLongTexts(t *testing.T) {
	for _, piece := range []string{"a", "\u00e4", "\u20ac", "\U0001f600", "\x80", "a\u20ac\xff", "\xf0\x9f\x98"} {
		s := strings.Repeat(piece, 700)
		for at := 0; at <= len(s); at++ {
			checkBeside(t, s, at, beforeAsked(s, at), afterAsked(s, at))
		}
	}
	s := strings.Repeat("\u20ac*", 1<<20)
	checkBeside(t, s, len(s), '*', 0)
	checkBeside(t, s, len(s)-1, 0x20ac, '*')
	checkBeside(t, s, 3, 0x20ac, '*')
}

// P13.2: Flank

// beside are what may stand on one side of signs, with its class.
func beside() []step {
	return []step{
		{0, blank}, {-1, blank}, {math.MinInt32, blank}, {' ', blank}, {'\t', blank}, {'\n', blank}, {'\r', blank}, {0xa0, blank}, {0x2003, blank}, {0x3000, blank},
		{'.', punctuation}, {'*', punctuation}, {'_', punctuation}, {'(', punctuation}, {')', punctuation}, {'"', punctuation}, {0xa1, punctuation}, {0xd7, punctuation}, {0x2019, punctuation}, {0x20ac, punctuation}, {0x3001, punctuation},
		{'x', other}, {'0', other}, {'Z', other}, {1, other}, {0x7f, other}, {0xaa, other}, {0xe4, other}, {0x4e00, other}, {lost, other}, {0x1f600, other}, {utf8.MaxRune + 1, other}, {math.MaxInt32, other},
	}
}

// flank is what is asked of signs between runes of these classes.
type flank struct {
	before, after   int
	opens, closes   bool // of any sign but _
	opens_, closes_ bool
}

// flanks are all there are.
func flanks() []flank {
	return []flank{
		{blank, blank, false, false, false, false},
		{blank, punctuation, true, false, true, false},
		{blank, other, true, false, true, false},
		{punctuation, blank, false, true, false, true},
		{punctuation, punctuation, true, true, true, true},
		{punctuation, other, true, false, true, false},
		{other, blank, false, true, false, true},
		{other, punctuation, false, true, false, true},
		{other, other, true, true, false, false},
	}
}

func checkFlank(t *testing.T, before, after rune, sign byte, opens, closes bool) {
	t.Helper()
	if o, c := run.Flank(before, after, sign); o != opens || c != closes {
		t.Errorf("Flank(%#x, %#x, %q) is %v, %v, asked is %v, %v", before, after, sign, o, c, opens, closes)
	}
}

func flankAsked(before, after int, sign byte) (bool, bool) {
	for _, f := range flanks() {
		switch {
		case f.before != before || f.after != after:
		case sign == '_':
			return f.opens_, f.closes_
		default:
			return f.opens, f.closes
		}
	}
	return false, false
}

func TestFlankOfOrdinaryRunes(t *testing.T) {
	for _, c := range []struct {
		before, after rune
		sign          byte
		opens, closes bool
	}{
		// The chapter's examples.
		{' ', 'x', '*', true, false}, {' ', 'x', '_', true, false}, {'x', 'y', '_', false, false},
		{'x', 'y', '*', true, true}, {'x', ' ', '*', false, true}, {'x', ' ', '_', false, true}, {' ', ' ', '*', false, false}, {' ', ' ', '_', false, false},
		{0, 'x', '*', true, false}, {0, 'x', '_', true, false}, {'x', 0, '*', false, true}, {'x', 0, '_', false, true}, {0, 0, '*', false, false}, {0, 0, '_', false, false},
		{'\n', 'x', '*', true, false}, {'x', '\n', '_', false, true}, {-1, 'x', '_', true, false}, {'x', -1, '*', false, true},
		{0, '"', '*', true, false}, {'"', 0, '*', false, true}, {' ', '(', '_', true, false}, {')', ' ', '_', false, true},
		{'a', '"', '*', false, true}, {'"', 'a', '*', true, false}, {'a', '"', '_', false, true}, {'"', 'a', '_', true, false},
		{'.', '.', '*', true, true}, {'.', '.', '_', true, true}, {'(', '_', '*', true, true}, {')', '*', '_', true, true},
		{'.', 'x', '_', true, false}, {'x', '.', '_', false, true},
		{0xe4, 0xf6, '_', false, false}, {0xe4, 0xf6, '*', true, true}, {0x20ac, 'x', '_', true, false}, {'x', 0x20ac, '*', false, true},
		{0xa0, 'a', '*', true, false}, {'a', 0xa0, '*', false, true}, {0xa0, 0xa0, '_', false, false},
		{'5', '5', '*', true, true}, {'5', '5', '_', false, false},
	} {
		checkFlank(t, c.before, c.after, c.sign, c.opens, c.closes)
	}
}

func TestFlankOfEachSign(t *testing.T) {
	for n := range 256 {
		sign := byte(n)
		for _, b := range beside() {
			for _, a := range beside() {
				opens, closes := flankAsked(b.class, a.class, sign)
				checkFlank(t, b.from, a.from, sign, opens, closes)
			}
		}
	}
}

func TestFlankOfEachRune(t *testing.T) {
	class := blank
	all := steps()
	for r := rune(-256); r <= 0x3100; r++ {
		for len(all) > 0 && r >= all[0].from {
			class = all[0].class
			all = all[1:]
		}
		for _, far := range []step{{' ', blank}, {'.', punctuation}, {'x', other}} {
			for _, sign := range []byte{'*', '_', '~'} {
				opens, closes := flankAsked(class, far.class, sign)
				checkFlank(t, r, far.from, sign, opens, closes)
				opens, closes = flankAsked(far.class, class, sign)
				checkFlank(t, far.from, r, sign, opens, closes)
			}
		}
	}
}

// The other way round: what opens one way closes the other.

func TestFlankTheOtherWayRound(t *testing.T) {
	for _, b := range beside() {
		for _, a := range beside() {
			for _, sign := range []byte{'*', '_', '+'} {
				opens, closes := run.Flank(b.from, a.from, sign)
				checkFlank(t, a.from, b.from, sign, closes, opens)
			}
		}
	}
}

// P13.3

func TestNothingOpensNorClosesBetweenBlanks(t *testing.T) {
	var blanks []rune
	for _, s := range steps() {
		for _, r := range []rune{s.from - 1, s.from} {
			// Below the least number stands the greatest one.
			if classAsked(r) == blank {
				blanks = append(blanks, r)
			}
		}
	}
	blanks = append(blanks, '\n', '\v', '\f', 0x2001, 0x2002, 0x2004, 0x2009, math.MinInt32)
	for _, before := range blanks {
		for _, after := range blanks {
			for n := range 256 {
				checkFlank(t, before, after, byte(n), false, false)
			}
		}
	}
}

// P13.2: Fits

func fitsAsked(open, close int, openBoth, closeBoth bool) bool {
	three := big.NewInt(3)
	divided := func(n *big.Int) bool { return new(big.Int).Rem(n, three).Sign() == 0 }
	first, second := big.NewInt(int64(open)), big.NewInt(int64(close))
	switch {
	case !openBoth && !closeBoth:
		return true
	case !divided(new(big.Int).Add(first, second)):
		return true
	}
	return divided(first) && divided(second)
}

func checkFits(t *testing.T, open, close int, openBoth, closeBoth, want bool) {
	t.Helper()
	if f := run.Fits(open, close, openBoth, closeBoth); f != want {
		t.Errorf("Fits(%d, %d, %v, %v) is %v, asked is %v", open, close, openBoth, closeBoth, f, want)
	}
}

// checkBoth asks with one run that may both open and close, with the other one, and with both.
func checkBoth(t *testing.T, open, close int, want bool) {
	t.Helper()
	checkFits(t, open, close, true, false, want)
	checkFits(t, open, close, false, true, want)
	checkFits(t, open, close, true, true, want)
}

func TestFitsWhereNeitherMayBoth(t *testing.T) {
	for open := -10; open <= 10; open++ {
		for close := -10; close <= 10; close++ {
			checkFits(t, open, close, false, false, true)
		}
	}
	checkFits(t, math.MaxInt, 2, false, false, true)
	checkFits(t, math.MinInt, -1, false, false, true)
}

func TestFitsWhereOneMayBoth(t *testing.T) {
	// 3 divides neither.
	checkBoth(t, 1, 1, true)
	checkBoth(t, 2, 2, true)
	checkBoth(t, 4, 1, true)
	checkBoth(t, 1, 7, true)
	// 3 divides one of them, and so not both together.
	checkBoth(t, 3, 1, true)
	checkBoth(t, 1, 3, true)
	checkBoth(t, 2, 6, true)
	checkBoth(t, 9, 2, true)
	// 3 divides both together, and none of them.
	checkBoth(t, 1, 2, false)
	checkBoth(t, 2, 1, false)
	checkBoth(t, 4, 2, false)
	checkBoth(t, 2, 4, false)
	checkBoth(t, 1, 5, false)
	checkBoth(t, 8, 1, false)
	checkBoth(t, 10, 11, false)
	// 3 divides each.
	checkBoth(t, 3, 3, true)
	checkBoth(t, 3, 6, true)
	checkBoth(t, 9, 3, true)
	checkBoth(t, 12, 12, true)
}

func TestFitsOfLengthsThatAreNone(t *testing.T) {
	checkBoth(t, 0, 0, true)
	checkBoth(t, 0, 3, true)
	checkBoth(t, 3, 0, true)
	checkBoth(t, 0, 1, true)
	checkBoth(t, 2, 0, true)
	checkBoth(t, -3, 3, true)
	checkBoth(t, -3, -6, true)
	checkBoth(t, -1, 1, false)
	checkBoth(t, 1, -1, false)
	checkBoth(t, -1, -2, false)
	checkBoth(t, -4, -2, false)
	checkBoth(t, -2, 5, false)
	checkBoth(t, -1, -1, true)
	checkBoth(t, -2, 1, true)
	checkBoth(t, 2, -1, true)
	checkBoth(t, 0, -1, true)
}

func TestFitsAtTheEndsOfNumbers(t *testing.T) {
	// Together these are more, or less, than a number has room for, which 3 divides or not.
	checkBoth(t, math.MaxInt, 2, false)
	checkBoth(t, 2, math.MaxInt, false)
	checkBoth(t, math.MaxInt, 1, true)
	checkBoth(t, math.MaxInt, math.MaxInt, true)
	checkBoth(t, math.MaxInt, math.MaxInt-2, false)
	checkBoth(t, math.MaxInt-1, 3, true)
	checkBoth(t, math.MinInt, math.MinInt, true)
	checkBoth(t, math.MinInt, -1, false)
	checkBoth(t, math.MinInt, -2, true)
	checkBoth(t, math.MinInt+2, -3, true)
	checkBoth(t, math.MinInt, math.MaxInt, true)
	ends := []int{math.MinInt32, math.MaxInt32, 1 << 32, 0}
	for n := range 7 {
		ends = append(ends, math.MinInt+n, math.MaxInt-n, n-3)
	}
	for _, open := range ends {
		for _, close := range ends {
			checkBoth(t, open, close, fitsAsked(open, close, true, true))
		}
	}
}

func TestFitsOfAllShortRuns(t *testing.T) {
	for open := -40; open <= 40; open++ {
		for close := -40; close <= 40; close++ {
			for both := range 4 {
				openBoth, closeBoth := both&1 != 0, both&2 != 0
				checkFits(t, open, close, openBoth, closeBoth, fitsAsked(open, close, openBoth, closeBoth))
			}
		}
	}
}

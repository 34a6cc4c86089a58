// Package fix is layer 1: whole numbers that are checked, and thousandths of a point.
package fix

import (
	"math"
	"math/bits"
	"strconv"
	"strings"

	"compositor/api"
)

const (
	most  = 1 << 62 // a number from -most to most has room
	worst = 10000   // of badness, and of cost

	stretch  = 297  // so many times t by s is Badness's r
	loosest  = 1290 // the greatest r that isn't the worst at once
	cubeBits = 18   // r^3 is told in parts of 2^cubeBits

	wholeDigits = 15 // so that what is read always has room
	restDigits  = 3
)

// Add tells a and b together.
func Add(a, b int) (int, api.Errno) {
	// Where both have room, the sum wraps round at 2^63 alone, to -2^63, which has none.
	sum := a + b
	if !hasRoom(a) || !hasRoom(b) || !hasRoom(sum) {
		return 0, api.ErrOverflow
	}
	return sum, api.OK
}

// Scale tells a times b by c, rounded down.
func Scale(a, b, c int) (int, api.Errno) {
	if !hasRoom(a) || !hasRoom(b) || !hasRoom(c) || c <= 0 {
		return 0, api.ErrOverflow
	}
	quotient, rest, ok := portion(size(a), size(b), uint64(c))
	if !ok || quotient > most {
		return 0, api.ErrOverflow
	}
	n := int(quotient)
	if (a < 0) != (b < 0) {
		n = -n
		// Down is away from 0 here.
		if rest > 0 {
			n--
		}
	}
	if !hasRoom(n) {
		return 0, api.ErrOverflow
	}
	return n, api.OK
}

// Badness tells how bad it is that t is to be made up for by s.
func Badness(t, s int) int {
	if t == 0 {
		return 0
	}
	if s <= 0 || t == math.MinInt {
		return worst
	}
	r, _, ok := portion(stretch, size(t), uint64(s))
	if !ok || r > loosest {
		return worst
	}
	half := uint64(1) << (cubeBits - 1)
	return int((r*r*r + half) >> cubeBits)
}

// Demerits tells what a line of that badness costs, with the cost of its end.
func Demerits(badness, cost int) int {
	b := 10 + within(badness, 0, worst)
	c := within(cost, -worst, worst)
	switch {
	case c == -worst:
		return b * b
	case c < 0:
		return b*b - c*c
	}
	return b*b + c*c
}

// Whole tells n in decimal digits.
func Whole(n int) string {
	return strconv.Itoa(n)
}

// Print tells n thousandths as a decimal number.
func Print(n int) string {
	thousandths := size(n)
	text := Whole(int(thousandths / 1000))
	if n < 0 {
		// The whole part may be 0, which has no sign of its own.
		text = "-" + text
	}
	rest := int(thousandths % 1000)
	if rest == 0 {
		return text
	}
	// The 1 keeps the noughts ahead.
	padded := Whole(1000 + rest)[1:]
	return text + "." + strings.TrimRight(padded, "0")
}

// Parse tells the thousandths that s begins with, and how many bytes they have.
func Parse(s string) (int, int) {
	start := 0
	if strings.HasPrefix(s, "-") {
		start = 1
	}
	whole := digits(s[start:], wholeDigits)
	if whole == "" {
		return 0, 0
	}
	end := start + len(whole)
	rest := decimals(s[end:])
	if rest != "" {
		end += len(".") + len(rest)
	}
	padded := (rest + "000")[:restDigits]
	n := value(whole + padded)
	if start > 0 {
		n = -n
	}
	return n, end
}

func hasRoom(n int) bool {
	return -most <= n && n <= most
}

// size tells n without its sign; the least number has one too.
func size(n int) uint64 {
	if n < 0 {
		return -uint64(n)
	}
	return uint64(n)
}

// portion tells a times b by c, and what is left over; false, if that is past one word, or c is 0.
func portion(a, b, c uint64) (quotient, rest uint64, ok bool) {
	high, low := bits.Mul64(a, b)
	if high >= c {
		return 0, 0, false
	}
	quotient, rest = bits.Div64(high, low, c)
	return quotient, rest, true
}

func within(n, least, greatest int) int {
	if n < least {
		return least
	}
	if n > greatest {
		return greatest
	}
	return n
}

// digits tells the digits that s begins with, at most so many.
func digits(s string, limit int) string {
	n := 0
	for n < len(s) && n < limit && '0' <= s[n] && s[n] <= '9' {
		n++
	}
	return s[:n]
}

// decimals tells the digits behind the point that s begins with.
func decimals(s string) string {
	if !strings.HasPrefix(s, ".") {
		return ""
	}
	return digits(s[len("."):], restDigits)
}

// value tells the number that these digits are.
func value(s string) int {
	n := 0
	for i := 0; i < len(s); i++ {
		n = n*10 + int(s[i]-'0')
	}
	return n
}

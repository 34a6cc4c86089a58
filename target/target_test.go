package target_test

import (
	"regexp"
	"strings"
	"testing"
	"unsafe"

	"compositor/named"
	"compositor/target"
)

const (
	many        = 1 << 20
	mostOpen    = 32
	punctuation = "!\"#$%&'()*+,-./:;<=>?@[\\]^_`{|}~"
)

// What the chapter asks, in other ways: behind a \ a sign is taken for a letter, ( and ) go pair by pair.

var (
	hiddenAsk   = regexp.MustCompile("\\\\[!-/:-@[-`{-~]")
	spacesAsk   = regexp.MustCompile(`^[ \t\n]*`)
	oneAsk      = regexp.MustCompile(`^[ \t]*(?:\n[ \t]*)?`)
	enclosedAsk = regexp.MustCompile(`^<[^\n<>]*>`)
	bareAsk     = regexp.MustCompile(`^[^\x00-\x20\x7f]*`)
	pairAsk     = regexp.MustCompile(`\(([^()]*)\)`)
	titleAsk    = regexp.MustCompile(`^(?:"[^"]*"|'[^']*'|\([^()]*\))`)
	startAsk    = regexp.MustCompile(`^\([ \t\n]*`)
	gapAsk      = regexp.MustCompile(`^[ \t\n]+`)
	endAsk      = regexp.MustCompile(`^[ \t\n]*\)`)
)

// masked tells s with letters for each \ that hides a sign, and for the sign.
func masked(s string) string {
	return hiddenAsk.ReplaceAllString(s, "xx")
}

func spacesAsked(s string, one bool) int {
	if one {
		return len(oneAsk.FindString(s))
	}
	return len(spacesAsk.FindString(s))
}

// unpaired tells s with letters for each ( and ) that belong together, and how deep they were in one another.
func unpaired(s string) (string, int) {
	for deep := 0; ; deep++ {
		next := pairAsk.ReplaceAllString(s, "x${1}x")
		if next == s {
			return s, deep
		}
		s = next
	}
}

func destAsked(s string) (string, int, bool) {
	m := masked(s)
	if strings.HasPrefix(m, "<") {
		n := len(enclosedAsk.FindString(m))
		if n == 0 {
			return "", 0, false
		}
		return named.Plain(s[1 : n-1]), n, true
	}
	part := bareAsk.FindString(m)
	left, _ := unpaired(part)
	if end := strings.IndexByte(left, ')'); end >= 0 {
		part = part[:end]
	}
	left, deep := unpaired(part)
	if strings.Contains(left, "(") || deep > mostOpen {
		return "", 0, false
	}
	return named.Plain(s[:len(part)]), len(part), true
}

func titleAsked(s string) (string, int) {
	n := len(titleAsk.FindString(masked(s)))
	if n == 0 {
		return "", 0
	}
	lines := strings.Split(s[1:n-1], "\n")
	for i, line := range lines {
		if 0 < i && i < len(lines)-1 && strings.Trim(line, " \t") == "" {
			return "", 0
		}
	}
	return named.Plain(s[1 : n-1]), n
}

func inlineAsked(s string) (string, string, int) {
	n := len(startAsk.FindString(s))
	dest, m, ok := destAsked(s[n:])
	if n == 0 || !ok {
		return "", "", 0
	}
	n += m
	if end := endAsk.FindString(s[n:]); end != "" {
		return dest, "", n + len(end)
	}
	gap := len(gapAsk.FindString(s[n:]))
	title, m := titleAsked(s[n+gap:])
	end := endAsk.FindString(s[n+gap+m:])
	if gap == 0 || m == 0 || end == "" {
		return "", "", 0
	}
	return dest, title, n + gap + m + len(end)
}

// Texts.

// texts tells all texts of at most so many of these pieces.
func texts(count int, pieces ...string) []string {
	all := []string{""}
	last := all
	for range count {
		var next []string
		for _, s := range last {
			for _, p := range pieces {
				next = append(next, s+p)
			}
		}
		all = append(all, next...)
		last = next
	}
	return all
}

// mixed tells texts of fewer than 16 pieces, the same ones at each call.
func mixed(count int) []string {
	pieces := []string{
		"(", "(", "(", ")", ")", ")", "<", "<", ">", ">", "\"", "\"", "\"", "'", "'", "'", "\\", "\\", "\\", " ", " ", " ", "\t", "\n", "\n", "\n\n", " \n", "\r",
		"/u", "a", "b", "http://y", "#head", "()", "(a)", "<>", "<a b>", "\"t\"", "'t'", "(t)", "\\(", "\\)", "\\<", "\\>", "\\\"", "\\'", "\\\\", "\\a", "\\\n",
		"&amp;", "&quot;", "&copy;", "&#41;", "&#62;", "&#32;", "&#10;", "&nope;", "&", ";", "*", "[", "]", "\x00", "\x01", "\x1f", "\x7f",
		"\u00e9", "\u20ac", "\U0001f600", "\u00a0", "\x80", "\xa0", "\xff", "\xc3", "\xe2\x82",
	}
	state := uint64(20261119)
	next := func(below int) int {
		state = state*6364136223846793005 + 1442695040888963407
		return int(state>>33) % below
	}
	begins := []string{"", "(", "(", "(", "(/u ", "(<", "<", "\"", "'"}
	l := make([]string, count)
	for i := range l {
		l[i] = begins[next(len(begins))]
		for range next(16) {
			l[i] += pieces[next(len(pieces))]
		}
	}
	return l
}

// each is every byte as a text.
func each() []string {
	l := make([]string, 256)
	for n := range l {
		l[n] = string([]byte{byte(n)})
	}
	return l
}

// behind are texts that may stand behind anything that has an end of its own.
func behind() []string {
	return []string{"", "a", " ", "\n", "\n\n", "\t", "\\", "\\\\", ")", "(", ">", "<", "\"", "'", " 't'", " z", "&amp;", "\x00", "\x7f", "\xff", "\u20ac", "\xe2\x82"}
}

// open tells so many (, and shut so many ).
func open(n int) string { return strings.Repeat("(", n) }

func shut(n int) string { return strings.Repeat(")", n) }

// Checks, which hold what the test asks against what the chapter asks in the other way, too.

// cut tells the beginning of a long text.
func cut(s string) string {
	return s[:min(len(s), 60)]
}

func checkSpaces(t *testing.T, s string, one, all int) {
	t.Helper()
	if n, m := target.Spaces(s, true), target.Spaces(s, false); n != one || m != all {
		t.Errorf("of %q Spaces are %d, and %d, asked are %d, and %d", cut(s), n, m, one, all)
	}
	if n, m := spacesAsked(s, true), spacesAsked(s, false); n != one || m != all {
		t.Errorf("of %q both %d, %d and %d, %d are asked", cut(s), one, all, n, m)
	}
}

func checkDestAnswer(t *testing.T, s, want string, bytes int, is bool) {
	t.Helper()
	dest, n, ok := target.Dest(s)
	if dest != want || n != bytes || ok != is {
		t.Errorf("Dest(%q) is %q, %d, %v, asked is %q, %d, %v", cut(s), cut(dest), n, ok, cut(want), bytes, is)
	}
	if dest, n, ok := destAsked(s); dest != want || n != bytes || ok != is {
		t.Errorf("of %q both %q, %d, %v and %q, %d, %v are asked", cut(s), cut(want), bytes, is, cut(dest), n, ok)
	}
}

func checkDest(t *testing.T, s, want string, bytes int) {
	t.Helper()
	checkDestAnswer(t, s, want, bytes, true)
}

func checkNoDest(t *testing.T, s string) {
	t.Helper()
	checkDestAnswer(t, s, "", 0, false)
}

func checkTitle(t *testing.T, s, want string, bytes int) {
	t.Helper()
	title, n := target.Title(s)
	if title != want || n != bytes {
		t.Errorf("Title(%q) is %q, %d, asked is %q, %d", cut(s), cut(title), n, cut(want), bytes)
	}
	if title, n := titleAsked(s); title != want || n != bytes {
		t.Errorf("of %q both %q, %d and %q, %d are asked", cut(s), cut(want), bytes, cut(title), n)
	}
}

func checkNoTitle(t *testing.T, s string) {
	t.Helper()
	checkTitle(t, s, "", 0)
}

func checkInline(t *testing.T, s, dest, title string, bytes int) {
	t.Helper()
	d, u, n := target.Inline(s)
	if d != dest || u != title || n != bytes {
		t.Errorf("Inline(%q) is %q, %q, %d, asked is %q, %q, %d", cut(s), cut(d), cut(u), n, cut(dest), cut(title), bytes)
	}
	if d, u, n := inlineAsked(s); d != dest || u != title || n != bytes {
		t.Errorf("of %q both %q, %q, %d and %q, %q, %d are asked", cut(s), cut(dest), cut(title), bytes, cut(d), cut(u), n)
	}
}

// checkWhole asks for a link of all of s, whatever stands behind, and of no less.
func checkWhole(t *testing.T, s, dest, title string) {
	t.Helper()
	for _, more := range behind() {
		checkInline(t, s+more, dest, title, len(s))
	}
	for n := range len(s) {
		checkNoInline(t, s[:n])
	}
}

func checkNoInline(t *testing.T, s string) {
	t.Helper()
	checkInline(t, s, "", "", 0)
}

func checkAsked(t *testing.T, s string) {
	t.Helper()
	checkSpaces(t, s, spacesAsked(s, true), spacesAsked(s, false))
	dest, n, ok := destAsked(s)
	checkDestAnswer(t, s, dest, n, ok)
	title, n := titleAsked(s)
	checkTitle(t, s, title, n)
	dest, title, n = inlineAsked(s)
	checkInline(t, s, dest, title, n)
}

// P9.1: spaces.

func TestSpaces(t *testing.T) {
	for _, c := range []struct {
		s        string
		one, all int
	}{
		{"", 0, 0},
		{" ", 1, 1}, {"\t", 1, 1}, {"\n", 1, 1},
		{"   ", 3, 3}, {"\t\t\t", 3, 3}, {" \t ", 3, 3}, {"\t \t", 3, 3},
		{"\n\n", 1, 2}, {"\n\n\n", 1, 3}, {" \n\n", 2, 3}, {" \n\n\n", 2, 4},
		{" \n ", 3, 3}, {"\t\n\t", 3, 3}, {"\n ", 2, 2}, {"\n\t", 2, 2}, {" \n", 2, 2},
		{"\n \n", 2, 3}, {"\n\t\n", 2, 3}, {" \n \n ", 3, 5}, {"\t\n \t\n\n \n", 4, 8}, {"  \n  \n  \n  ", 5, 11},
		{"a", 0, 0}, {" a", 1, 1}, {"\ta", 1, 1}, {"\na", 1, 1}, {"a ", 0, 0}, {" a ", 1, 1}, {"a\n", 0, 0},
		{"\n\na", 1, 2}, {"\n \n a", 2, 4}, {" \t\na\n", 3, 3}, {" \n a \n ", 3, 3}, {" \na\n\n", 2, 2},
		{"\r", 0, 0}, {" \r", 1, 1}, {"\r\n", 0, 0}, {"\n\r\n", 1, 1}, {" \n \r\n ", 3, 3}, {"\n\r", 1, 1},
		{"\\ ", 0, 0}, {" \\\n", 1, 1}, {"&#32;", 0, 0}, {" &nbsp;", 1, 1}, {"\u00a0", 0, 0}, {" \u2003", 1, 1}, {"\ufeff ", 0, 0},
		{"\v", 0, 0}, {" \f", 1, 1}, {"\n\x00", 1, 1}, {"\x00\n", 0, 0}, {"\x1f", 0, 0}, {"\x7f", 0, 0}, {"\xff", 0, 0}, {"\t\xa0", 1, 1}, {"\n\x85\n", 1, 1}, {"(", 0, 0}, {"<", 0, 0},
	} {
		checkSpaces(t, c.s, c.one, c.all)
	}
}

func TestEachByteBehindSpaces(t *testing.T) {
	for _, c := range each() {
		one, all := 0, 0
		switch c {
		case " ", "\t":
			one, all = 1, 1
		case "\n":
			all = 1
		}
		checkSpaces(t, "\n"+c+"a", 1+one, 1+all)
		checkSpaces(t, " \n\t"+c, 3+one, 3+all)
		checkSpaces(t, c, all, all)
		checkSpaces(t, c+"a", all, all)
	}
}

func TestShortSpaces(t *testing.T) {
	for _, s := range texts(8, " ", "\t", "\n", "a") {
		checkSpaces(t, s, spacesAsked(s, true), spacesAsked(s, false))
	}
	for _, s := range texts(5, " ", "\t", "\n", "\r", "\\", "\v", "\xa0") {
		checkSpaces(t, s, spacesAsked(s, true), spacesAsked(s, false))
	}
}

// P9.1: destinations in < and >.

func TestEnclosed(t *testing.T) {
	for _, c := range []struct{ inside, want string }{
		{"", ""}, {" ", " "}, {"   ", "   "}, {"\t", "\t"}, {"a", "a"}, {"a b", "a b"}, {" a ", " a "}, {"\ta\tb\t", "\ta\tb\t"},
		{"http://y", "http://y"}, {"/u(v", "/u(v"}, {")", ")"}, {open(40), open(40)}, {"a\"b'", "a\"b'"}, {"\r", "\r"}, {"a\rb", "a\rb"}, {"\x00\x01\x1f\x7f", "\x00\x01\x1f\x7f"},
		{`\<`, "<"}, {`\>`, ">"}, {`a\<b\>c`, "a<b>c"}, {`\\`, `\`}, {`a\\`, `a\`}, {`\\\\`, `\\`}, {`\\\>`, `\>`}, {`\\\<`, `\<`}, {`\*\_\(\)`, "*_()"}, {"\\`", "`"},
		{`\a`, `\a`}, {`\ `, `\ `}, {"\\\t", "\\\t"}, {`\1\Z`, `\1\Z`}, {"\\\u00e9", "\\\u00e9"}, {"\\\xff", "\\\xff"}, {"\\\x00", "\\\x00"}, {"\\\r", "\\\r"},
		{"&amp;", "&"}, {"a&lt;b&gt;c", "a<b>c"}, {"&#62;", ">"}, {"&#x3C;", "<"}, {"&#10;", "\n"}, {"&copy;", "\u00a9"}, {"&nope;", "&nope;"}, {"&", "&"}, {`\&amp;`, "&amp;"}, {"&amp;lt;", "&lt;"}, {"&#0;", "\ufffd"}, {"&#92;", `\`},
		{"\u00e9\u20ac\U0001f600", "\u00e9\u20ac\U0001f600"}, {"\x80\xff", "\x80\xff"}, {"\xe2\x82", "\xe2\x82"}, {"\u00a0", "\u00a0"},
	} {
		for _, more := range behind() {
			checkDest(t, "<"+c.inside+">"+more, c.want, len(c.inside)+2)
		}
	}
}

func TestNoEnclosed(t *testing.T) {
	for _, s := range []string{
		"<", "< ", "<a", "<a b", "<a\n", "<a\\", "<\\", "<\\>", "<a\\>", "<\\\\\\>", "<a\\>b", "<&gt;", "<a&#62;", "<\xff", "<\u20ac", "<a)", "<a\x00",
		"<<", "<<>", "<a<b>", "<a<", "<<a>>", "<\\<<>", "<\\\\<>", "< <>", "<a\\a<b>", "<&lt;<>",
		"<\n", "<\n>", "<a\nb>", "<a\n>", "<\na>", "<a\\\nb>", "<\\\n>", "<\\\\\n>", "<a\r\nb>", "<\n\n>", "<a \n b>",
	} {
		checkNoDest(t, s)
	}
}

func TestEachByteEnclosed(t *testing.T) {
	for _, c := range each() {
		hidden := "\\" + c
		if strings.Contains(punctuation, c) {
			hidden = c
		}
		switch c {
		case "\n":
			checkNoDest(t, "<a"+c+"b>")
			checkNoDest(t, "<a\\"+c+"b>")
			continue
		case "<":
			checkNoDest(t, "<a"+c+"b>")
		case ">":
			checkDest(t, "<a"+c+"b>", "a", 3)
		case "\\", "&":
			checkDest(t, "<a"+c+"b>", "a"+c+"b", 5)
		default:
			checkDest(t, "<a"+c+"b>", "a"+c+"b", 5)
			checkDest(t, "<"+c+">", c, 3)
		}
		checkDest(t, "<a\\"+c+"b>", "a"+hidden+"b", 6)
	}
}

// P9.1: destinations without < and >.

func TestBare(t *testing.T) {
	for _, c := range []struct {
		s, want string
		bytes   int
	}{
		{"", "", 0}, {" ", "", 0}, {"\t", "", 0}, {"\n", "", 0}, {"   ", "", 0}, {"\n\n", "", 0}, {")", "", 0}, {"))", "", 0}, {"\r", "", 0}, {"\x00", "", 0}, {"\x7f", "", 0}, {" a", "", 0}, {")a", "", 0}, {" <", "", 0}, {")<", "", 0}, {")(", "", 0}, {" (", "", 0},
		{"a", "a", 1}, {"a b", "a", 1}, {"a\tb", "a", 1}, {"a\nb", "a", 1}, {"a\rb", "a", 1}, {"a\x00b", "a", 1}, {"a\x1fb", "a", 1}, {"a\x7fb", "a", 1}, {"a ", "a", 1}, {"a\n(", "a", 1},
		{"/u(v)w z", "/u(v)w", 6}, {"http://y", "http://y", 8}, {"#head", "#head", 5}, {"http://y?a=b&c=d#e", "http://y?a=b&c=d#e", 18}, {"\"t\" x", "\"t\"", 3}, {"'t'", "'t'", 3}, {"!$%*+,-.[]^_`{|}~", "!$%*+,-.[]^_`{|}~", 17},
		{"()", "()", 2}, {"()a", "()a", 3}, {"a()", "a()", 3}, {"()()", "()()", 4}, {"(())", "(())", 4}, {"((a)(b))c", "((a)(b))c", 9}, {"())", "()", 2}, {"a)", "a", 1}, {"a)b", "a", 1}, {"a)(", "a", 1}, {"(a)b)c", "(a)b", 4}, {"(()))(", "(())", 4}, {"a) b", "a", 1}, {"(a))(b)", "(a)", 3}, {"a)\\)", "a", 1},
		{`\(`, "(", 2}, {`\)`, ")", 2}, {`a\(b`, "a(b", 4}, {`a\)b)c`, "a)b", 4}, {`(a\)b)`, "(a)b)", 6}, {`(a\(b)`, "(a(b)", 6}, {`\(\(`, "((", 4}, {`\)\))`, "))", 4}, {`\\)`, `\`, 2}, {`\\\)`, `\)`, 4}, {`(\\)`, `(\)`, 4}, {`\\()`, `\()`, 4}, {`\\\()`, `\(`, 4},
		{`\`, `\`, 1}, {`a\`, `a\`, 2}, {`a\ b`, `a\`, 2}, {"a\\\nb", `a\`, 2}, {"a\\\tb", `a\`, 2}, {"a\\\x7f", `a\`, 2}, {"a\\\x00", `a\`, 2}, {`\a`, `\a`, 2}, {`a\b(c)`, `a\b(c)`, 6}, {`\\`, `\`, 2}, {`\\\`, `\\`, 3}, {`\*`, "*", 2}, {"\\\u00e9", "\\\u00e9", 3}, {"\\\xff", "\\\xff", 2}, {`\1)`, `\1`, 2},
		{"&amp;", "&", 5}, {"a&copy;b c", "a\u00a9b", 8}, {"&#41;)", ")", 5}, {"&#40;", "(", 5}, {"&#32;x", " x", 6}, {"&#60;a", "<a", 6}, {"&lt;a&gt;", "<a>", 9}, {"&nope;", "&nope;", 6}, {"&amp", "&amp", 4}, {"&am p;", "&am", 3}, {"&#x28", "&#x28", 5}, {`\&amp;`, "&amp;", 6}, {`&#92;)`, `\`, 5}, {"&amp;#41;", "&#41;", 9}, {"&#0;", "\ufffd", 4}, {"&#127;a", "\x7fa", 7}, {"&\\amp;", "&\\amp;", 6},
		{"a<", "a<", 2}, {"a<b>c", "a<b>c", 5}, {"a<b c", "a<b", 3}, {"a<>", "a<>", 3}, {">", ">", 1}, {">a<", ">a<", 3}, {`\<a>`, "<a>", 4}, {`\<`, "<", 2}, {`\>`, ">", 2}, {"(<)", "(<)", 3},
		{"\u00e9", "\u00e9", 2}, {"\u20ac\U0001f600 ", "\u20ac\U0001f600", 7}, {"\u00a0a", "\u00a0a", 3}, {"\u2003", "\u2003", 3}, {"\u3000a", "\u3000a", 4}, {"\u0085", "\u0085", 2}, {"\x80", "\x80", 1}, {"\xff\xfe a", "\xff\xfe", 2}, {"\xe2\x82)", "\xe2\x82", 2}, {"\xc3", "\xc3", 1}, {"\xed\xa0\x80", "\xed\xa0\x80", 3}, {"\xa0", "\xa0", 1}, {"\ufeff", "\ufeff", 3},
	} {
		checkDest(t, c.s, c.want, c.bytes)
	}
}

func TestNoBare(t *testing.T) {
	for _, s := range []string{
		"(", "((", "a(", "(a", "a(b", "a(b c", "a(b c)", "(\n)", "(\t)", "( )", "(()", "()(", "(a)(b", "((a)", "a(b(c)d", "(\\)", "(\\\\", "(a\\)", "((\\))", "(a\x7f)", "(a\x00)", "(\x1f", "(&#41;", "(<", "(\xff", "(\u20ac", "(\\", "(\\a", "()\\((", "(() )", "\\\\(", "\\a(",
	} {
		checkNoDest(t, s)
	}
}

func TestOpenOnes(t *testing.T) {
	for n := range 2*mostOpen + 3 {
		for _, s := range []string{open(n) + shut(n), open(n) + "a" + shut(n), "a" + open(n) + "b" + shut(n) + "c", "()" + open(n) + shut(n), strings.Repeat("(a", n) + strings.Repeat("b)", n)} {
			for _, more := range []string{"", " ", "\n", ")", ")(", " ((", "\x7f", ")" + open(40)} {
				if n > mostOpen {
					checkNoDest(t, s+more)
				} else {
					checkDest(t, s+more, s, len(s))
				}
			}
		}
		for _, s := range []string{open(n+1) + shut(n), open(n + 1), "a" + open(n+1) + "b", open(n+1) + shut(n) + " )", open(n+1) + shut(n) + "()", open(n+1) + `\)` + shut(n)} {
			checkNoDest(t, s)
		}
		checkDest(t, shut(n+1), "", 0)
		checkDest(t, open(min(n, mostOpen))+shut(min(n, mostOpen)+1), open(min(n, mostOpen))+shut(min(n, mostOpen)), 2*min(n, mostOpen))
	}
}

func TestOpenOnesOneBehindAnother(t *testing.T) {
	full := open(mostOpen) + shut(mostOpen)
	for _, s := range []string{
		strings.Repeat("()", 100), strings.Repeat("(a)", 33), strings.Repeat("(())", 40), full + full, full + full + full, "a" + full + "b" + full,
		open(31) + "()()" + shut(31), open(31) + strings.Repeat("()", 40) + shut(31), open(31) + "(a)b(c)" + shut(31), "(" + strings.Repeat(open(31)+shut(31), 3) + ")",
	} {
		checkDest(t, s, s, len(s))
		checkDest(t, s+")", s, len(s))
		checkNoDest(t, "("+s)
	}
	for _, s := range []string{open(32) + "()" + shut(32), full + "(" + full + ")", "(" + full + ")", open(33), open(33) + " ", open(31) + "()(())" + shut(31), "()" + open(33) + shut(33), full + open(33) + shut(33), open(33) + shut(40), open(100) + shut(100)} {
		checkNoDest(t, s)
	}
	hidden := strings.Repeat(`\(`, 40)
	checkDest(t, hidden, open(40), 80)
	checkDest(t, open(32)+hidden+shut(32), open(72)+shut(32), 144)
	checkDest(t, open(32)+`\(`+shut(32), open(33)+shut(32), 66)
	checkNoDest(t, open(32)+`\\(`+shut(33))
	checkDest(t, open(32)+"&#40;"+shut(32), open(33)+shut(32), 69)
	checkDest(t, "<"+open(33)+">", open(33), 35)
}

func TestEachByteInADestination(t *testing.T) {
	for n, c := range each() {
		hidden := "\\" + c + "b"
		if strings.Contains(punctuation, c) {
			hidden = c + "b"
		}
		switch {
		case n <= ' ' || n == 127:
			checkDest(t, c, "", 0)
			checkDest(t, c+"a", "", 0)
			checkDest(t, "a"+c, "a", 1)
			checkDest(t, "a"+c+"b", "a", 1)
			checkDest(t, "(a)"+c+")", "(a)", 3)
			checkDest(t, "a\\"+c+"b", "a\\", 2)
			checkNoDest(t, "("+c+")")
			continue
		case c == "(":
			checkNoDest(t, "a"+c+"b")
			checkNoDest(t, c)
		case c == ")":
			checkDest(t, "a"+c+"b", "a", 1)
			checkDest(t, c, "", 0)
		default:
			checkDest(t, "a"+c+"b", "a"+c+"b", 3)
			checkDest(t, "a"+c, "a"+c, 2)
			checkDest(t, "a"+c+" b", "a"+c, 2)
		}
		checkDest(t, "a\\"+c+"b", "a"+hidden, 4)
		checkDest(t, "\\"+c+"b", hidden, 3)
		checkDest(t, "(\\"+c+"b)", "("+hidden+")", 5)
	}
}

func TestEachPairOfBytes(t *testing.T) {
	for _, c := range each() {
		for _, d := range each() {
			dest, n, ok := destAsked(c + d)
			checkDestAnswer(t, c+d, dest, n, ok)
			title, n := titleAsked(c + d)
			checkTitle(t, c+d, title, n)
			checkInlineAsked(t, c+d)
		}
	}
}

func TestShortDestinations(t *testing.T) {
	for _, s := range texts(6, "(", ")", "\\", "a", " ", "<") {
		dest, n, ok := destAsked(s)
		checkDestAnswer(t, s, dest, n, ok)
	}
	for _, s := range texts(6, "<", ">", "\\", "a", "\n", " ") {
		dest, n, ok := destAsked("<" + s)
		checkDestAnswer(t, "<"+s, dest, n, ok)
	}
}

// P9.1: titles.

// kinds are the signs between which a title stands.
func kinds() [][2]string {
	return [][2]string{{`"`, `"`}, {"'", "'"}, {"(", ")"}}
}

func TestTitlesOfEachKind(t *testing.T) {
	for _, c := range []struct{ inside, want string }{
		{"", ""}, {" ", " "}, {"\t", "\t"}, {"a", "a"}, {"a b", "a b"}, {" a ", " a "}, {"<a>", "<a>"}, {"a<b", "a<b"}, {"[x]{y}", "[x]{y}"}, {"\r", "\r"}, {"\x00\x01\x1f\x7f", "\x00\x01\x1f\x7f"},
		{`\"`, `"`}, {`\'`, "'"}, {`\(`, "("}, {`\)`, ")"}, {`a\"b\'c\(d\)e`, `a"b'c(d)e`}, {`\\`, `\`}, {`a\\`, `a\`}, {`\\\\`, `\\`}, {`\\\)\\\"\\\'`, `\)\"\'`}, {`\*`, "*"},
		{`\a`, `\a`}, {`\ `, `\ `}, {`\1`, `\1`}, {"\\\u00e9", "\\\u00e9"}, {"\\\xff", "\\\xff"},
		{"&quot;", `"`}, {"&#39;&#40;&#41;", "'()"}, {"&amp;amp;", "&amp;"}, {"&copy;", "\u00a9"}, {"&nope;", "&nope;"}, {"&", "&"}, {`\&quot;`, "&quot;"}, {"&#92;", `\`}, {"&#10;&#10;", "\n\n"}, {"a&#10;&#32;&#10;b", "a\n \nb"},
		{"\n", "\n"}, {"\na", "\na"}, {"a\n", "a\n"}, {"a\nb", "a\nb"}, {"a\nb\nc", "a\nb\nc"}, {" \n ", " \n "}, {"\t\n\t", "\t\n\t"}, {"\na\n", "\na\n"}, {" \na\n ", " \na\n "}, {"\t \na\nb\n \t", "\t \na\nb\n \t"}, {"a\n b", "a\n b"}, {"a \n b", "a \n b"}, {"a\n\\\nb", "a\n\\\nb"}, {"\\\n", "\\\n"},
		{"a\n\r\nb", "a\n\r\nb"}, {"a\n\u00a0\nb", "a\n\u00a0\nb"}, {"a\n\x00\nb", "a\n\x00\nb"}, {"a\n&#32;\nb", "a\n \nb"}, {"a\n&#10;\nb", "a\n\n\nb"}, {"a\n\\\\\nb", "a\n\\\nb"}, {"a\n\\!\nb", "a\n!\nb"}, {"a\n\xff\nb", "a\n\xff\nb"}, {"a\n .\t\nb", "a\n .\t\nb"}, {"\v\n\f\n\v", "\v\n\f\n\v"}, {"a\n b\n c \nd", "a\n b\n c \nd"},
		{"\u20ac\U0001f600", "\u20ac\U0001f600"}, {"\x80\xff", "\x80\xff"}, {"\xe2\x82", "\xe2\x82"}, {"\xc3", "\xc3"},
	} {
		for _, k := range kinds() {
			s := k[0] + c.inside + k[1]
			for _, more := range behind() {
				checkTitle(t, s+more, c.want, len(s))
			}
			checkNoTitle(t, s[:len(s)-1])
			checkNoTitle(t, k[0]+c.inside+`\`+k[1])
		}
	}
}

func TestBlankLinesInTitles(t *testing.T) {
	for _, k := range kinds() {
		for _, blank := range []string{"", " ", "\t", "   ", " \t ", "\t\t"} {
			for _, first := range []string{"", " ", "\t", "a", " a "} {
				for _, last := range []string{"", " ", "\t", "b", " b "} {
					whole := k[0] + first + "\n" + last + k[1]
					checkTitle(t, whole, first+"\n"+last, len(whole))
					checkNoTitle(t, k[0]+first+"\n"+blank+"\n"+last+k[1])
					checkNoTitle(t, k[0]+first+"\nx\n"+blank+"\n"+last+k[1])
					checkNoTitle(t, k[0]+first+"\n"+blank+"\nx\n"+last+k[1])
					checkNoTitle(t, k[0]+first+"\n"+blank+"\n"+blank+"\n"+last+k[1])
					checkNoTitle(t, k[0]+first+"\n"+blank+"\n"+last+k[1]+k[1])
					x := first + "\n" + blank + "x" + blank + "\n" + last
					checkTitle(t, k[0]+x+k[1], x, len(x)+2)
					checkTitle(t, k[0]+"a"+k[1]+"\n"+blank+"\n"+k[1], "a", 3)
				}
			}
		}
	}
}

func TestOtherKindsSigns(t *testing.T) {
	checkTitle(t, `"a'b(c)d'e"`, "a'b(c)d'e", 11)
	checkTitle(t, `"(" )`, "(", 3)
	checkTitle(t, `")"`, ")", 3)
	checkTitle(t, `"'"'`, "'", 3)
	checkTitle(t, `"((("`, "(((", 5)
	checkTitle(t, `'a"b(c)d"e'`, `a"b(c)d"e`, 11)
	checkTitle(t, `'('`, "(", 3)
	checkTitle(t, `'"'"`, `"`, 3)
	checkTitle(t, `')'`, ")", 3)
	checkTitle(t, `(a"b'c)`, `a"b'c`, 7)
	checkTitle(t, `(")")`, `"`, 3)
	checkTitle(t, `(')`, "'", 3)
	checkTitle(t, `"a" "b"`, "a", 3)
	checkTitle(t, `"a""b"`, "a", 3)
	checkTitle(t, `'a''b'`, "a", 3)
	checkTitle(t, `(a)(b)`, "a", 3)
	checkTitle(t, `(a))`, "a", 3)
	for _, s := range []string{"(()", "(())", "(a(b)c)", "(a(b", "((", "(a(", "((a)", "(\\((", "(\\\\()", "(a\n(b)", "(\\a(b)", "(&#40;()"} {
		checkNoTitle(t, s)
	}
}

func TestNoTitles(t *testing.T) {
	for _, s := range []string{
		"", " ", "\t", "\n", "   ", "\"", "'", "(", ")", "a", "<a>", "a\"b\"", " \"a\"", "\n'a'", "\t(a)", ")a)", ")a(", ">a<", "`a`", "<a\"", "\\\"a\"", "\\'a'", "\\(a)", "&quot;a&quot;", "&#34;a\"", "[a]", "{a}", "*a*",
		"\"a", "'a", "(a", "\"a'", "'a\"", "(a(", "\"a)", "(a\"", "\"\\\"", "'\\'", "(\\)", "\"a\\\"", "\"\\\\\\\"", "'a\\\\\\'", "(\\", "\"\\", "'\\", "\"a&quot;", "\"\n", "\"a\n", "(\n\n", "\"a\n\n", "\"\n\na", "\"\xff", "(\u20ac",
		"\x00\"a\"", "\xff\"a\"", "\x80", "\xe2\x82", "\u201ca\u201d", "\u2018a\u2019", "\u00aba\u00bb", "\uff08a\uff09", "\ufeff\"a\"",
	} {
		checkNoTitle(t, s)
	}
}

func TestEachByteInATitle(t *testing.T) {
	for _, c := range each() {
		if !strings.Contains(`"'(`, c) {
			checkNoTitle(t, c+"a"+c)
			checkNoTitle(t, c+"a\"')")
		}
		hidden := "\\" + c
		if strings.Contains(punctuation, c) {
			hidden = c
		}
		for _, k := range kinds() {
			switch c {
			case k[1]:
				checkTitle(t, k[0]+"a"+c+"b"+k[1], "a", 3)
			case k[0]:
				checkNoTitle(t, k[0]+"a"+c+"b"+k[1])
			default:
				checkTitle(t, k[0]+"a"+c+"b"+k[1], "a"+c+"b", 5)
			}
			checkTitle(t, k[0]+"a\\"+c+"b"+k[1], "a"+hidden+"b", 6)
			if c != "\n" && c != " " && c != "\t" && c != k[0] && c != k[1] && c != "\\" {
				checkTitle(t, k[0]+"a\n"+c+"\nb"+k[1], "a\n"+c+"\nb", 7)
			}
			if c == "\n" || c == " " || c == "\t" {
				checkNoTitle(t, k[0]+"a\n"+c+"\nb"+k[1])
			}
		}
	}
}

func TestShortTitles(t *testing.T) {
	for _, begin := range []string{"", `"`, "'", "("} {
		for _, s := range texts(5, `"`, "'", "(", ")", "\\", "a", "\n") {
			title, n := titleAsked(begin + s)
			checkTitle(t, begin+s, title, n)
		}
	}
	for _, s := range texts(7, "\n", " ", "a", "\\") {
		for _, k := range kinds() {
			for _, more := range []string{k[1], `"'()` + k[1]} {
				title, n := titleAsked(k[0] + s + more)
				checkTitle(t, k[0]+s+more, title, n)
			}
		}
	}
}

// P9.2: links.

func TestInlineWithoutATitle(t *testing.T) {
	for _, c := range []struct{ s, dest string }{
		{"()", ""}, {"( )", ""}, {"(\t)", ""}, {"(\n)", ""}, {"(   )", ""}, {"(\n\n)", ""}, {"(\n\n\n)", ""}, {"( \t\n \n\t)", ""},
		{"(a)", "a"}, {"( a)", "a"}, {"(a )", "a"}, {"( a )", "a"}, {"(\ta\t)", "a"}, {"(\na\n)", "a"}, {"(\n\na\n\n)", "a"}, {"( \n \n a \n\t\n)", "a"}, {"(http://y)", "http://y"}, {"(#head)", "#head"},
		{"(/u(v)w)", "/u(v)w"}, {"(())", "()"}, {"((a))", "(a)"}, {"(a(b(c))d )", "a(b(c))d"}, {"(" + open(32) + shut(32) + ")", open(32) + shut(32)}, {`(\))`, ")"}, {`(\()`, "("}, {`(a\)b)`, "a)b"}, {`(\\)`, `\`}, {`(a\b)`, `a\b`},
		{"(\"t\")", "\"t\""}, {"( 't')", "'t'"}, {"( \"t\" )", "\"t\""}, {"(a\"b\")", "a\"b\""}, {"(a'b')", "a'b'"}, {"((t))", "(t)"}, {"( (t) )", "(t)"}, {"(a(t))", "a(t)"}, {"(\")", "\""}, {"(')", "'"}, {"('\n)", "'"},
		{"(<>)", ""}, {"( <> )", ""}, {"(\n<>\n)", ""}, {"(<a>)", "a"}, {"(<a b>)", "a b"}, {"( <a> )", "a"}, {"(<)>)", ")"}, {"(<(>)", "("}, {`(<\>>)`, ">"}, {`(<a\\>)`, `a\`}, {"(< >)", " "}, {"(< a > )", " a "},
		{"(&amp;)", "&"}, {"(&#41;)", ")"}, {"(a&#32;b)", "a b"}, {"(<&gt;>)", ">"}, {"(&nope;)", "&nope;"}, {"(a<b>)", "a<b>"}, {"(>)", ">"}, {"(a<)", "a<"},
		{"(\u00e9)", "\u00e9"}, {"( \u20ac\n)", "\u20ac"}, {"(\u00a0)", "\u00a0"}, {"(\xff)", "\xff"}, {"(\xe2\x82 )", "\xe2\x82"}, {"(<\xff \x80>)", "\xff \x80"}, {"(<\x00\x7f\r>)", "\x00\x7f\r"},
	} {
		checkWhole(t, c.s, c.dest, "")
	}
}

func TestInlineWithATitle(t *testing.T) {
	for _, d := range []struct{ s, dest string }{{"/u", "/u"}, {"a(b)", "a(b)"}, {"<>", ""}, {"<a b>", "a b"}, {`<\>>`, ">"}, {`\)`, ")"}, {"&lt;", "<"}, {"\"x\"", "\"x\""}, {"(t)", "(t)"}, {"\xff", "\xff"}} {
		for _, u := range []struct{ s, title string }{{`"t"`, "t"}, {"'t'", "t"}, {"(t)", "t"}, {`""`, ""}, {"''", ""}, {"()", ""}, {`"a)b"`, "a)b"}, {`(a\)b)`, "a)b"}, {`'\''`, "'"}, {"\"a\nb\"", "a\nb"}, {"'&quot;'", "\""}, {"(\xff)", "\xff"}, {`"\\"`, `\`}} {
			for _, gap := range []string{" ", "\t", "\n", "  ", " \n ", "\n\n", "\t\n \n"} {
				for _, around := range []string{"", " ", "\n", "\t\n\n"} {
					s := "(" + around + d.s + gap + u.s + around + ")"
					checkInline(t, s, d.dest, u.title, len(s))
				}
				checkNoInline(t, "("+d.s+gap+u.s)
				checkNoInline(t, "("+d.s+gap+u.s+gap)
				checkNoInline(t, "("+d.s+gap+u.s+"x)")
				checkNoInline(t, "("+d.s+gap+u.s+gap+"x)")
				checkNoInline(t, "("+d.s+gap+u.s+gap+u.s+")")
				checkNoInline(t, "("+d.s+gap+u.s+"\\)")
				checkNoInline(t, "("+d.s+gap+"x"+u.s+")")
			}
		}
	}
	checkWhole(t, "( /u 'v' )", "/u", "v")
	checkWhole(t, "(/u\n\"v\")", "/u", "v")
	checkWhole(t, "(<> \"t\")", "", "t")
	checkWhole(t, "(<>\n(t)\n)", "", "t")
	checkWhole(t, "(\"t\" 'v')", "\"t\"", "v")
}

func TestNoInline(t *testing.T) {
	for _, s := range []string{
		"", " ", "\t", "\n", "   ", "a", ")", "a()", " ()", "\n(a)", "[a](b)", "[]", "<a>", "\"t\"", "'t'", "\\(a)", "&#40;a)", "\uff08a)", "\x00(a)", "\xff", "\x80(a)", "\xe2\x82", "\ufeff(a)",
		"(", "( ", "(\n", "(a", "(a ", "(a\n", "( a", "(\\)", "(a\\)", "(a\\", "(&#41;", "(a(b)", "((", "((a)", "(a b)", "(a b", "(a\nb)", "(a 'b)", "(a \"b)", "(a (b)", "(a (b", "(a ((b)))", "(a (b(c)d))", "(a 'b' c)", "(a'b' c)", "(a \"b\"c)", "(a 'b''c')", "(a 'b' 'c')", "(a 'b\\')",
		"(<a", "(<a)", "(<a\n>)", "(<a<>)", "(<a>b)", "(<a> b)", "(<a>", "(<a>\"t\")", "(<a>'t')", "(<a>(t))", "(<>\"\")", "(<><>)", "(<\\>)", "(<a>\\)", "(<>x)", "( < )",
		"(" + open(33) + shut(33) + ")", "(" + open(33) + shut(33) + " 't')", "(" + open(32) + shut(32), "(a" + open(33) + shut(34),
		"(a \"b\n\nc\")", "(a 'b\n \nc')", "(a (b\n\t\nc))", "(a \x00)", "(\x00)", "(\x7f)", "(a\x7f)", "(a\x1fb)", "(a\r'b')", "(a\r)", "(\r)", "(\ra)", "(a 'b'\r)", "(a\v)", "(a \xa0)", "(a 'b'\u00a0)", "(a \u00a0'b')", "(a\u00a0 b)", "(\xff \xff)",
	} {
		checkNoInline(t, s)
	}
}

func TestEachByteInALink(t *testing.T) {
	for _, c := range each() {
		checkInlineAsked(t, "("+c+"a)")
		checkInlineAsked(t, "(a"+c+")")
		checkInlineAsked(t, "(<a>"+c+")")
		checkInlineAsked(t, "(<a>"+c+"'t')")
		checkInlineAsked(t, "(<a> 't'"+c+")")
		checkInlineAsked(t, "(a "+c+"t"+c+")")
		checkInlineAsked(t, "(a "+c+")")
		space := c == " " || c == "\t" || c == "\n"
		if c != "(" {
			checkNoInline(t, c+"a)")
		}
		if c != ")" {
			checkNoInline(t, "(<a>"+c)
			checkNoInline(t, "(<a> 't'"+c)
		}
		if space {
			checkInline(t, "("+c+"a"+c+"'t'"+c+")", "a", "t", 9)
			checkInline(t, "("+c+"<a>"+c+")", "a", "", 7)
			checkInline(t, "("+c+")", "", "", 3)
		} else if c != ")" {
			checkNoInline(t, "(<a>"+c+")")
			checkNoInline(t, "(<a>"+c+"'t')")
			checkNoInline(t, "(<a> 't'"+c+")")
			checkNoInline(t, "(<a> "+c+"'t')")
		}
	}
}

func checkInlineAsked(t *testing.T, s string) {
	t.Helper()
	dest, title, n := inlineAsked(s)
	checkInline(t, s, dest, title, n)
}

func TestShortLinks(t *testing.T) {
	for _, s := range texts(5, "(", ")", "<", ">", "'", "\\", " ", "a") {
		checkInlineAsked(t, "("+s)
	}
	for _, s := range texts(5, "(", ")", "\"", "'", "\n", "\t", "a") {
		checkInlineAsked(t, "(<>"+s)
	}
	for _, s := range texts(5, "(", ")", "'", "\\", " ", "\n", "a") {
		checkInlineAsked(t, "(a "+s+")")
	}
}

// P9.3: anything behind a \ is told as it is.

// hide tells s with a \ ahead of each sign of punctuation.
func hide(s string) string {
	var b strings.Builder
	for i := range len(s) {
		if strings.IndexByte(punctuation, s[i]) >= 0 {
			b.WriteByte('\\')
		}
		b.WriteByte(s[i])
	}
	return b.String()
}

func TestHiddenComesBack(t *testing.T) {
	l := append(texts(3, "(", ")", "<", ">", "\"", "'", "\\", "&", ";", "a", "\xff"), strings.Split(punctuation, "")...)
	l = append(l, punctuation, "&copy;", "&#41;", "\\\\\\", "(((", ")))", "a(b", "<a", "\u20ac)", open(40), shut(40))
	for _, s := range l {
		h := hide(s)
		checkDest(t, h, s, len(h))
		checkDest(t, h+" x", s, len(h))
		checkDest(t, h+")", s, len(h))
		checkDest(t, "<"+h+">", s, len(h)+2)
		for _, k := range kinds() {
			checkTitle(t, k[0]+h+k[1]+h, s, len(h)+2)
			for _, dest := range []string{h + " ", "<" + h + ">\n"} {
				link := "(" + dest + k[0] + h + k[1] + ")"
				if h == "" && dest == " " {
					continue
				}
				checkInline(t, link+h, s, s, len(link))
			}
		}
		checkInline(t, "("+h+")"+h, s, "", len(h)+2)
	}
}

func TestEachByteBehindABackslash(t *testing.T) {
	for _, c := range each() {
		told := "\\" + c
		if strings.Contains(punctuation, c) {
			told = c
		}
		link := "(<\\" + c + "> \"\\" + c + "\")"
		if c == "\n" {
			checkNoInline(t, link)
			continue
		}
		checkInline(t, link, told, told, len(link))
	}
}

// All calls, at any texts.

func TestExamples(t *testing.T) {
	checkDest(t, "/u(v)w z", "/u(v)w", 6)
	checkInline(t, "( /u 'v' )", "/u", "v", 10)
}

func TestWrongTexts(t *testing.T) {
	for _, s := range []string{"", " ", "   ", "\t", "\n", "\n\n\n", "\r", "\x00", "\x7f", "a", "abc", "\\", "\\\\", "\x80", "\xff", "\xff\xff", "\xc3", "\xe2\x82", "\xed\xa0\x80", "\xf4\x90\x80\x80", "\ufeff", "\u00a0", "\u20ac", "\U0001f600"} {
		checkNoTitle(t, s)
		checkNoInline(t, s)
		checkAsked(t, s)
		for _, begin := range []string{"(", "<", "\"", "'", "(<", "(a ", "(a '", "(a 'b' "} {
			checkNoTitle(t, begin+s)
			checkNoInline(t, begin+s)
			checkAsked(t, begin+s)
		}
	}
}

func TestMixed(t *testing.T) {
	for _, s := range mixed(60000) {
		checkAsked(t, s)
	}
}

func TestEachBeginningAndEnd(t *testing.T) {
	for _, s := range mixed(1500) {
		for n := range len(s) + 1 {
			checkAsked(t, s[:n])
			checkAsked(t, s[n:])
		}
	}
}

func TestLongTexts(t *testing.T) {
	for _, c := range []string{"a", "&", "&amp", "\\a", "\xff", "\u20ac", "()", "\\(", "\\)", "*", "[", "](", "x)("} {
		long := strings.Repeat(c, many/8)
		plain := strings.ReplaceAll(strings.ReplaceAll(long, "\\(", "("), "\\)", ")")
		if dest, n, ok := target.Dest("<" + long + ">"); dest != plain || n != len(long)+2 || !ok {
			t.Errorf("many %q in < and > are told as %q, %d", c, cut(dest), n)
		}
		if title, n := target.Title("'" + long + "'"); title != plain || n != len(long)+2 {
			t.Errorf("a title of many %q is told as %q, %d", c, cut(title), n)
		}
		if _, _, n := target.Inline("(<" + long + "> \"" + long + "\")"); n != 2*len(long)+7 {
			t.Errorf("a link of many %q has %d bytes", c, n)
		}
		if _, n, ok := target.Dest("<" + long); n != 0 || ok {
			t.Errorf("many %q behind a < are a destination", c)
		}
		if _, n := target.Title("\"" + long); n != 0 {
			t.Errorf("many %q behind a \" are a title", c)
		}
	}
	for _, c := range []string{" ", "\t", "\n", "\n \t"} {
		long := strings.Repeat(c, many)
		one := len(long)
		if strings.Contains(c, "\n") {
			one = len(c)
		}
		checkSpaces(t, long, one, len(long))
		checkInline(t, "("+long+"a"+long+"'t'"+long+")", "a", "t", 3*len(long)+6)
		checkNoInline(t, "("+long)
	}
	long := strings.Repeat("a", many)
	checkDest(t, long, long, many)
	checkDest(t, long+")", long, many)
	checkNoDest(t, "("+long)
	checkDest(t, strings.Repeat("()", many), strings.Repeat("()", many), 2*many)
	if _, n, ok := target.Dest(open(many) + shut(many)); n != 0 || ok {
		t.Error("many ( in one another are a destination")
	}
	lines := strings.Repeat("a\n", many)
	checkTitle(t, "("+lines+")", lines, 2*many+2)
	checkNoTitle(t, "("+lines+"\n)")
	checkNoTitle(t, "\""+lines+" \t\n\"")
}

// The rules that hold everywhere: an answer shares no memory with an argument, which stays as it is.

func shares(a, b string) bool {
	if a == "" || b == "" {
		return false
	}
	from, other := uintptr(unsafe.Pointer(unsafe.StringData(a))), uintptr(unsafe.Pointer(unsafe.StringData(b)))
	return from < other+uintptr(len(b)) && other < from+uintptr(len(a))
}

func TestAnswersAreNewMemory(t *testing.T) {
	for _, s := range []string{"a", "abc", "/u(v)w z", "<a b>c", "<a>", "\"t\"", "'t\\'u'", "(t)", "(a)", "(/u 'v')", "( <a b> \"c d\" )e", "(&amp; (&lt;))", "(\xff '\xff')", " \n\n", "(<> 't')"} {
		b := []byte(s)
		text := unsafe.String(&b[0], len(b))
		target.Spaces(text, true)
		target.Spaces(text, false)
		dest, _, _ := target.Dest(text)
		title, _ := target.Title(text)
		to, over, _ := target.Inline(text)
		for _, told := range []string{dest, title, to, over} {
			if shares(told, text) {
				t.Errorf("%q, told of %q, shares memory with it", told, s)
			}
		}
		if string(b) != s {
			t.Errorf("%q is changed", s)
		}
	}
	if s := "abc"; !shares(s[1:], s) || shares(s, strings.Clone(s)) {
		t.Error("shares doesn't tell what shares memory")
	}
}

// A call hangs on its arguments alone: asked in between, and again, it answers the same.
func TestCallsHangOnTheirArguments(t *testing.T) {
	l := mixed(500)
	for range 2 {
		for i := range l {
			checkAsked(t, l[i])
			checkAsked(t, l[len(l)-1-i])
		}
	}
}

package mark_test

import (
	"math"
	"regexp"
	"slices"
	"strconv"
	"strings"
	"testing"
	"unsafe"

	"compositor/api"
	"compositor/mark"
	"compositor/named"
)

const many = 1 << 20

// What the chapter asks, in other ways.

const (
	textNames  = "script pre style textarea"
	blockNames = "address article aside base blockquote body caption center col colgroup dd details dialog dir div dl dt fieldset figcaption figure footer form frame frameset " +
		"h1 h2 h3 h4 h5 h6 head header hr html iframe legend li link main menu menuitem nav noframes ol optgroup option p param search section summary " +
		"table tbody td tfoot th thead title tr track ul"
)

var (
	ruleAsk    = regexp.MustCompile(`^(?:(?:\*[ \t]*){3,}|(?:_[ \t]*){3,}|(?:-[ \t]*){3,})$`)
	headingAsk = regexp.MustCompile(`^(#{1,6})($|[ \t](?s:.*)$)`)
	closingAsk = regexp.MustCompile(`(?s)^(.*[ \t])?#+$`)
	firstAsk   = regexp.MustCompile(`^=+[ \t]*$`)
	secondAsk  = regexp.MustCompile(`^-+[ \t]*$`)
	fenceAsk   = regexp.MustCompile("^(`{3,}|~{3,})((?s:.*))$")
	listAsk    = regexp.MustCompile(`^(?:[-+*]|([0-9]{1,9})[.)])(?:$|[ \t])`)
	textAsk    = regexp.MustCompile(`^<(?:` + strings.ReplaceAll(textNames, " ", "|") + `)(?:$|[ \t>])`)
	letterAsk  = regexp.MustCompile(`^<![a-z]`)
	elementAsk = regexp.MustCompile(`^</?(?:` + strings.ReplaceAll(blockNames, " ", "|") + `)(?:$|[ \t>]|/>)`)
	textEndAsk = regexp.MustCompile(`</(?:` + strings.ReplaceAll(textNames, " ", "|") + `)>`)
)

// small tells s with small letters for A to Z, and all other bytes as they are.
func small(s string) string {
	b := []byte(s)
	for i, c := range b {
		if at := strings.IndexByte("ABCDEFGHIJKLMNOPQRSTUVWXYZ", c); at >= 0 {
			b[i] = "abcdefghijklmnopqrstuvwxyz"[at]
		}
	}
	return string(b)
}

func trimAsked(s string) string {
	return strings.Trim(s, " \t\n")
}

func headingAsked(s string) (int, string) {
	m := headingAsk.FindStringSubmatch(s)
	if m == nil {
		return 0, ""
	}
	text := trimAsked(m[2])
	if without := closingAsk.FindStringSubmatch(text); without != nil {
		text = trimAsked(without[1])
	}
	return len(m[1]), text
}

func underAsked(s string) int {
	if firstAsk.MatchString(s) {
		return 1
	}
	if secondAsk.MatchString(s) {
		return 2
	}
	return 0
}

func fenceAsked(s string) (byte, int, string) {
	m := fenceAsk.FindStringSubmatch(s)
	if m == nil || m[1][0] == '`' && strings.Contains(m[2], "`") {
		return 0, 0, ""
	}
	return m[1][0], len(m[1]), named.Plain(trimAsked(m[2]))
}

func fenceEndAsked(s string, c byte, n int) bool {
	for count := max(n, 3); count <= len(s); count++ {
		if s[:count] == strings.Repeat(string([]byte{c}), count) && strings.Trim(s[count:], " \t") == "" {
			return true
		}
	}
	return false
}

func listAsked(s string) api.Sign {
	m := listAsk.FindStringSubmatch(s)
	if m == nil {
		return api.Sign{}
	}
	if m[1] == "" {
		return api.Sign{Mark: s[0], Width: 1}
	}
	start, _ := strconv.Atoi(m[1])
	return api.Sign{Ordered: true, Start: start, Mark: s[len(m[1])], Width: len(m[1]) + 1}
}

func htmlAsked(s string) int {
	switch {
	case textAsk.MatchString(small(s)):
		return 1
	case strings.HasPrefix(s, "<!--"):
		return 2
	case strings.HasPrefix(s, "<?"):
		return 3
	case strings.HasPrefix(s, "<![CDATA["):
		return 5
	case letterAsk.MatchString(small(s)):
		return 4
	case elementAsk.MatchString(small(s)):
		return 6
	}
	return 0
}

func htmlEndAsked(s string, kind int) bool {
	if kind == 1 {
		return textEndAsk.MatchString(small(s))
	}
	end, ok := map[int]string{2: "-->", 3: "?>", 4: ">", 5: "]]>"}[kind]
	return ok && strings.Contains(s, end)
}

// Texts that are asked for.

// texts tells all texts of at most so many of these pieces.
func texts(count int, pieces ...string) []string {
	all := []string{""}
	last := all
	for range count {
		var next []string
		for _, s := range last {
			for _, p := range pieces {
				next = append(next, s+p)
			}
		}
		all = append(all, next...)
		last = next
	}
	return all
}

// mixed tells texts of fewer than 12 pieces, the same ones at each call.
func mixed(count int) []string {
	pieces := []string{
		"*", "_", "-", "***", "---", "___", "+", "=", "==", "#", "#", "##", "###", "######", "`", "```", "````", "~", "~~~", "~~~~", " ", " ", " ", " ", "\t", "\t", "\n",
		"0", "1", "9", "12", "123456789", ".", ")", "<", "<", "</", "<!", "<!--", "<?", "<![CDATA[", "-->", "?>", ">", ">", "/>", "/", "]]>", "!", "?", "[", "]",
		"script", "PRE", "Style", "textarea", "</script>", "</TEXTAREA>", "div", "P", "h1", "li", "table", "a", "Z", "x y", "\\", "\\#", "\\`", "&lt;", "&amp;", "&#96;", "&#35;", "&nope;",
		"\u00e9", "\u20ac", "\U0001f600", "\u00a0", "\u212a", "\u017f", "\x00", "\x80", "\xff", "\xc3", "\xe2\x82",
	}
	state := uint64(20261118)
	next := func(below int) int {
		state = state*6364136223846793005 + 1442695040888963407
		return int(state>>33) % below
	}
	l := make([]string, count)
	for i := range l {
		for range next(12) {
			l[i] += pieces[next(len(pieces))]
		}
	}
	return l
}

// each is every byte as a text.
func each() []string {
	l := make([]string, 256)
	for n := range l {
		l[n] = string([]byte{byte(n)})
	}
	return l
}

// wrong are texts that begin nothing.
func wrong() []string {
	return []string{
		"", " ", "\t", "   ", "\t\t\t", " \t ", "\n", "\n\n\n", "\r", "\x00", "\x00\x00\x00", "a", "abc", "a b c", "\\", "\\\\\\",
		"\x80", "\xff", "\xff\xff\xff", "\xc3", "\xe2\x82", "\xed\xa0\x80", "\xf4\x90\x80\x80", "\xef\xbf\xbd", "\ufeff", "\ufeff---", "\u00a0", "\u00a0---",
		"\u00e9", "\u20ac\u20ac\u20ac", "\U0001f600", "\u2014\u2014\u2014", "\u2212\u2212\u2212", "\uff03 a", "\u0661. a", "\u00b2. a", "\uff11. a", "\u2022 a", "\uff1cdiv",
	}
}

// alongside are the texts that stand behind a mark at which a word could go on.
func alongside() []string {
	return []string{"a", "Z", "0", "-", "_", ".", "\\", "\n", "\r", "\v", "\f", "\x00", "\x7f", "\x80", "\x85", "\xa0", "\xff", "\u00a0", "\u00e9", "\u2003", "\u3000", "\U0001f600", "\xe2\x80", "\n ", "\u00a0 ", "a ", "\xff "}
}

// Checks, which hold what the test asks against what the chapter asks in the other way, too.

// cut tells the beginning of a long text.
func cut(s string) string {
	return s[:min(len(s), 60)]
}

func checkRule(t *testing.T, s string, want bool) {
	t.Helper()
	if is := mark.Rule(s); is != want || is != ruleAsk.MatchString(s) {
		t.Errorf("Rule(%q) is %v, asked is %v", cut(s), is, want)
	}
}

func checkHeading(t *testing.T, s string, level int, text string) {
	t.Helper()
	n, is := mark.Heading(s)
	if n != level || is != text {
		t.Errorf("Heading(%q) is %d, %q, asked is %d, %q", cut(s), n, cut(is), level, cut(text))
	}
	if n, is := headingAsked(s); n != level || is != text {
		t.Errorf("of %q both %d, %q and %d, %q are asked", cut(s), level, cut(text), n, cut(is))
	}
}

func checkUnder(t *testing.T, s string, want int) {
	t.Helper()
	if n := mark.Under(s); n != want || n != underAsked(s) {
		t.Errorf("Under(%q) is %d, asked is %d", cut(s), n, want)
	}
}

func checkFence(t *testing.T, s string, sign byte, count int, text string) {
	t.Helper()
	c, n, is := mark.Fence(s)
	if c != sign || n != count || is != text {
		t.Errorf("Fence(%q) is %q, %d, %q, asked is %q, %d, %q", cut(s), c, n, cut(is), sign, count, cut(text))
	}
	if c, n, is := fenceAsked(s); c != sign || n != count || is != text {
		t.Errorf("of %q both %q, %d, %q and %q, %d, %q are asked", cut(s), sign, count, cut(text), c, n, cut(is))
	}
}

func checkNoFence(t *testing.T, s string) {
	t.Helper()
	checkFence(t, s, 0, 0, "")
}

func checkFenceEnd(t *testing.T, s string, c byte, n int, want bool) {
	t.Helper()
	if is := mark.FenceEnd(s, c, n); is != want {
		t.Errorf("FenceEnd(%q, %q, %d) is %v", cut(s), c, n, is)
	}
}

// checkList asks for the mark with which s begins; for none, if it has no bytes.
func checkList(t *testing.T, s string, want api.Sign) {
	t.Helper()
	if sign, ok := mark.List(s); sign != want || ok != (want.Width > 0) {
		t.Errorf("List(%q) is %v, %v, asked is %v", cut(s), sign, ok, want)
	}
	if sign := listAsked(s); sign != want {
		t.Errorf("of %q both %v and %v are asked", cut(s), want, sign)
	}
}

func checkNoList(t *testing.T, s string) {
	t.Helper()
	checkList(t, s, api.Sign{})
}

func checkHtml(t *testing.T, s string, want int) {
	t.Helper()
	if kind := mark.Html(s); kind != want || kind != htmlAsked(s) {
		t.Errorf("Html(%q) is %d, asked is %d", cut(s), kind, want)
	}
}

func checkHtmlEnd(t *testing.T, s string, kind int, want bool) {
	t.Helper()
	if is := mark.HtmlEnd(s, kind); is != want || is != htmlEndAsked(s, kind) {
		t.Errorf("HtmlEnd(%q, %d) is %v, asked is %v", cut(s), kind, is, want)
	}
}

// Checks of a text against the other way alone.

func checkRuleAsked(t *testing.T, s string) {
	t.Helper()
	checkRule(t, s, ruleAsk.MatchString(s))
}

func checkHeadingAsked(t *testing.T, s string) {
	t.Helper()
	n, text := headingAsked(s)
	checkHeading(t, s, n, text)
}

func checkUnderAsked(t *testing.T, s string) {
	t.Helper()
	checkUnder(t, s, underAsked(s))
}

func checkFenceAsked(t *testing.T, s string) {
	t.Helper()
	c, n, text := fenceAsked(s)
	checkFence(t, s, c, n, text)
}

func checkFenceEndAsked(t *testing.T, s string) {
	t.Helper()
	for _, c := range []byte{'`', '~'} {
		for n := -1; n < 6; n++ {
			checkFenceEnd(t, s, c, n, fenceEndAsked(s, c, n))
		}
	}
}

func checkListAsked(t *testing.T, s string) {
	t.Helper()
	checkList(t, s, listAsked(s))
}

func checkHtmlAsked(t *testing.T, s string) {
	t.Helper()
	checkHtml(t, s, htmlAsked(s))
	for kind := -1; kind < 9; kind++ {
		checkHtmlEnd(t, s, kind, htmlEndAsked(s, kind))
	}
}

func checkAsked(t *testing.T, s string) {
	t.Helper()
	checkRuleAsked(t, s)
	checkHeadingAsked(t, s)
	checkUnderAsked(t, s)
	checkFenceAsked(t, s)
	checkFenceEndAsked(t, s)
	checkListAsked(t, s)
	checkHtmlAsked(t, s)
}

func checkNothing(t *testing.T, s string) {
	t.Helper()
	checkRule(t, s, false)
	checkHeading(t, s, 0, "")
	checkUnder(t, s, 0)
	checkNoFence(t, s)
	checkNoList(t, s)
	checkHtml(t, s, 0)
	for _, n := range []int{math.MinInt, -1, 0, 1, 2, 3, 4, math.MaxInt} {
		checkFenceEnd(t, s, '`', n, false)
		checkFenceEnd(t, s, '~', n, false)
	}
	for kind := -1; kind < 9; kind++ {
		checkHtmlEnd(t, s, kind, false)
	}
}

func TestWrongTexts(t *testing.T) {
	for _, s := range wrong() {
		checkNothing(t, s)
	}
}

// P8.1: rules

// ofSign tells s with sign wherever it has an x.
func ofSign(s, sign string) string {
	return strings.ReplaceAll(s, "x", sign)
}

func TestRules(t *testing.T) {
	for _, sign := range []string{"*", "_", "-"} {
		for _, s := range []string{
			// Of three, and of many.
			"xxx", "xxxx", "xxxxx", "xxxxxxxxx", strings.Repeat("x", 80), strings.Repeat("x", many),
			// With blanks and tabs between and behind.
			"x x x", "xx x", "x xx", "x  x  x", "x\tx\tx", "x \tx\t x", "xx  x", "x x x x", "xxx xxx", "x      x      x", "xxx ", "xxx\t", "xxx    ", "xxx \t \t", "x x x ", "x\tx\tx\t", "x xx\t x ", "xxx xxx\t", "x x x" + strings.Repeat(" x", many), "x" + strings.Repeat(" ", many) + "x\t x" + strings.Repeat("\t", many),
		} {
			checkRule(t, ofSign(s, sign), true)
		}
		for _, s := range []string{
			// Of one and of two.
			"x", "xx", "x ", "x x", "xx ", "x\tx\t", "x x" + strings.Repeat(" ", 80),
			// With a blank or a tab ahead.
			" xxx", "\txxx", " x x x", "   xxx", " xxxxxxx ", "\t xxx", " \txxx", "  xx",
			// With something else.
			"axxx", "xaxx", "xxax", "xxxa", "xxx a", "xxx\ta", "x x x a", "xxx\n", "\nxxx", "x\nx\nx", "xxx\r", "xxx\x00", "xxx\xff", "x\xffxx", "xxx\u00a0", "x\u00a0x\u00a0x", "x\u2003xx", "xxx.", "\\xxx", "xxx\\", "xxx#", "xxx=", "x+xx", "xxx\v", "xxx\f",
		} {
			checkRule(t, ofSign(s, sign), false)
		}
	}
}

func TestMixedRules(t *testing.T) {
	signs := []string{"*", "_", "-"}
	for _, a := range signs {
		for _, b := range signs {
			for _, s := range []string{"abb", "aab", "aba", "aaab", "baaa", "a a b", "a b b", "b a a", "aaa b", "b aaa", "aaa\tb", "aaabbb", "aaa bbb", "a a a b b b", "aaa b ", strings.Repeat("a", 80) + "b"} {
				checkRule(t, strings.NewReplacer("a", a, "b", b).Replace(s), a == b)
			}
		}
	}
	checkRule(t, "*-*", false)
	checkRule(t, "* * *", true)
}

func TestSignsOfRules(t *testing.T) {
	for n, c := range each() {
		is := n == '*' || n == '_' || n == '-'
		checkRule(t, c, false)
		checkRule(t, c+c, false)
		checkRule(t, c+c+c, is)
		checkRule(t, c+" "+c+"\t"+c+" ", is)
	}
}

func TestEachByteInARule(t *testing.T) {
	for _, sign := range []string{"*", "_", "-"} {
		for n, c := range each() {
			blank := n == ' ' || n == '\t'
			checkRule(t, c+sign+sign+sign, c == sign)
			checkRule(t, sign+c+sign+sign, c == sign || blank)
			checkRule(t, sign+sign+c+sign, c == sign || blank)
			checkRule(t, sign+sign+sign+c, c == sign || blank)
			checkRule(t, sign+c+sign, c == sign)
			checkRule(t, sign+sign+c, c == sign)
			checkRule(t, c+sign+sign, c == sign)
		}
	}
}

// P8.1: headings

func TestExamples(t *testing.T) {
	checkHeading(t, "## a b ##", 2, "a b")
	checkList(t, "12) a", api.Sign{Ordered: true, Start: 12, Mark: ')', Width: 3})
}

func TestLevels(t *testing.T) {
	for count := range 20 {
		signs := strings.Repeat("#", count)
		level, text := 0, ""
		if 1 <= count && count <= 6 {
			level, text = count, "a b"
		}
		checkHeading(t, signs, level, "")
		for _, behind := range []string{" ", "\t", "  ", " \t ", "\t\t", " #", " ##", "\t#######", " # "} {
			checkHeading(t, signs+behind, level, "")
		}
		for _, behind := range []string{" a b", "\ta b", "   a b", "\t \ta b", " a b ", " a b\t\t", " a b #", "\ta b\t######## ", " a b \n"} {
			checkHeading(t, signs+behind, level, text)
		}
		for _, behind := range alongside() {
			checkHeading(t, signs+behind, 0, "")
		}
		checkHeading(t, " "+signs+" a", 0, "")
		checkHeading(t, "\t"+signs+" a", 0, "")
		checkHeading(t, "\\"+signs+" a", 0, "")
		checkHeading(t, "a"+signs+" a", 0, "")
	}
}

func TestTextsOfHeadings(t *testing.T) {
	for _, c := range []struct{ s, text string }{
		{"", ""}, {"a", "a"}, {"a b", "a b"}, {"a  b", "a  b"}, {"a\tb", "a\tb"}, {"  a", "a"}, {"a  ", "a"}, {"\ta\t", "a"}, {" \t a b \t ", "a b"}, {"a\nb", "a\nb"}, {"\na\n", "a"},
		// # at the end, behind a blank.
		{"a #", "a"}, {"a ##", "a"}, {"a\t#", "a"}, {"a   ###", "a"}, {"a \t##", "a"}, {"a # ", "a"}, {"a ##\t ", "a"}, {"a #\n", "a"}, {"a b ###############", "a b"}, {"a  #", "a"}, {"a\t\t#", "a"}, {"a\n #", "a"},
		// Behind a letter, and behind anything else.
		{"a#", "a#"}, {"a##", "a##"}, {"a b#", "a b#"}, {"a# ", "a#"}, {"a#\t", "a#"}, {"a \\#", "a \\#"}, {"a \\##", "a \\##"}, {"a #\\#", "a #\\#"}, {"a.#", "a.#"}, {"a\n#", "a\n#"}, {"a\u00a0#", "a\u00a0#"}, {"\xff#", "\xff#"}, {"a \xff#", "a \xff#"}, {"a\x00#", "a\x00#"}, {"\\#", "\\#"}, {"a\v#", "a\v#"}, {"a\r#", "a\r#"}, {"\u2003#", "\u2003#"},
		// Alone.
		{"#", ""}, {"##", ""}, {"#######", ""}, {"# ", ""}, {"  #", ""}, {"\t##\t", ""}, {"\n#", ""}, {"#\n", ""}, {strings.Repeat("#", 80), ""},
		// Once alone, and elsewhere not.
		{"# #", "#"}, {"## #", "##"}, {"# ##", "#"}, {"# # #", "# #"}, {"#\t#", "#"}, {"a # #", "a #"}, {"a ## ##", "a ##"}, {"a # # ", "a #"}, {"a# #", "a#"}, {"a #  #", "a #"},
		{"# a", "# a"}, {"#a", "#a"}, {"#a #", "#a"}, {"# a #", "# a"}, {"a # b", "a # b"}, {"a #b", "a #b"}, {"a ##b", "a ##b"}, {"a # b #", "a # b"}, {"a #b#", "a #b#"}, {"a # .", "a # ."}, {"a #.", "a #."}, {"a #\x00", "a #\x00"}, {"a #\u00a0", "a #\u00a0"}, {"a #\xff", "a #\xff"}, {"#\\", "#\\"}, {"a #\nb", "a #\nb"},
		// It stays raw.
		{"&amp;", "&amp;"}, {"\\*", "\\*"}, {"a &#35;", "a &#35;"}, {"a &lt; #", "a &lt;"}, {"*a*", "*a*"}, {"`a` #", "`a`"}, {"\u00e9 \u20ac #", "\u00e9 \u20ac"}, {"\U0001f600", "\U0001f600"}, {"\xff", "\xff"}, {"\xff #", "\xff"}, {"\xc3 #", "\xc3"}, {"\x00", "\x00"}, {"\u00a0", "\u00a0"}, {"\u00a0#", "\u00a0#"}, {"a\r", "a\r"}, {"\v", "\v"}, {"\f a", "\f a"},
	} {
		for level := 1; level <= 6; level++ {
			signs := strings.Repeat("#", level)
			checkHeading(t, signs+" "+c.s, level, c.text)
			checkHeading(t, signs+"\t"+c.s, level, c.text)
			checkHeading(t, signs+" \t "+c.s+"\t ", level, c.text)
		}
	}
}

func TestEachByteInAHeading(t *testing.T) {
	for n, c := range each() {
		blank := n == ' ' || n == '\t'
		if blank {
			checkHeading(t, "#"+c+"b", 1, "b")
			checkHeading(t, "# a"+c+"#", 1, "a")
			checkHeading(t, "######"+c, 6, "")
		} else if n != '#' {
			checkHeading(t, "#"+c+"b", 0, "")
			checkHeading(t, "# a"+c+"#", 1, "a"+c+"#")
			checkHeading(t, "######"+c, 0, "")
		}
		for _, ahead := range []string{"", "#", "##", "# ", "# a", "# a ", "# a #", "# #", "#\t", "#####", "######", "###### "} {
			for _, behind := range []string{"", " ", "#", " #", "a", "##\t", "# #"} {
				checkHeadingAsked(t, ahead+c+behind)
			}
		}
	}
}

// P8.1: lines under a paragraph

func TestUnder(t *testing.T) {
	for sign, level := range map[string]int{"=": 1, "-": 2} {
		for _, s := range []string{"x", "xx", "xxx", "xxxx", "xxxxxxxxx", "x ", "x\t", "xx  ", "xxx \t ", "x" + strings.Repeat(" ", 80), strings.Repeat("x", 80) + "\t", strings.Repeat("x", many), "x" + strings.Repeat("\t", many), strings.Repeat("x", many) + strings.Repeat(" ", many)} {
			checkUnder(t, ofSign(s, sign), level)
		}
		for _, s := range []string{
			// Blanks ahead and between.
			" x", "\tx", " xxx", "   x ", "x x", "x\tx", "xx x", "x xx", "x x ", "xxx xxx", "xxx\tx",
			// Something else.
			"xa", "x a", "ax", "xax", "xxx a", "xxx\ta", "x\n", "\nx", "x\nx", "x\r", "x\x00", "x\xff", "\xffx", "xxx\u00a0", "\\x", "x\\", "x_", "x*", "x+", "x>", "x\v", "x\f",
		} {
			checkUnder(t, ofSign(s, sign), 0)
		}
	}
	for _, s := range []string{"=-", "-=", "==-", "--=", "=-=", "-=-", "===---", "---===", "= -", "- =", "===\t-", "--- =", "_", "___", "***", "+", "~~~", "##"} {
		checkUnder(t, s, 0)
	}
	for n, c := range each() {
		want := 0
		switch n {
		case '=':
			want = 1
		case '-':
			want = 2
		}
		checkUnder(t, c, want)
		checkUnder(t, c+c, want)
		checkUnder(t, c+"\t", want)
		for _, sign := range []string{"=", "-", "==", "--", "= ", "-\t"} {
			checkUnderAsked(t, c+sign)
			checkUnderAsked(t, sign+c)
			checkUnderAsked(t, sign+c+sign)
		}
	}
}

// P8.1: list items

func TestPlainItems(t *testing.T) {
	for _, sign := range []string{"-", "+", "*"} {
		want := api.Sign{Mark: sign[0], Width: 1}
		for _, behind := range []string{"", " ", "\t", "  ", " a", "\ta", "    a", " \t a", " -", " - -", "\t\t", " \n", " \xff", " 1.", strings.Repeat(" ", many), " " + strings.Repeat("a", many)} {
			checkList(t, sign+behind, want)
		}
		for _, behind := range append(alongside(), "*", "+", "--", "+ a", "* a", "**", "***", "1.", ") a") {
			checkNoList(t, sign+behind)
		}
		for _, ahead := range []string{" ", "\t", "   ", "a", "\\", "1", "9 ", "\n", "\xff", "\u00a0", ".", "0"} {
			checkNoList(t, ahead+sign)
			checkNoList(t, ahead+sign+" a")
		}
	}
	// A rule is one's own to tell.
	checkList(t, "* * *", api.Sign{Mark: '*', Width: 1})
	checkList(t, "- - -", api.Sign{Mark: '-', Width: 1})
}

func TestNumbers(t *testing.T) {
	for _, c := range []struct {
		digits string
		start  int
	}{
		{"0", 0}, {"1", 1}, {"2", 2}, {"3", 3}, {"4", 4}, {"5", 5}, {"6", 6}, {"7", 7}, {"8", 8}, {"9", 9}, {"10", 10}, {"12", 12}, {"99", 99}, {"100", 100}, {"1234", 1234}, {"90210", 90210}, {"654321", 654321}, {"7654321", 7654321},
		{"12345678", 12345678}, {"99999999", 99999999}, {"100000000", 100000000}, {"123456789", 123456789}, {"987654321", 987654321}, {"999999999", 999999999},
		// Zeros ahead.
		{"00", 0}, {"01", 1}, {"007", 7}, {"010", 10}, {"0000", 0}, {"00000000", 0}, {"000000000", 0}, {"000000001", 1}, {"000000012", 12}, {"099999999", 99999999}, {"012345678", 12345678},
	} {
		for _, sign := range []string{".", ")"} {
			want := api.Sign{Ordered: true, Start: c.start, Mark: sign[0], Width: len(c.digits) + 1}
			for _, behind := range []string{"", " ", "\t", " a", "\ta", "    a", " \n", " 2.", " \xff", " )"} {
				checkList(t, c.digits+sign+behind, want)
			}
			for _, behind := range append(alongside(), "1", ".", ")", ") a", ". a", "1. a", ")) a") {
				checkNoList(t, c.digits+sign+behind)
			}
			for _, ahead := range []string{" ", "\t", "a", "\\", "-", "+", ".", "\n", "\xff", "\u00a0", "(", "1 "} {
				checkNoList(t, ahead+c.digits+sign+" a")
			}
		}
		for _, behind := range []string{"", " ", "\t", " .", " )", "\t. a", ":", ": a", "a", "a. a", "-", "- a", "+ a", "* a", ",", "(", "/", "\u00e9.", "\xff. a", "\n.", "\x00)"} {
			checkNoList(t, c.digits+behind)
		}
	}
}

func TestCountsOfDigits(t *testing.T) {
	for count := range 40 {
		for _, digit := range []string{"0", "1", "7", "9"} {
			digits := strings.Repeat(digit, count)
			for _, sign := range []string{".", ")"} {
				for _, behind := range []string{"", " ", "\t", " a"} {
					want := api.Sign{}
					if 1 <= count && count <= 9 {
						start, _ := strconv.Atoi(digits)
						want = api.Sign{Ordered: true, Start: start, Mark: sign[0], Width: count + 1}
					}
					checkList(t, digits+sign+behind, want)
				}
			}
		}
	}
	checkNoList(t, "1234567890. a")
	checkNoList(t, "0000000001. a")
	checkNoList(t, strings.Repeat("0", many)+". a")
	checkNoList(t, "18446744073709551617. a")
}

func TestEachByteInAnItem(t *testing.T) {
	for _, c := range each() {
		checkListAsked(t, c)
		checkListAsked(t, c+" ")
		checkListAsked(t, c+"\ta")
		for _, mark := range []string{"-", "+", "*", "1.", "1)", "12.", "123456789)"} {
			checkListAsked(t, mark+c)
			checkListAsked(t, mark+c+" a")
			checkListAsked(t, c+mark)
			checkListAsked(t, c+mark+" a")
		}
		for _, digits := range []string{"1", "09", "12345678", "123456789", "1234567890"} {
			checkListAsked(t, digits+c)
			checkListAsked(t, digits+c+" a")
			checkListAsked(t, digits+c+"1")
			checkListAsked(t, digits+c+".")
		}
	}
}

// P8.2: fences

func TestCountsOfFences(t *testing.T) {
	for count := range 40 {
		for _, sign := range []string{"`", "~"} {
			signs := strings.Repeat(sign, count)
			for _, c := range []struct{ behind, text string }{
				{"", ""}, {" ", ""}, {"\t", ""}, {" \t ", ""}, {"\n", ""}, {"a", "a"}, {" a", "a"}, {"\ta\t", "a"}, {"  a b  ", "a b"}, {"go", "go"}, {" go x=1 ", "go x=1"}, {"#", "#"}, {"-", "-"}, {"a\tb", "a\tb"}, {"\n a \n", "a"}, {"a\nb", "a\nb"},
			} {
				if count < 3 {
					checkNoFence(t, signs+c.behind)
				} else {
					checkFence(t, signs+c.behind, sign[0], count, c.text)
				}
				checkNoFence(t, " "+signs+c.behind)
				checkNoFence(t, "\t"+signs+c.behind)
				checkNoFence(t, "\\"+signs+c.behind)
				checkNoFence(t, "a"+signs+c.behind)
			}
		}
	}
}

func TestTextsOfFences(t *testing.T) {
	for _, c := range []struct{ s, text string }{
		// References.
		{"go &amp;", "go &"}, {"&lt;&gt;", "<>"}, {"&copy; x", "\u00a9 x"}, {"&#65;", "A"}, {"&#x20AC;", "\u20ac"}, {"&#0;", "\ufffd"}, {"&nope;", "&nope;"}, {"&amp", "&amp"}, {"&amp;lt;", "&lt;"}, {"&#96;", "`"}, {"&#96;&#96;&#96;", "```"}, {"&#126;", "~"}, {"&quot;a&quot;", "\"a\""},
		// Trimmed ahead of them.
		{"&#32;", " "}, {"&#32;a&#32;", " a "}, {" &#9;a ", "\ta"}, {"&#10;", "\n"}, {"&nbsp;", "\u00a0"}, {" &nbsp; ", "\u00a0"},
		// Signs behind a \.
		{"a\\*b", "a*b"}, {"\\\\", "\\"}, {"\\a", "\\a"}, {"\\", "\\"}, {"a\\", "a\\"}, {"\\&amp;", "&amp;"}, {"\\_\\#", "_#"}, {"\\ a", "\\ a"}, {"\\~", "~"}, {"a\\ ", "a\\"}, {"c\\+\\+", "c++"},
		// Runes, and bytes that belong to none.
		{"\u00e9\u20ac\U0001f600", "\u00e9\u20ac\U0001f600"}, {"\u00a0", "\u00a0"}, {"\u00a0a\u2003", "\u00a0a\u2003"}, {"\xff", "\xff"}, {"\x80 a", "\x80 a"}, {"\xc3", "\xc3"}, {"\x00", "\x00"}, {"a\rb", "a\rb"}, {"\r", "\r"}, {"\v\f", "\v\f"},
	} {
		for _, signs := range []string{"```", "````", "~~~", "~~~~~"} {
			checkFence(t, signs+c.s, signs[0], len(signs), c.text)
			checkFence(t, signs+" \t"+c.s+" ", signs[0], len(signs), c.text)
			checkFence(t, signs+"\n"+c.s+"\n\t", signs[0], len(signs), c.text)
		}
	}
	// The fence's own sign, and the other one.
	for _, s := range []string{"```a`", "``` `", "``` ```", "```a`b", "```\t`", "```\n`", "``` \\`", "```\\`", "````a`", "```` ```", "``` a ``", "```go```", "``` &#96;`", "```a`" + strings.Repeat("a", 80), "```~`"} {
		checkNoFence(t, s)
	}
	checkFence(t, "~~~a~", '~', 3, "a~")
	checkFence(t, "~~~ ~", '~', 3, "~")
	checkFence(t, "~~~ ~~~", '~', 3, "~~~")
	checkFence(t, "~~~\\~", '~', 3, "~")
	checkFence(t, "~~~ a ``` b", '~', 3, "a ``` b")
	checkFence(t, "~~~`", '~', 3, "`")
	checkFence(t, "~~~~```", '~', 4, "```")
	checkFence(t, "```~", '`', 3, "~")
	checkFence(t, "``` ~~~", '`', 3, "~~~")
	checkNoFence(t, "``~")
	checkNoFence(t, "~~`")
	checkNoFence(t, "`~`")
	checkNoFence(t, "` ` `")
	checkNoFence(t, "~ ~ ~")
	checkNoFence(t, "~~ ~")
}

func TestSignsOfFences(t *testing.T) {
	for n, c := range each() {
		for count := range 6 {
			signs := strings.Repeat(c, count)
			if count >= 3 && (n == '`' || n == '~') {
				checkFence(t, signs+" a", byte(n), count, "a")
			} else {
				checkNoFence(t, signs+" a")
			}
		}
		for _, ahead := range []string{"", "`", "``", "```", "````", "~", "~~", "~~~", "~~~ ", "``` ", "```a", "~~~a", "```\\", "~~~\\"} {
			for _, behind := range []string{"", " ", "a", "`", "``", "```", "~", "~~", "~~~", "\t&lt;"} {
				checkFenceAsked(t, ahead+c+behind)
			}
		}
	}
}

func TestFenceEnds(t *testing.T) {
	for _, sign := range []byte{'`', '~'} {
		other := '`' + '~' - sign
		for count := range 12 {
			signs := strings.Repeat(string(rune(sign)), count)
			for n := -3; n < 14; n++ {
				// Of two and less no fence is made, however few are asked for.
				is := count >= n && count >= 3
				for _, blanks := range []string{"", " ", "\t", "   ", " \t\t ", strings.Repeat(" ", 80)} {
					checkFenceEnd(t, signs+blanks, sign, n, is)
					checkFenceEnd(t, signs+blanks, other, n, false)
				}
				for _, text := range []string{"a", " a", "\ta", " a ", "\\", "\n", "\r", "\x00", "\xff", "\u00a0", "\v", " \n", " " + string(rune(sign)), "\t" + signs + "a", string(rune(other)), " " + string(rune(other)) + " ", "&#32;", "#", "-"} {
					checkFenceEnd(t, signs+text, sign, n, false)
				}
				if count > 0 {
					for _, ahead := range []string{" ", "\t", "a", "\\", "\n", string(rune(other))} {
						checkFenceEnd(t, ahead+signs, sign, n, false)
					}
				}
			}
			for _, n := range []int{math.MinInt, math.MinInt + 1, -1 << 31, -1 << 32} {
				checkFenceEnd(t, signs, sign, n, count >= 3)
			}
			for _, n := range []int{math.MaxInt, math.MaxInt - 1, 1 << 31, 1 << 32} {
				checkFenceEnd(t, signs, sign, n, false)
			}
		}
		long := strings.Repeat(string(rune(sign)), many)
		checkFenceEnd(t, long, sign, many, true)
		checkFenceEnd(t, long, sign, many+1, false)
		checkFenceEnd(t, long+long, sign, many, true)
		checkFenceEnd(t, long+strings.Repeat(" \t", many), sign, many, true)
		checkFenceEnd(t, long+strings.Repeat(" \t", many)+"a", sign, many, false)
	}
	checkFenceEnd(t, "~~~~ ", '~', 3, true)
	checkFenceEnd(t, "~~~ x", '~', 3, false)
}

// The chapter binds the sign to none: any three of it are three.
func TestFenceEndsOfAnySign(t *testing.T) {
	for n, c := range each() {
		for count := range 6 {
			signs := strings.Repeat(c, count)
			for length := -1; length < 7; length++ {
				for _, behind := range []string{"", " ", "\t", " \t", "x", " x", "\n", "`", "~", "\xff"} {
					checkFenceEnd(t, signs+behind, byte(n), length, fenceEndAsked(signs+behind, byte(n), length))
				}
			}
		}
		for d := range 256 {
			checkFenceEnd(t, c+c+c, byte(d), 3, n == d)
		}
	}
}

// P8.2: HTML

// mixedCase tells s with every second letter great, from the first or the second one on.
func mixedCase(s string, from int) string {
	b := []byte(s)
	for i := from; i < len(b); i += 2 {
		b[i] = strings.ToUpper(s)[i]
	}
	return string(b)
}

// sizes tells s in small and in great letters, and in both.
func sizes(s string) []string {
	return []string{s, strings.ToUpper(s), mixedCase(s, 0), mixedCase(s, 1)}
}

func TestKinds(t *testing.T) {
	for _, c := range []struct {
		s    string
		kind int
	}{
		{"<!--", 2}, {"<!-->", 2}, {"<!--->", 2}, {"<!---", 2}, {"<!-- a", 2}, {"<!-- a -->", 2}, {"<!--a-->b", 2}, {"<!--\xff", 2}, {"<!--\n", 2}, {"<!-", 0}, {"<!- -", 0}, {"<! --", 0}, {"<--", 0}, {"< !--", 0}, {"!--", 0}, {" <!--", 0}, {"\t<!--", 0}, {"a<!--", 0}, {"<!\u2014", 0},
		{"<?", 3}, {"<??", 3}, {"<?>", 3}, {"<? ", 3}, {"<?php", 3}, {"<?php echo ?>", 3}, {"<?\x00", 3}, {"<?\xff", 3}, {"< ?", 0}, {"?", 0}, {"<\\?", 0}, {"</?", 0}, {" <?", 0},
		{"<!a", 4}, {"<!z", 4}, {"<!A", 4}, {"<!Z", 4}, {"<!DOCTYPE html>", 4}, {"<!doctype html>", 4}, {"<!D", 4}, {"<!x>", 4}, {"<!CDATA[", 4}, {"<!cdata", 4}, {"<!div>", 4}, {"<!script>", 4}, {"<!a\xff", 4}, {"<!", 0}, {"<!>", 0}, {"<! ", 0}, {"<! a", 0}, {"<!1", 0}, {"<!_a", 0}, {"<!?a", 0}, {"<!!a", 0}, {"<!/a", 0}, {"<!@", 0}, {"<![", 0}, {"<!`", 0}, {"<!{", 0}, {"<!\u00e9", 0}, {"<!\u00c9", 0}, {"<!\u212a", 0}, {"<!\xff", 0}, {"< !a", 0}, {" <!a", 0},
		{"<![CDATA[", 5}, {"<![CDATA[ a", 5}, {"<![CDATA[a]]>", 5}, {"<![CDATA[[", 5}, {"<![CDATA[]]>", 5}, {"<![CDATA[\xff", 5}, {"<![CDATA", 0}, {"<![CDATA ", 0}, {"<![CDATA ]", 0}, {"<! [CDATA[", 0}, {"<![ CDATA[", 0}, {"<[CDATA[", 0}, {"<![CDAT[", 0}, {"<![CDATAS[", 0}, {"<![CDATA(", 0}, {" <![CDATA[", 0},
		{"<![cdata[", 0}, {"<![Cdata[", 0}, {"<![CDATa[", 0}, {"<![cDATA[", 0}, {"<![cdata[ a ]]>", 0},
		{"<", 0}, {"<<", 0}, {"<>", 0}, {"</", 0}, {"</>", 0}, {"< ", 0}, {"<a>", 0}, {"</a>", 0}, {"<b", 0}, {"<span>", 0}, {"<1>", 0}, {"<\n", 0}, {"<\xff", 0}, {"<http://a>", 0}, {"<a@b.c>", 0}, {"<//div>", 0}, {"</ div>", 0}, {"<\u00e9>", 0}, {"&lt;div>", 0}, {"\\<div>", 0},
	} {
		checkHtml(t, c.s, c.kind)
	}
}

func TestNamesOfRawText(t *testing.T) {
	names := strings.Fields(textNames)
	for _, name := range names {
		for _, s := range sizes(name) {
			for _, behind := range []string{"", " ", "\t", ">", "> a", ">>", " a", "\ta", "  >", " />", "\t/>", "><", " \xff", ">\xff"} {
				checkHtml(t, "<"+s+behind, 1)
				checkHtml(t, "</"+s+behind, 0)
				checkHtml(t, "< "+s+behind, 0)
				checkHtml(t, " <"+s+behind, 0)
				checkHtml(t, s+behind, 0)
				checkHtml(t, "<<"+s+behind, 0)
				checkHtml(t, "<\\"+s+behind, 0)
			}
			for _, behind := range append(alongside(), "/", "/>", "/ ", "/>a", "s", "1", "<", "?", "!", "=", "\"", "\n>", "\xff>", "\u00a0>") {
				checkHtml(t, "<"+s+behind, 0)
			}
			for letter := 'a'; letter <= 'z'; letter++ {
				checkHtml(t, "<"+s+string(letter)+">", 0)
				checkHtml(t, "<"+string(letter)+s+">", 0)
			}
			checkHtml(t, "<"+s[1:]+">", 0)
			for _, behind := range []string{"", " ", ">"} {
				// Of pre a p is left, and a block's beginning is HTML too.
				checkHtml(t, "<"+s[:len(s)-1]+behind, 0)
			}
		}
	}
	checkHtml(t, "<p>", 6)
	checkHtml(t, "<prep>", 0)
}

func TestNamesOfBlocks(t *testing.T) {
	names := strings.Fields(blockNames)
	if len(names) != 61 {
		t.Fatalf("there are %d names", len(names))
	}
	for _, name := range names {
		for at, s := range sizes(name) {
			for _, ahead := range []string{"<", "</"} {
				for _, behind := range []string{"", " ", "\t", ">", "/>", "> a", "/> a", " a", "\ta", "  >", " / ", " />", ">>", ">\xff", " \xff", "/>\x00"} {
					checkHtml(t, ahead+s+behind, 6)
					checkHtml(t, " "+ahead+s+behind, 0)
					checkHtml(t, "<"+ahead+s+behind, 0)
					checkHtml(t, ahead+" "+s+behind, 0)
					checkHtml(t, "</"+ahead+s+behind, 0)
				}
				for _, behind := range append(alongside(), "/", "//", "/ ", "/ >", "/a", "/\t>", "//>", "/\xff", "<", "?", "!", "=", "\"", "\n>", "-a>", ":a>", "\xff>", "\u00e9>", "\u00a0>", "\u212a>", "\u017f>") {
					checkHtml(t, ahead+s+behind, 0)
				}
				// One longer, and one shorter: some of these are names as well.
				for _, c := range "abcdefghijklmnopqrstuvwxyz0123456789" {
					for _, s := range []string{name + string(c), string(c) + name} {
						checkHtml(t, ahead+sizes(s)[at]+">", kindOfName(s))
						checkHtml(t, ahead+sizes(s)[at], kindOfName(s))
					}
				}
				for _, s := range []string{name[1:], name[:len(name)-1]} {
					checkHtml(t, ahead+sizes(s)[at]+">", kindOfName(s))
					checkHtml(t, ahead+sizes(s)[at], kindOfName(s))
					checkHtml(t, ahead+sizes(s)[at]+"/>", kindOfName(s))
				}
			}
			checkHtml(t, s, 0)
			checkHtml(t, s+">", 0)
		}
	}
}

// kindOfName tells the kind that an element's beginning of that name is of; 0, if none.
func kindOfName(name string) int {
	switch {
	case slices.Contains(strings.Fields(textNames), name):
		return 1
	case slices.Contains(strings.Fields(blockNames), name):
		return 6
	}
	return 0
}

// Each text of up to three letters and digits is a name, or none; so are those that others take for names.
func TestNamesThereAre(t *testing.T) {
	var signs []string
	for _, c := range "abcdefghijklmnopqrstuvwxyz0123456789" {
		signs = append(signs, string(c))
	}
	found := 0
	for _, s := range texts(3, signs...) {
		kind := kindOfName(s)
		checkHtml(t, "<"+s+">", kind)
		if kind == 6 {
			found++
			checkHtml(t, "</"+s, 6)
		} else {
			checkHtml(t, "</"+s, 0)
		}
	}
	if found != 21 {
		t.Errorf("there are %d short names", found)
	}
	for _, s := range []string{"basefont", "source", "noembed", "noscript", "plaintext", "template", "button", "canvas", "isindex", "map", "object", "output", "picture", "video", "audio", "h0", "h7", "h11", "hgroup", "image", "img", "input", "label", "select", "slot", "span", "style1", "svg", "tt", "xmp", "listing", "marquee", "applet", "meta", "dirs", "menuitems", "bodyy", "tables", "navs", "sections"} {
		for _, s := range sizes(s) {
			checkHtml(t, "<"+s+">", 0)
			checkHtml(t, "</"+s+">", 0)
		}
	}
}

// Letters A to Z count as small ones; other great letters do not, though they have small ones among a to z.
func TestOtherGreatLetters(t *testing.T) {
	for _, s := range []string{"<lin\u212a>", "<LIN\u212a>", "<a\u017fide>", "<trac\u212a", "</\u017fection>", "<\u017fcript>", "<\u017ftyle>", "<t\u0130tle>", "<d\u0131v>", "<\uff50>", "<p\u0301>"} {
		checkHtml(t, s, 0)
	}
	for _, s := range []string{"</\u017fcript>", "</\u017ftyle>", "</\u017fCRIPT>", "</pre\u0301>"} {
		checkHtmlEnd(t, s, 1, false)
	}
}

func TestEachByteInHtml(t *testing.T) {
	for n, c := range each() {
		letter := 'a' <= n && n <= 'z' || 'A' <= n && n <= 'Z'
		declared := 0
		if letter {
			declared = 4
		}
		checkHtml(t, "<!"+c, declared)
		checkHtml(t, "<!"+c+"x", declared)
		checkHtml(t, "<!"+c+">", declared)
		blank := n == ' ' || n == '\t'
		if blank || n == '>' {
			checkHtml(t, "<script"+c, 1)
			checkHtml(t, "<div"+c, 6)
		} else {
			checkHtml(t, "<script"+c, 0)
			checkHtml(t, "<div"+c, 0)
		}
		for _, ahead := range []string{"", "<", "</", "<!", "<!-", "<![", "<![CDATA", "<scrip", "<script", "<SCRIPT", "<pr", "</pre", "<div", "</div", "<di", "<h", "<h1", "<div/", "</P", "<d", "<!a"} {
			for _, behind := range []string{"", ">", "/>", " ", "-", "p", "[", "1>", "x"} {
				checkHtml(t, ahead+c+behind, htmlAsked(ahead+c+behind))
			}
		}
	}
}

func TestHtmlEnds(t *testing.T) {
	for _, c := range []struct {
		kind int
		ends []string
		none []string
	}{
		{1, []string{"</script>", "</pre>", "</style>", "</textarea>"},
			[]string{"", "<script>", "</script", "/script>", "script>", "< /script>", "</ script>", "</script >", "</script\t>", "</script/>", "</scripts>", "</script1>", "</xscript>", "</scrip>", "</scriptscript>", "</p>", "</prep>", "</pre/>", "</pre >", "</textareas>", "</text>", "</area>", "</styles>", "</div>", "</>", "</", "<", "</\n", "</script\n>", "</script\xff>", "</\xffscript>", "<\\/script>", "</script</pre", "</pre\u00a0>"}},
		{2, []string{"-->"}, []string{"", "--", "->", ">", "-- >", "- ->", "--\t>", "--\n>", "--\\>", "--]>", "\u2014>", "--\u00a0>", "--!>", "->-", "?>", "]]>"}},
		{3, []string{"?>"}, []string{"", "?", ">", "? >", ">?", "?\t>", "?\n>", "?\xff>", "->", "-->", "]]>", "\uff1f>"}},
		{4, []string{">"}, []string{"", "<", "-", "?", "]]", "&gt;", "\uff1e", "\u203a", "/", "="}},
		{5, []string{"]]>"}, []string{"", "]]", "]>", ">", "] ]>", "]] >", "]]\t>", "]]\n>", "]]\\>", "]\xff]>", "[[>", "))>", "-->", "?>"}},
	} {
		for _, end := range c.ends {
			for _, s := range sizes(end) {
				// Anywhere in the line.
				for _, ahead := range []string{"", " ", "a", "a ", "\t", "<", "</", "-", "]", "?", "</script", "<pre>", "\xff", "\x00", "\u20ac", end[:len(end)-1], strings.Repeat("x", 80)} {
					for _, behind := range []string{"", " ", "a", " a", ">", "<", "\n", "\xff", "\u20ac", end, strings.Repeat("x", 80)} {
						checkHtmlEnd(t, ahead+s+behind, c.kind, true)
					}
				}
			}
		}
		for _, s := range c.none {
			for _, s := range sizes(s) {
				checkHtmlEnd(t, s, c.kind, false)
				checkHtmlEnd(t, "a "+s, c.kind, false)
				checkHtmlEnd(t, s+" a", c.kind, false)
				checkHtmlEnd(t, "\u20ac"+s+"\xff", c.kind, false)
			}
		}
	}
}

func TestKindsThereAreNot(t *testing.T) {
	all := "</script></pre></style></textarea>-->?>>]]></div>"
	for kind := -300; kind < 600; kind++ {
		checkHtmlEnd(t, all, kind, 1 <= kind && kind <= 5)
	}
	for _, kind := range []int{math.MinInt, math.MinInt + 1, -1 << 32, 1<<32 + 1, 1<<32 + 2, 1<<16 + 1, 257, 258, math.MaxInt - 1, math.MaxInt} {
		checkHtmlEnd(t, all, kind, false)
		checkHtmlEnd(t, "", kind, false)
	}
	for _, end := range []string{"-->", ">", "</div>", "</p>", "?>", "]]>", "</script>", "", " "} {
		checkHtmlEnd(t, end, 6, false)
		checkHtmlEnd(t, end, 7, false)
		checkHtmlEnd(t, end, 0, false)
	}
}

func TestEachByteInAnEnd(t *testing.T) {
	for _, c := range each() {
		for _, s := range []string{"x</script>", "</xscript>", "</scriptx>", "</script>x", "x-->", "-x->", "--x>", "-->x", "x?>", "?x>", "?>x", "x>", ">x", "x]]>", "]x]>", "]]x>", "]]>x", "</prx>", "<xpre>", "xpre>", "</prex", "--x", "]]x", "?x"} {
			s = ofSign(s, c)
			for kind := range 8 {
				checkHtmlEnd(t, s, kind, htmlEndAsked(s, kind))
			}
		}
	}
}

// P8.3

func TestFencesEndThoseThatAreNotLonger(t *testing.T) {
	for _, sign := range []string{"`", "~"} {
		for begun := 3; begun < 30; begun++ {
			for _, info := range []string{"", " ", " go", "a b\t", " &amp;"} {
				c, n, _ := mark.Fence(strings.Repeat(sign, begun) + info)
				for ending := 3; ending < 30; ending++ {
					for _, blanks := range []string{"", " ", "\t  "} {
						s := strings.Repeat(sign, ending) + blanks
						checkFenceEnd(t, s, c, n, ending >= begun)
					}
				}
			}
		}
	}
}

// A fence without a text ends itself, and just the fences of its sign that aren't longer; one with a text ends none.
func TestFencesOfShortTexts(t *testing.T) {
	l := texts(6, "`", "~", " ", "\t", "a")
	for _, s := range l {
		c, n, _ := mark.Fence(s)
		if n == 0 {
			continue
		}
		alone := strings.Trim(s[n:], " \t") == ""
		for count := range 10 {
			checkFenceEnd(t, s, c, count, alone && count <= n)
			checkFenceEnd(t, s, '`'+'~'-c, count, false)
		}
	}
	for _, s := range l {
		c, n, _ := mark.Fence(s)
		for _, end := range l[:min(len(l), 800)] {
			d, m, text := mark.Fence(end)
			if n > 0 && m > 0 {
				checkFenceEnd(t, end, c, n, c == d && m >= n && text == "")
			}
		}
	}
}

// All of them, held against the other way.

func TestShortRulesAndUnders(t *testing.T) {
	for _, s := range texts(6, "*", "_", "-", "=", " ", "\t", "a") {
		checkRuleAsked(t, s)
		checkUnderAsked(t, s)
	}
}

func TestShortHeadings(t *testing.T) {
	for _, s := range texts(6, "#", " ", "\t", "a", "\n", "\\", "\xff") {
		checkHeadingAsked(t, s)
	}
	for _, s := range texts(4, "#", "##", " ", "\t", "a", "\n", "\u20ac") {
		for _, ahead := range []string{"# ", "#####", "######", "#######", "## a", "# a ", "###### #"} {
			checkHeadingAsked(t, ahead+s)
		}
	}
}

func TestShortFences(t *testing.T) {
	for _, s := range texts(5, "`", "~", " ", "\t", "a", "\\", "&lt;", "\n") {
		checkFenceAsked(t, s)
		checkFenceEndAsked(t, s)
		checkFenceAsked(t, "```"+s)
		checkFenceAsked(t, "~~"+s)
	}
}

func TestShortItems(t *testing.T) {
	for _, s := range texts(5, "-", "+", "*", "0", "1", "9", ".", ")", " ", "a") {
		checkListAsked(t, s)
	}
	for _, s := range texts(4, "-", "0", "7", ".", ")", " ", "\t", "a", "\xff") {
		checkListAsked(t, "1234567"+s)
		checkListAsked(t, "0"+s)
	}
}

func TestShortHtml(t *testing.T) {
	for _, s := range texts(4, "<", "/", "!", "?", "-", "[", "]", "CDATA", "script", "Pre", "p", "h1", ">", " ", "X") {
		checkHtmlAsked(t, s)
	}
	for _, s := range texts(3, "/", "!", "-", "--", "[CDATA[", "[cdata[", "style", "TextArea", "Td", "t", "able", "\t", ">", "1", "\u00e9", "\xff", "\u212a") {
		checkHtmlAsked(t, "<"+s)
		checkHtmlAsked(t, "</"+s)
	}
}

func TestMixed(t *testing.T) {
	for _, s := range mixed(30000) {
		checkAsked(t, s)
	}
}

func TestEachPairOfBytes(t *testing.T) {
	for _, c := range each() {
		for _, d := range each() {
			s := c + d
			checkHeadingAsked(t, s)
			checkUnderAsked(t, s)
			checkListAsked(t, s)
			checkHtml(t, s, htmlAsked(s))
			checkRule(t, s, false)
			checkNoFence(t, s)
		}
	}
}

func TestLongLines(t *testing.T) {
	for _, c := range []string{"a", "A", "#", "`", "~", "-", "=", "*", " ", "\t", "1", "<", ">", "/", "</", "<!", "</script", "</pre ", "<p", "--", "]", " ?", "&", "&#0", "\\", "\xff", "\u20ac", "# ", "#a", " #", "a #"} {
		long := strings.Repeat(c, many/8)
		if mark.Rule("***"+long+"a") || mark.Under("==="+long+"a") > 0 || mark.Html("<"+long) > 0 || mark.Html("</"+long) > 0 {
			t.Errorf("many %q are taken for something", c)
		}
		if mark.HtmlEnd(long, 1) || mark.HtmlEnd(long, 5) || !mark.HtmlEnd(long+"</STYLE>", 1) || !mark.HtmlEnd(long+"]]>", 5) {
			t.Errorf("many %q end, or hide an end", c)
		}
		if n, text := mark.Heading("# a" + long + "b"); n != 1 || text != "a"+long+"b" {
			t.Errorf("a heading of many %q has %d, %q", c, n, cut(text))
		}
		if sign, ok := mark.List("12. " + long); !ok || sign.Width != 3 {
			t.Errorf("an item of many %q has the mark %v", c, sign)
		}
	}
	checkHeading(t, "# a "+strings.Repeat("#", many), 1, "a")
	checkHeading(t, "# a"+strings.Repeat("#", many), 1, "a"+strings.Repeat("#", many))
	checkHeading(t, "# a"+strings.Repeat(" ", many)+"#", 1, "a")
	checkHeading(t, "# "+strings.Repeat("# ", many)+"#", 1, strings.Repeat("# ", many-1)+"#")
	checkHeading(t, strings.Repeat("#", many), 0, "")
	checkFence(t, strings.Repeat("`", many), '`', many, "")
	checkFence(t, strings.Repeat("~", many)+"&lt;", '~', many, "<")
	checkFence(t, "~~~a"+strings.Repeat(" a", many), '~', 3, "a"+strings.Repeat(" a", many))
	checkFence(t, "```"+strings.Repeat("&amp;", many), '`', 3, strings.Repeat("&", many))
	checkNoFence(t, "```"+strings.Repeat("a", many)+"`")
}

// The rules that hold everywhere: an answer shares no memory with an argument, which stays as it is.

func shares(a, b string) bool {
	if a == "" || b == "" {
		return false
	}
	from, other := uintptr(unsafe.Pointer(unsafe.StringData(a))), uintptr(unsafe.Pointer(unsafe.StringData(b)))
	return from < other+uintptr(len(b)) && other < from+uintptr(len(a))
}

func TestAnswersAreNewMemory(t *testing.T) {
	for _, s := range []string{"# a", "# a b", "## a ##", "#\ta\t", "# a#", "###### abc #", "```go", "~~~ go ~", "``` a\\*b &lt;", "~~~ \xff", "- a", "12) a", "<div>", "</SCRIPT>", "<![CDATA[", "***", "==="} {
		b := []byte(s)
		text := unsafe.String(&b[0], len(b))
		if _, told := mark.Heading(text); shares(told, text) {
			t.Errorf("Heading(%q) shares memory with it", s)
		}
		if _, _, told := mark.Fence(text); shares(told, text) {
			t.Errorf("Fence(%q) shares memory with it", s)
		}
		mark.Rule(text)
		mark.Under(text)
		mark.FenceEnd(text, '~', 3)
		mark.List(text)
		mark.Html(text)
		for kind := range 8 {
			mark.HtmlEnd(text, kind)
		}
		if string(b) != s {
			t.Errorf("%q is changed", s)
		}
	}
	if s := "abc"; !shares(s[1:], s) || shares(s, strings.Clone(s)) {
		t.Error("shares doesn't tell what shares memory")
	}
}

// A call hangs on its arguments alone: asked in between, and again, it answers the same.
func TestCallsHangOnTheirArguments(t *testing.T) {
	l := mixed(500)
	for range 2 {
		for i := range l {
			checkAsked(t, l[i])
			checkAsked(t, l[len(l)-1-i])
		}
	}
}

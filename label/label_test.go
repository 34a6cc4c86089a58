package label_test

import (
	"regexp"
	"slices"
	"strings"
	"testing"
	"unicode/utf8"
	"unsafe"

	"compositor/api"
	"compositor/label"
	"compositor/target"
)

const (
	many        = 1 << 20
	longest     = 999
	lost        = "\ufffd"
	punctuation = "!\"#$%&'()*+,-./:;<=>?@[\\]^_`{|}~"
	great       = "ABCDEFGHIJKLMNOPQRSTUVWXYZ\u00c0\u00c1\u00c2\u00c3\u00c4\u00c5\u00c6\u00c7\u00c8\u00c9\u00ca\u00cb\u00cc\u00cd\u00ce\u00cf\u00d0\u00d1\u00d2\u00d3\u00d4\u00d5\u00d6\u00d8\u00d9\u00da\u00db\u00dc\u00dd\u00de"
	small       = "abcdefghijklmnopqrstuvwxyz\u00e0\u00e1\u00e2\u00e3\u00e4\u00e5\u00e6\u00e7\u00e8\u00e9\u00ea\u00eb\u00ec\u00ed\u00ee\u00ef\u00f0\u00f1\u00f2\u00f3\u00f4\u00f5\u00f6\u00f8\u00f9\u00fa\u00fb\u00fc\u00fd\u00fe"
)

// What the chapter asks, in other ways: behind a \ a sign is taken for a letter, letters stand in two lists.

var (
	hiddenAsk = regexp.MustCompile("\\\\[!-/:-@[-`{-~]")
	labelAsk  = regexp.MustCompile(`^\[[^\[\]]*\]`)
	otherAsk  = regexp.MustCompile(`[^ \t\n]`)
	gapAsk    = regexp.MustCompile(`[ \t\n]+`)
	colonAsk  = regexp.MustCompile(`^:[ \t]*(?:\n[ \t]*)?`)
	aheadAsk  = regexp.MustCompile(`^(?:[ \t]+(?:\n[ \t]*)?|\n[ \t]*)`)
	endAsk    = regexp.MustCompile(`^[ \t]*(?:\n|\z)`)
)

func labelAsked(s string) (string, int) {
	n := len(labelAsk.FindString(hiddenAsk.ReplaceAllString(s, "xx")))
	if n == 0 || n-2 > longest || !otherAsk.MatchString(s[1:n-1]) {
		return "", 0
	}
	return s[1 : n-1], n
}

func normalAsked(s string) string {
	l := []rune(strings.Trim(gapAsk.ReplaceAllString(string([]rune(s)), " "), " "))
	for i, r := range l {
		if at := slices.Index([]rune(great), r); at >= 0 {
			l[i] = []rune(small)[at]
		}
	}
	return string(l)
}

// endAsked tells how many bytes the rest of a line has, and whether nothing but blanks and tabs stands there.
func endAsked(s string) (int, bool) {
	at := endAsk.FindStringIndex(s)
	if at == nil {
		return 0, false
	}
	return at[1], true
}

func defineAsked(s string) (api.Ref, int) {
	name, n := labelAsked(s)
	colon := len(colonAsk.FindString(s[n:]))
	if n == 0 || colon == 0 {
		return api.Ref{}, 0
	}
	n += colon
	dest, bytes, _ := target.Dest(s[n:])
	if bytes == 0 {
		return api.Ref{}, 0
	}
	n += bytes
	gap := len(aheadAsk.FindString(s[n:]))
	title, bytes := target.Title(s[n+gap:])
	if end, ok := endAsked(s[n+gap+bytes:]); ok && gap > 0 && bytes > 0 {
		return api.Ref{Label: normalAsked(name), Dest: dest, Title: title}, n + gap + bytes + end
	}
	if end, ok := endAsked(s[n:]); ok {
		return api.Ref{Label: normalAsked(name), Dest: dest}, n + end
	}
	return api.Ref{}, 0
}

func definedAsked(s string) ([]api.Ref, string) {
	ref, n := defineAsked(s)
	if n == 0 {
		return nil, s
	}
	l, rest := definedAsked(s[n:])
	return append([]api.Ref{ref}, l...), rest
}

func findAsked(l []api.Ref, name string) (api.Ref, bool) {
	at := slices.IndexFunc(l, func(r api.Ref) bool { return r.Label == normalAsked(name) })
	if at < 0 {
		return api.Ref{}, false
	}
	return l[at], true
}

// Texts.

// texts tells all texts of at most so many of these pieces.
func texts(count int, pieces ...string) []string {
	all := []string{""}
	last := all
	for range count {
		var next []string
		for _, s := range last {
			for _, p := range pieces {
				next = append(next, s+p)
			}
		}
		all = append(all, next...)
		last = next
	}
	return all
}

// mixed tells texts of fewer than 16 pieces, the same ones at each call.
func mixed(count int) []string {
	pieces := []string{
		"[", "]", "[", "]", ":", ":", " ", " ", " ", "\t", "\n", "\n", "\n", "\n\n", " \n ", "\r", "\\", "\\", "\\\\", "\\[", "\\]", "\\a", "\\\n",
		"a", "b", "B", "Foo  Bar", "[a]", "[A ]", "[b]: ", "[a]: /u\n", "[c]:\n<d>\n't'\n", "]: ", "]: /u", "/u", "<d e>", "<>", "<", ">", "\"t\"", "'t'", "(t)", "\"", "'", "(", ")", "'t\nu'",
		"&amp;", "&#93;", "&copy;", "&nope;", "*", "!", "\x00", "\x7f",
		"\u00bf", "\u00c0", "\u00d6", "\u00d7", "\u00d8", "\u00de", "\u00df", "\u00e9", "\u20ac", "\U0001f600", "\u00a0", "\u0130", "\u0391", "\x80", "\xa0", "\xff", "\xc3", "\xe2\x82",
	}
	state := uint64(20261120)
	next := func(below int) int {
		state = state*6364136223846793005 + 1442695040888963407
		return int(state>>33) % below
	}
	begins := []string{"", "[", "[", "[a]: ", "[a]: /u ", "[a]: /u\n", "[a]: /u 't'", "[a]: <d>\n'", "[\u00c4 b]:"}
	l := make([]string, count)
	for i := range l {
		l[i] = begins[next(len(begins))]
		for range next(16) {
			l[i] += pieces[next(len(pieces))]
		}
	}
	return l
}

// each is every byte as a text.
func each() []string {
	l := make([]string, 256)
	for n := range l {
		l[n] = string([]byte{byte(n)})
	}
	return l
}

// behind are texts that may stand behind anything that has an end of its own.
func behind() []string {
	return []string{"", "a", " ", "\n", "\n\n", "\t", "\\", "]", "[", "[b]", ":", ": /u", "(/u)", "[]", "&amp;", "\x00", "\xff", "\u20ac", "\xe2\x82"}
}

// after are texts that may stand behind the LF that ends a definition, but no title.
func after() []string {
	return []string{"", "a", " ", "\n", "\n\n", "\t", "\n't'", " \n't'", "\n\"t\"\n", "\\", "]", "[b]: c\n", ":", "&amp;", "\x00", "\xff", "\u20ac", "'t", "\"t", "(t", "'t' u", "(t)u", "'t\n\nu'", "\\'t'", "x 't'", "/u"}
}

// Checks, which hold what the test asks against what the chapter asks in the other way, too.

// cut tells the beginning of a long text.
func cut(s string) string {
	return s[:min(len(s), 80)]
}

func checkLabel(t *testing.T, s, want string, bytes int) {
	t.Helper()
	if text, n := label.Label(s); text != want || n != bytes {
		t.Errorf("Label(%q) is %q, %d, asked is %q, %d", cut(s), cut(text), n, cut(want), bytes)
	}
	if text, n := labelAsked(s); text != want || n != bytes {
		t.Errorf("of %q both %q, %d and %q, %d are asked", cut(s), cut(want), bytes, cut(text), n)
	}
}

func checkNoLabel(t *testing.T, s string) {
	t.Helper()
	checkLabel(t, s, "", 0)
}

// checkWholeLabel asks for the label of all of inside, whatever stands behind it, and of no less.
func checkWholeLabel(t *testing.T, inside string) {
	t.Helper()
	s := "[" + inside + "]"
	for _, more := range behind() {
		checkLabel(t, s+more, inside, len(s))
	}
	for n := range len(s) {
		checkNoLabel(t, s[:n])
	}
	checkNoLabel(t, s[1:])
	checkNoLabel(t, " "+s)
	checkNoLabel(t, "\\"+s)
}

func checkNormal(t *testing.T, s, want string) {
	t.Helper()
	if text := label.Normal(s); text != want {
		t.Errorf("Normal(%q) is %q, asked is %q", cut(s), cut(text), cut(want))
	}
	if text := normalAsked(s); text != want {
		t.Errorf("of %q both %q and %q are asked", cut(s), cut(want), cut(text))
	}
}

func checkDefine(t *testing.T, s string, want api.Ref, bytes int) {
	t.Helper()
	if ref, n := label.Define(s); ref != want || n != bytes {
		t.Errorf("Define(%q) is %q, %d, asked is %q, %d", cut(s), ref, n, want, bytes)
	}
	if ref, n := defineAsked(s); ref != want || n != bytes {
		t.Errorf("of %q both %q, %d and %q, %d are asked", cut(s), want, bytes, ref, n)
	}
}

func checkNoDefine(t *testing.T, s string) {
	t.Helper()
	checkDefine(t, s, api.Ref{}, 0)
}

// checkEnds asks for the definition s at a text's end, and ahead of an LF, with blanks and tabs ahead of both, whatever comes in the next line.
func checkEnds(t *testing.T, s string, ref api.Ref) {
	t.Helper()
	for _, gap := range []string{"", " ", "\t", "   ", " \t "} {
		checkDefine(t, s+gap, ref, len(s+gap))
		for _, more := range after() {
			checkDefine(t, s+gap+"\n"+more, ref, len(s+gap)+1)
		}
	}
}

func checkDefined(t *testing.T, s string, want []api.Ref, behind string) {
	t.Helper()
	if l, rest := label.Defined(s); !slices.Equal(l, want) || rest != behind {
		t.Errorf("Defined(%q) are %q, %q, asked are %q, %q", cut(s), l, cut(rest), want, cut(behind))
	}
	if l, rest := definedAsked(s); !slices.Equal(l, want) || rest != behind {
		t.Errorf("of %q both %q, %q and %q, %q are asked", cut(s), want, cut(behind), l, cut(rest))
	}
}

func checkFind(t *testing.T, l []api.Ref, name string, want api.Ref, is bool) {
	t.Helper()
	if ref, ok := label.Find(l, name); ref != want || ok != is {
		t.Errorf("Find(%q, %q) is %q, %v, asked is %q, %v", l, cut(name), ref, ok, want, is)
	}
	if ref, ok := findAsked(l, name); ref != want || ok != is {
		t.Errorf("in %q of %q both %q, %v and %q, %v are asked", l, cut(name), want, is, ref, ok)
	}
}

func checkNotFound(t *testing.T, l []api.Ref, name string) {
	t.Helper()
	checkFind(t, l, name, api.Ref{}, false)
}

func checkAsked(t *testing.T, s string) {
	t.Helper()
	text, n := labelAsked(s)
	checkLabel(t, s, text, n)
	checkNormal(t, s, normalAsked(s))
	ref, n := defineAsked(s)
	checkDefine(t, s, ref, n)
	l, rest := definedAsked(s)
	checkDefined(t, s, l, rest)
}

// P10.1: labels.

func TestLabels(t *testing.T) {
	for _, inside := range []string{
		"a", "ab", "Foo  Bar", "a b", " a", "a ", " a ", "\ta\t", "\na\n", " \t\n a \n\t ", "a\nb", "a\n\nb", "\n\na", "a\r\nb", "1", ".", "!", "^a", "a:b", ":", "(", ")", "()", "<>", "<a>", "`", "\"", "'", "*a*", "_",
		`\]`, `\[`, `a\]b`, `a\[b`, `\]\]`, `\[\]`, `\[a\]`, `\\`, `a\\`, `\\a`, `\\\]`, `a\\\[b`, `\\\\`, `\\\\\]`, `\a`, `a\b`, `\*`, `\ `, "\\\n", "\\\t", ` \\`, `a\ b`, `\:`, `\!`, `\a\]`, `\]a`, `\[ `, ` \] `,
		"&amp;", "&#91;", "&#93;", "&", "&nope;", "\x00", "\x1f", "\x7f", "\r", "\v", "\f",
		"\u00e9", "\u00c4\u00d6", "\u20ac", "\U0001f600", "\u00a0", "\u2003", "\ufeff", "\uff3d", "\ufffd", "\x80", "\xff", "\xff\xfe", "\xc3", "\xe2\x82", "a\xffb", "\xa0", "\x85", "\\\xff", "\\\u00e9", "\xed\xa0\x80", "\xf4\x90\x80\x80",
	} {
		checkWholeLabel(t, inside)
	}
}

func TestNoLabels(t *testing.T) {
	for _, s := range []string{
		"", " ", "\t", "\n", "   ", "a", "]", "]a[", "a]", "a[b]", " [a]", "\t[a]", "\n[a]", "![a]", "\\[a]", "(a)", "<a>", "{a}", "&#91;a]", "\uff3ba]", "\x00[a]", "\xff", "\x80[a]", "\xe2\x82", "\ufeff[a]", ":", ": /u",
		"[", "[ ", "[a", "[a\n", "[a b", "[a\\]", "[\\]", "[\\", "[a\\", "[\\\\\\]", "[a\\\\\\]", "[a\\]b\\]", "[&#93;", "[a\uff3d", "[\xff", "[a\xe2\x82", "[a)", "[a}",
		"[]", "[ ]", "[\t]", "[\n]", "[   ]", "[\t\t]", "[\n\n]", "[ \t\n ]", "[]]", "[]a]", "[ ]a]", "[][a]", "[ ][a]", "[]:", "[]: /u", "[ ]: /u",
		"[[", "[[]", "[[]]", "[[a]", "[[a]]", "[a[b]", "[a[b]]", "[a[]", "[a[", "[ [a]", "[a [b] c]", "[\\[[a]", "[\\\\[a]", "[a\\\\[b]", "[\\\\[]", "[\\a[b]", "[![a]",
	} {
		checkNoLabel(t, s)
	}
}

func TestEachByteInALabel(t *testing.T) {
	for _, c := range each() {
		if c != "[" {
			checkNoLabel(t, c)
			checkNoLabel(t, c+"a]")
		}
		if c != "]" {
			checkNoLabel(t, "[a"+c)
		}
		sign := strings.Contains(punctuation, c)
		switch c {
		case " ", "\t", "\n":
			checkNoLabel(t, "["+c+"]")
			checkWholeLabel(t, c+"a"+c)
			checkWholeLabel(t, "\\"+c)
		case "[":
			checkNoLabel(t, "["+c+"]")
			checkNoLabel(t, "[a"+c+"b]")
		case "]":
			checkNoLabel(t, "["+c+"]")
			checkLabel(t, "[a"+c+"b]", "a", 3)
		case "\\":
			checkNoLabel(t, "["+c+"]")
			checkLabel(t, "["+c+"]]", "\\]", 4)
		default:
			checkWholeLabel(t, c)
			checkWholeLabel(t, "a"+c+"b")
			checkWholeLabel(t, "\\"+c)
			// A sign that is hidden itself hides nothing, nor does any other.
			checkLabel(t, "[\\"+c+"]]", "\\"+c, 4)
			checkNoLabel(t, "[\\"+c+"[]]")
		}
		if sign {
			checkWholeLabel(t, "\\"+c)
			checkWholeLabel(t, "\\"+c+"\\"+c)
		}
	}
}

func TestLongestLabels(t *testing.T) {
	for _, r := range []string{"a", "\u00e9", "\u20ac", "\U0001f600", "\xff", "\\]", "\\[", "\\\\", "\\a", "\\\u20ac", " a", "\n"} {
		most := longest / len(r)
		for n := most - 2; n <= most+2; n++ {
			for filled := longest - 2; filled <= longest+2; filled++ {
				inside := strings.Repeat(r, n)
				if len(inside) > filled {
					continue
				}
				left := strings.Repeat("b", filled-len(inside))
				for _, text := range []string{inside + left, left + inside} {
					s := "[" + text + "]"
					if len(text) > longest || strings.Trim(text, "\n") == "" {
						checkNoLabel(t, s)
						checkNoLabel(t, s+"]")
						checkNoDefine(t, s+": /u")
						continue
					}
					checkLabel(t, s, text, len(text)+2)
					checkLabel(t, s+"x]", text, len(text)+2)
					checkDefine(t, s+": /u", api.Ref{Label: normalAsked(text), Dest: "/u"}, len(text)+6)
				}
			}
		}
	}
	for n := 990; n < 1010; n++ {
		rune4 := strings.Repeat("a", n) + "\U0001f600"
		text, bytes := labelAsked("[" + rune4 + "]")
		checkLabel(t, "["+rune4+"]", text, bytes)
		blanks := strings.Repeat(" ", n)
		checkNoLabel(t, "["+blanks+"]")
		text, bytes = labelAsked("[" + blanks + "a]")
		checkLabel(t, "["+blanks+"a]", text, bytes)
		text, bytes = labelAsked("[a" + blanks + "]")
		checkLabel(t, "[a"+blanks+"]", text, bytes)
	}
	if longest != api.MaxLabel {
		t.Error("the most bytes of a label are others")
	}
}

func TestShortLabels(t *testing.T) {
	for _, s := range texts(7, "[", "]", "\\", "a", " ") {
		text, n := labelAsked(s)
		checkLabel(t, s, text, n)
	}
	for _, s := range texts(5, "]", "\\", "\n", "\t", "\xc3", "\xa9", ":") {
		text, n := labelAsked("[" + s)
		checkLabel(t, "["+s, text, n)
	}
}

// P10.1: labels as they are looked for.

func TestNormal(t *testing.T) {
	for _, c := range []struct{ s, want string }{
		{"", ""}, {" ", ""}, {"\t", ""}, {"\n", ""}, {"   ", ""}, {"\t\t", ""}, {"\n\n", ""}, {" \t\n ", ""}, {"\n \t", ""},
		{"a", "a"}, {" a", "a"}, {"a ", "a"}, {" a ", "a"}, {"\ta\t", "a"}, {"\na\n", "a"}, {"  \t\n a \n\n\t ", "a"},
		{"a b", "a b"}, {"a\tb", "a b"}, {"a\nb", "a b"}, {"a  b", "a b"}, {"a\t\tb", "a b"}, {"a\n\nb", "a b"}, {"a \t\n b", "a b"}, {"a\n b", "a b"}, {"a b c", "a b c"}, {"a  b\n\nc\t\td", "a b c d"}, {" a\n b ", "a b"}, {"ab c", "ab c"},
		{"A", "a"}, {"Z", "z"}, {"aA", "aa"}, {"Foo  Bar", "foo bar"}, {"ABCDEFGHIJKLMNOPQRSTUVWXYZ", "abcdefghijklmnopqrstuvwxyz"}, {"abcdefghijklmnopqrstuvwxyz", "abcdefghijklmnopqrstuvwxyz"}, {"@AZ[", "@az["}, {"`az{", "`az{"}, {"0123456789", "0123456789"}, {punctuation, punctuation},
		{great, small}, {small, small}, {"\u00bf", "\u00bf"}, {"\u00c0", "\u00e0"}, {"\u00d6", "\u00f6"}, {"\u00d7", "\u00d7"}, {"\u00d8", "\u00f8"}, {"\u00de", "\u00fe"}, {"\u00df", "\u00df"}, {"\u00f7", "\u00f7"}, {"\u00ff", "\u00ff"}, {"\u00c4  X\n", "\u00e4 x"},
		{"\u0100", "\u0100"}, {"\u0130", "\u0130"}, {"\u0178", "\u0178"}, {"\u0391", "\u0391"}, {"\u0410", "\u0410"}, {"\u1e9e", "\u1e9e"}, {"\u212a", "\u212a"}, {"\u20ac", "\u20ac"}, {"\U0001f600", "\U0001f600"}, {"\U0010ffff", "\U0010ffff"}, {"\uff21", "\uff21"},
		{"\u00a0a\u00a0", "\u00a0a\u00a0"}, {"a\u2003 b", "a\u2003 b"}, {"a\r b", "a\r b"}, {"\ra\r", "\ra\r"}, {"a\v\fb", "a\v\fb"}, {"\u0085", "\u0085"}, {"\u3000", "\u3000"}, {"\ufeffa", "\ufeffa"}, {"\x00A\x1f\x7f", "\x00a\x1f\x7f"},
		{`\A`, `\a`}, {`\]`, `\]`}, {`a\ B`, `a\ b`}, {`\ `, `\`}, {`\\`, `\\`}, {`\*`, `\*`}, {"&AMP;", "&amp;"}, {"&#32;", "&#32;"}, {"&Ouml;", "&ouml;"},
		{"\xff", lost}, {"\xff\xfe", lost + lost}, {"a\xff\xffB", "a" + lost + lost + "b"}, {"\xc3", lost}, {"\xc3 \x84", lost + " " + lost}, {"\xe2\x82", lost + lost}, {"\x80", lost}, {"\xa0a\xa0", lost + "a" + lost}, {"\xc4", lost}, {"\xed\xa0\x80", lost + lost + lost}, {"\xf4\x90\x80\x80", lost + lost + lost + lost}, {"\xc0\x80", lost + lost}, {" \xff ", lost}, {"\xff \t\xff", lost + " " + lost}, {lost, lost}, {"\xef\xbf", lost + lost},
	} {
		checkNormal(t, c.s, c.want)
		checkNormal(t, c.want, c.want)
	}
}

func TestEachRuneAsItIsLookedFor(t *testing.T) {
	for r := rune(0); r <= utf8.MaxRune; r++ {
		if r > 0x3000 && r%61 != 0 && r < 0xd700 || r > 0xe100 && r%61 != 0 && r < 0xff00 || r > 0x10100 && r%61 != 0 {
			continue
		}
		want := string(r)
		switch {
		case r >= 'A' && r <= 'Z':
			want = string(r - 'A' + 'a')
		case r >= 192 && r <= 214, r >= 216 && r <= 222:
			want = string(r - '\u00c0' + '\u00e0')
		case r == ' ', r == '\t', r == '\n':
			if got := label.Normal("x" + string(r) + "x"); got != "x x" {
				t.Errorf("x, %d and x are told as %q", r, got)
			}
			want = ""
		}
		if got := label.Normal(string(r)); got != want {
			t.Errorf("%d is told as %q, asked is %q", r, got, want)
		}
		if want != "" && label.Normal(" a\n"+string(r)+"\t\tB ") != "a "+want+" b" {
			t.Errorf("%d within a label is told otherwise", r)
		}
	}
}

func TestEachByteAsItIsLookedFor(t *testing.T) {
	for i, c := range each() {
		for j := 0; j < 256; j += 3 {
			s := c + string([]byte{byte(j)})
			checkNormal(t, s, normalAsked(s))
			checkNormal(t, "a"+s+"B", normalAsked("a"+s+"B"))
		}
		if i >= 0x80 {
			checkNormal(t, c, lost)
			checkNormal(t, " "+c+c+"A", lost+lost+"a")
		}
	}
}

func TestShortNormal(t *testing.T) {
	for _, s := range texts(6, " ", "\t", "\n", "a", "B", "\xc3") {
		checkNormal(t, s, normalAsked(s))
	}
}

// P10.2: definitions.

func TestDefine(t *testing.T) {
	for _, c := range []struct{ s, name, dest, title string }{
		{"[a]: b", "a", "b", ""}, {"[a]:b", "a", "b", ""}, {"[a]:  b", "a", "b", ""}, {"[a]:\tb", "a", "b", ""}, {"[a]: \t b", "a", "b", ""}, {"[a]:\nb", "a", "b", ""}, {"[a]: \nb", "a", "b", ""}, {"[a]:\n b", "a", "b", ""}, {"[a]:\t\n\tb", "a", "b", ""}, {"[a]:   \n   b", "a", "b", ""},
		{"[Foo  Bar]: /u 't'", "foo bar", "/u", "t"}, {"[ A\nB ]: b", "a b", "b", ""}, {"[\u00c4]: b", "\u00e4", "b", ""}, {`[a\]B]: b`, `a\]b`, "b", ""}, {`[\[]: b`, `\[`, "b", ""}, {`[\\]: b`, `\\`, "b", ""}, {"[\xff]: b", lost, "b", ""}, {"[a:b]: c", "a:b", "c", ""}, {"[&amp;]: b", "&amp;", "b", ""}, {"[^1]: b", "^1", "b", ""},
		{"[a]: <b>", "a", "b", ""}, {"[a]:<b>", "a", "b", ""}, {"[a]: <>", "a", "", ""}, {"[a]:<>", "a", "", ""}, {"[a]:\n<>", "a", "", ""}, {"[a]: <> 't'", "a", "", "t"}, {"[a]: <>\n't'", "a", "", "t"}, {"[a]: <b c>", "a", "b c", ""}, {"[a]: < >", "a", " ", ""}, {"[a]: <b c> 't'", "a", "b c", "t"}, {"[a]: <b(>", "a", "b(", ""}, {`[a]: <b\>>`, "a", "b>", ""},
		{"[a]: http://y", "a", "http://y", ""}, {"[a]: #head", "a", "#head", ""}, {"[a]: b(c)", "a", "b(c)", ""}, {"[a]: ()", "a", "()", ""}, {"[a]: :", "a", ":", ""}, {"[a]::", "a", ":", ""}, {"[a]: [b]:c", "a", "[b]:c", ""}, {"[a]:[b]", "a", "[b]", ""}, {"[a]: 't'", "a", "'t'", ""}, {"[a]: \"t\"", "a", "\"t\"", ""}, {"[a]: (t)", "a", "(t)", ""}, {"[a]:\n't'", "a", "'t'", ""}, {"[a]: 't' 'u'", "a", "'t'", "u"}, {"[a]: b't'", "a", "b't'", ""}, {"[a]: b\"t\"", "a", "b\"t\"", ""}, {"[a]: b(t)", "a", "b(t)", ""},
		{`[a]: b\*c`, "a", "b*c", ""}, {`[a]: \b`, "a", `\b`, ""}, {`[a]: \`, "a", `\`, ""}, {`[a]: \\`, "a", `\`, ""}, {`[a]: \<`, "a", "<", ""}, {`[a]: \(`, "a", "(", ""}, {`[a]: \)`, "a", ")", ""}, {"[a]: &amp;", "a", "&", ""}, {"[a]: b&copy;c", "a", "b\u00a9c", ""}, {"[a]: b&#32;c", "a", "b c", ""}, {"[a]: &nope;", "a", "&nope;", ""}, {"[a]: <&gt;>", "a", ">", ""}, {`[a]: \&amp;`, "a", "&amp;", ""}, {"[a]: &#10;", "a", "\n", ""},
		{"[a]: b 't'", "a", "b", "t"}, {"[a]: b \"t\"", "a", "b", "t"}, {"[a]: b (t)", "a", "b", "t"}, {"[a]: b\t't'", "a", "b", "t"}, {"[a]: b\t\"t\"", "a", "b", "t"}, {"[a]: b\t(t)", "a", "b", "t"}, {"[a]: b\n't'", "a", "b", "t"}, {"[a]: b\n\"t\"", "a", "b", "t"}, {"[a]: b\n(t)", "a", "b", "t"},
		{"[a]: b  't'", "a", "b", "t"}, {"[a]: b \n 't'", "a", "b", "t"}, {"[a]: b\t\n\t't'", "a", "b", "t"}, {"[a]: b   \n't'", "a", "b", "t"}, {"[a]: b\n   't'", "a", "b", "t"}, {"[a]:\nb\n't'", "a", "b", "t"}, {"[a]:\n  b\n  't'", "a", "b", "t"}, {"[a]:b\n't'", "a", "b", "t"},
		{"[a]: b ''", "a", "b", ""}, {"[a]: b \"\"", "a", "b", ""}, {"[a]: b ()", "a", "b", ""}, {"[a]: b\n''", "a", "b", ""}, {"[a]: b ' '", "a", "b", " "}, {"[a]: b 't\nu'", "a", "b", "t\nu"}, {"[a]: b\n't\nu\nv'", "a", "b", "t\nu\nv"}, {"[a]: b \"\nt\n\"", "a", "b", "\nt\n"}, {"[a]: b (\n)", "a", "b", "\n"}, {"[a]: b 't\n[c]: d'", "a", "b", "t\n[c]: d"}, {"[a]: b\n't\n'", "a", "b", "t\n"},
		{`[a]: b 't\'u'`, "a", "b", "t'u"}, {`[a]: b "t\"u"`, "a", "b", `t"u`}, {`[a]: b (t\)u)`, "a", "b", "t)u"}, {`[a]: b 't\u'`, "a", "b", `t\u`}, {`[a]: b 't\\'`, "a", "b", `t\`}, {"[a]: b '&amp;'", "a", "b", "&"}, {"[a]: b\n'&#39;&quot;'", "a", "b", "'\""}, {"[a]: b '&nope;'", "a", "b", "&nope;"}, {"[a]: b '\"(t)'", "a", "b", "\"(t)"},
		{"[a]: \u00e9 '\u20ac'", "a", "\u00e9", "\u20ac"}, {"[a]: \xff '\xfe'", "a", "\xff", "\xfe"}, {"[a]: \u00a0", "a", "\u00a0", ""}, {"[a]:\u00a0b", "a", "\u00a0b", ""}, {"[a]: b\u00a0't'", "a", "b\u00a0't'", ""}, {"[\u20ac \U0001f600]: b", "\u20ac \U0001f600", "b", ""}, {"[\r]: b", "\r", "b", ""},
	} {
		checkEnds(t, c.s, api.Ref{Label: c.name, Dest: c.dest, Title: c.title})
	}
}

func TestNoDefine(t *testing.T) {
	for _, s := range []string{
		"", " ", "\n", "   ", "a", ":", ": b", ":b", "b", "a: b", "a]: b", "(a): b", "<a>: b", " [a]: b", "\n[a]: b", "\t[a]: b", "\\[a]: b", "![a]: b", "- [a]: b", "\xff", "\x80[a]: b", "\ufeff[a]: b",
		"[a", "[a: b", "[a]", "[a] ", "[a]\n", "[a] b", "[a]b", "[a] : b", "[a]\t: b", "[a]\n: b", "[a]\\: b", "[a]&#58; b", "[a]; b", "[a](b)", "[a][b]: c", "[a]]: b", "[a\\]: b", "[a[b]: c", "[[a]]: b", "[a]\uff1ab", "[a]-: b",
		"[]: b", "[ ]: b", "[\n]: b", "[\t \n]: b", "[\\]: b",
		"[a]:", "[a]: ", "[a]:\t", "[a]:\n", "[a]: \n ", "[a]:\n\n", "[a]:\n\nb", "[a]: \n \nb", "[a]:\n\t\n\tb", "[a]:\n\n<b>", "[a]:\n\n\nb", "[a]: )", "[a]:)b", "[a]: \x00", "[a]: \x7fb", "[a]:\rb", "[a]:\vb",
		"[a]: <", "[a]: <b", "[a]: <b\n>", "[a]: <b\nc>", "[a]: <b<c>", "[a]: <\\>", "[a]: <b>c", "[a]: <b>'t'", "[a]: <b>\"t\"", "[a]: <b>(t)", "[a]: <>'t'", "[a]: <>(t)", "[a]: <b>c 't'", "[a]: <b>\\", "[a]: <b><c>", "[a]: <b>:",
		"[a]: (", "[a]: b(", "[a]: b(c", "[a]: b(c 't'", "[a]: b)", "[a]: b) 't'", "[a]: b)'t'", "[a]: " + strings.Repeat("(", 33) + strings.Repeat(")", 33),
		"[a]: b c", "[a]: b\tc", "[a]: b  c 't'", "[a]: b [c]: d", "[a]: b \\", "[a]: b 't", "[a]: b \"t", "[a]: b (t", "[a]: b '", "[a]: b \\'t'", "[a]: b 't\\'", "[a]: b (t(u))", "[a]: b &#39;t'", "[a]: b \"t'", "[a]: b )", "[a]: b <c>",
		"[a]: b 't' u", "[a]: b 't'u", "[a]: b 't''u'", "[a]: b 't' 'u'", "[a]: b \"t\"u", "[a]: b (t) u", "[a]: b (t)(u)", "[a]: b 't'\\", "[a]: b 't'\x00", "[a]: b 't'\u00a0", "[a]: b 't'\r", "[a]: b 't' \r\n", "[a]: b\r", "[a]: b\r\n", "[a]: b \v", "[a]: b \x00", "[a]: b \u00a0", "[a]: b \xff", "[a]: b\x7f", "[a]: b 't'\xa0",
		"[a]: b 't\nu", "[a]: b 't\nu' v", "[a]: b 't\n\nu'", "[a]: b 't\n \nu'", "[a]: b \"t\nu\"v", "[a]: b (t\nu) v\n", "[a]: b '' x", "[a]: <> '' x", "[a]: <b> t",
	} {
		checkNoDefine(t, s)
		checkNoDefine(t, s+"\n\nx")
		if l, rest := label.Defined(s); len(l) != 0 || rest != s {
			t.Errorf("Defined(%q) are %q, %q", cut(s), l, cut(rest))
		}
	}
	checkNoDefine(t, "["+strings.Repeat("a", longest+1)+"]: b")
}

// A title on a line of its own, which doesn't end its line, isn't the definition's.
func TestTitlesThatAreNone(t *testing.T) {
	for _, dest := range []string{"b", "<b>", "<>", "b(c)", "'t'", "\xff"} {
		to, _, _ := target.Dest(dest)
		for _, gap := range []string{"\n", " \n", "\t\n", " \t \n"} {
			s := "[a]: " + dest + gap
			for _, more := range []string{
				"'t", "\"t", "(t", "'", "\"", "(", "'t' u", "'t'u", "\"t\"u", "(t)u", "(t) u", "'t' 'u'", "'t''u'", "''x", "'t'\r", "'t' \x00", "'t'\u00a0", "'t'\xff", "'t\\'", "\"t'", "(t(u))", "\\'t'", "&#39;t'", "[t]", "t", "x 't'", "/u", "<t>", ")",
				"'t\nu", "'t\nu' v", "'t\nu'v", "'t\n\nu'", "\"t\n \t\nu\"", "(t\n\nu)\n", "'t' u\nv'", "\n't'", " \n't'", "\n\n't'", "\t\n\t\"t\"", "\n(t)\n",
			} {
				for _, ahead := range []string{"", " ", "\t", "  "} {
					checkDefine(t, s+ahead+more, api.Ref{Label: "a", Dest: to}, len(s))
					checkDefine(t, s+ahead+more+"\n", api.Ref{Label: "a", Dest: to}, len(s))
				}
			}
		}
	}
}

func TestEachByteInADefinition(t *testing.T) {
	for _, c := range each() {
		for _, s := range []string{
			c + "[a]: b", "[" + c + "]: b", "[a" + c + "]: b", "[a]" + c + " b", "[a]" + c + ": b", "[a]:" + c + "b", "[a]:" + c, "[a]: " + c, "[a]: b" + c, "[a]: b " + c, "[a]: b\n" + c, "[a]: <b>" + c, "[a]: <b>" + c + "'t'", "[a]: <b>" + c + "\n't'", "[a]: <b>\n" + c + "'t'",
			"[a]: b" + c + "'t'", "[a]: b 't'" + c, "[a]: b 't'" + c + "\n", "[a]: b\n't'" + c, "[a]: b\n't' " + c + "\nd", "[a]: b " + c + "t" + c, "[a]: b\n" + c + "t" + c, "[a]: <" + c + ">", "[a]: b '" + c + "'", "[a]: b '\\" + c + "'", "[a]: \\" + c, "[a]: b" + c + c + "'t'", "[a]:" + c + c + "b", "[a]: b\n" + c + "\n't'",
		} {
			checkAsked(t, s)
		}
		blank := c == " " || c == "\t"
		if c != ":" {
			checkNoDefine(t, "[a]"+c+" b")
		}
		if !blank && c != "\n" {
			checkNoDefine(t, "[a]: <b>"+c)
			checkNoDefine(t, "[a]: <b>"+c+"'t'")
			checkNoDefine(t, "[a]: b 't'"+c)
			checkDefine(t, "[a]: b\n't'"+c, api.Ref{Label: "a", Dest: "b"}, 7)
			continue
		}
		checkDefine(t, "[a]: <b>"+c+"'t'", api.Ref{Label: "a", Dest: "b", Title: "t"}, 12)
		checkDefine(t, "[a]:"+c+"b"+c, api.Ref{Label: "a", Dest: "b"}, 7)
		checkDefine(t, "[a]: b 't'"+c, api.Ref{Label: "a", Dest: "b", Title: "t"}, 11)
		checkDefine(t, "[a]: b\n't'"+c, api.Ref{Label: "a", Dest: "b", Title: "t"}, 11)
	}
}

func TestShortDefinitions(t *testing.T) {
	for _, c := range []struct {
		begin  string
		pieces []string
	}{
		{"", []string{"[", "]", ":", "a", " ", "\n"}},
		{"[a", []string{"]", ":", "\\", " ", "\n", "b"}},
		{"[a]:", []string{"<", ">", " ", "\n", "b", "'"}},
		{"[a]: b", []string{" ", "\t", "\n", "'", "t"}},
		{"[a]: <b>", []string{" ", "\n", "'", "\\", "t"}},
		{"[a]: b 't'", []string{" ", "\t", "\n", "'", "x"}},
		{"[a]: b\n't'", []string{" ", "\t", "\n", "'", "x"}},
		{"[a]: b\n(", []string{" ", "(", "\n", ")", "x"}},
		{"[a]: b\n", []string{"[a]: b", "'t'", "\n", " ", "x"}},
	} {
		for _, s := range texts(6, c.pieces...) {
			ref, n := defineAsked(c.begin + s)
			checkDefine(t, c.begin+s, ref, n)
			l, rest := definedAsked(c.begin + s)
			checkDefined(t, c.begin+s, l, rest)
		}
	}
}

// P10.2: several definitions.

func TestDefined(t *testing.T) {
	a, b, c := api.Ref{Label: "a", Dest: "b"}, api.Ref{Label: "c", Dest: "d"}, api.Ref{Label: "a", Dest: "e", Title: "t"}
	for _, x := range []struct {
		s    string
		want []api.Ref
		rest string
	}{
		{"", nil, ""}, {" ", nil, " "}, {"\n", nil, "\n"}, {"x", nil, "x"}, {"x\n[a]: b", nil, "x\n[a]: b"}, {"\n[a]: b", nil, "\n[a]: b"}, {" [a]: b", nil, " [a]: b"}, {"[a]", nil, "[a]"}, {"[a]:\n\nb", nil, "[a]:\n\nb"}, {"\xff", nil, "\xff"},
		{"[a]: b", []api.Ref{a}, ""}, {"[a]: b\n", []api.Ref{a}, ""}, {"[a]: b\nx", []api.Ref{a}, "x"}, {"[a]: b\n\n", []api.Ref{a}, "\n"}, {"[a]: b \t\n x", []api.Ref{a}, " x"}, {"[a]: b\n\xff\xe2\x82", []api.Ref{a}, "\xff\xe2\x82"}, {"[a]: b\n't' x", []api.Ref{a}, "'t' x"}, {"[a]: b\n==", []api.Ref{a}, "=="},
		{"[a]: b\n[c]: <d>\nx", []api.Ref{a, b}, "x"}, {"[a]: b\n[c]: d", []api.Ref{a, b}, ""}, {"[a]: b\n[c]: d\n", []api.Ref{a, b}, ""}, {"[c]: d\n[a]: b\n", []api.Ref{b, a}, ""}, {"[a]: b\n[c]:\nd\n[a]: e 't'\nx\n", []api.Ref{a, b, c}, "x\n"}, {"[a]: e\n't'\n[c]: d\n[a]: b\n[x]", []api.Ref{c, b, a}, "[x]"},
		{"[a]: b\n\n[c]: d", []api.Ref{a}, "\n[c]: d"}, {"[a]: b\n \n[c]: d", []api.Ref{a}, " \n[c]: d"}, {"[a]: b\nx\n[c]: d", []api.Ref{a}, "x\n[c]: d"}, {"[a]: b\n [c]: d", []api.Ref{a}, " [c]: d"}, {"[a]: b\n[c] d", []api.Ref{a}, "[c] d"}, {"[a]: b\n[c]: d x", []api.Ref{a}, "[c]: d x"}, {"[a]: b\n[c]:", []api.Ref{a}, "[c]:"}, {"[a]: b [c]: d", nil, "[a]: b [c]: d"}, {"[a]: b\n[]: d", []api.Ref{a}, "[]: d"},
		{"[a]: b\n[a]: e 't'\n", []api.Ref{a, c}, ""}, {"[a]: e 't'\n[A]: b\n", []api.Ref{c, a}, ""}, {"[a]: b\n[a]: b\n[a]: b", []api.Ref{a, a, a}, ""}, {"[ A]: b\n[C ]: d\nx", []api.Ref{a, b}, "x"},
		{"[a]: b\n't\n[c]: d\n", []api.Ref{a}, "'t\n[c]: d\n"}, {"[a]: e\n't'\n't'", []api.Ref{c}, "'t'"}, {"[a]: e 't'\n't'", []api.Ref{c}, "'t'"}, {"[a]:\n[c]: d", nil, "[a]:\n[c]: d"}, {"[a]:\n[c]:", []api.Ref{{Label: "a", Dest: "[c]:"}}, ""},
	} {
		checkDefined(t, x.s, x.want, x.rest)
	}
}

// P10.3: definitions that are found.

func TestFind(t *testing.T) {
	a, b, c := api.Ref{Label: "a", Dest: "b"}, api.Ref{Label: "foo bar", Dest: "d", Title: "t"}, api.Ref{Label: "a", Dest: "e", Title: "u"}
	d, e, empty := api.Ref{Label: "\u00e4", Dest: "f"}, api.Ref{Label: lost, Dest: "g"}, api.Ref{Label: "no"}
	l := []api.Ref{a, b, c, d, e, empty}
	for _, x := range []struct {
		name string
		want api.Ref
	}{
		{"a", a}, {"A", a}, {" a ", a}, {"\tA\n", a}, {"foo bar", b}, {"Foo  Bar", b}, {"FOO\nBAR", b}, {"\n foo \t bar ", b}, {"\u00e4", d}, {"\u00c4", d}, {" \u00c4\n", d}, {"\xff", e}, {"\xc3", e}, {lost, e}, {"NO", empty}, {"\xff ", e},
	} {
		checkFind(t, l, x.name, x.want, true)
	}
	checkFind(t, []api.Ref{c, b, a}, "A", c, true)
	checkFind(t, []api.Ref{a}, "a", a, true)
	checkFind(t, []api.Ref{b, a}, "a", a, true)
	for _, name := range []string{"", " ", "\n", "x", "ab", "aa", "foo", "bar", "foobar", "foo bar x", "a b", "\\a", "[a]", "\u00e0", "a\u0308", "\xff\xff", "&auml;", "foo\u00a0bar", "\u0391", "b", "t"} {
		checkNotFound(t, l, name)
	}
	for _, name := range []string{"", " ", "a", "\xff"} {
		checkNotFound(t, nil, name)
		checkNotFound(t, []api.Ref{}, name)
		checkNotFound(t, l[:0], name)
	}
}

// Lists may hold anything: a Label that isn't as labels are looked for is never found, an empty one is where nothing is looked for.
func TestFindInAnyList(t *testing.T) {
	for _, name := range []string{"A", " a", "a ", "a  b", "a\nb", "\u00c4", "\xff", "\t", " "} {
		l := []api.Ref{{Label: name, Dest: "x"}}
		checkNotFound(t, l, name)
		checkNotFound(t, l, label.Normal(name))
		last := api.Ref{Label: label.Normal(name), Dest: "y"}
		checkFind(t, append(l, last), name, last, true)
	}
	for _, name := range []string{"", " ", "\n\t"} {
		checkFind(t, []api.Ref{{Dest: "x"}}, name, api.Ref{Dest: "x"}, true)
	}
	checkFind(t, []api.Ref{{}, {Label: "a"}}, "", api.Ref{}, true)
}

// P10.4: blanks and great letters are of no account.

func TestBlanksAndGreatLettersAreOfNoAccount(t *testing.T) {
	gaps := []string{" ", "  ", "\t", "\n", "\n\n", " \n\t ", "\t \n"}
	for _, words := range [][]string{{"a"}, {"foo", "bar"}, {"\u00e4\u00d7", "\u00fe", "z"}, {"x\\]y", "1"}, {"\u20ac\xff", "\u00e0"}, {small, small}} {
		plain := strings.Join(words, " ")
		want := label.Normal(plain)
		l, _ := label.Defined("[" + plain + "]: /u 't'\n")
		for _, gap := range gaps {
			for _, around := range append(gaps, "") {
				for _, raised := range []string{strings.Join(words, gap), raise(strings.Join(words, gap)), raise(words[0]) + strings.TrimPrefix(strings.Join(words, gap), words[0])} {
					name := around + raised + around
					if got := label.Normal(name); got != want {
						t.Errorf("Normal(%q) is %q, asked is %q", name, got, want)
					}
					if ref, ok := label.Find(l, name); !ok || ref.Dest != "/u" || ref.Title != "t" {
						t.Errorf("%q isn't found in %q", name, l)
					}
					s := "[" + name + "]: /u 't'\n"
					if ref, n := label.Define(s); ref != l[0] || n != len(s) {
						t.Errorf("Define(%q) is %q, %d, asked is %q", s, ref, n, l[0])
					}
				}
			}
		}
		if got := label.Normal(want); got != want {
			t.Errorf("Normal(%q) is %q", want, got)
		}
	}
}

// raise tells s with each letter that has a great one as that.
func raise(s string) string {
	var b strings.Builder
	for i, r := range s {
		if at := slices.Index([]rune(small), r); at >= 0 {
			b.WriteRune([]rune(great)[at])
			continue
		}
		_, n := utf8.DecodeRuneInString(s[i:])
		b.WriteString(s[i : i+n])
	}
	return b.String()
}

// All calls, at any texts.

func TestExamples(t *testing.T) {
	checkDefine(t, "[Foo  Bar]: /u 't'", api.Ref{Label: "foo bar", Dest: "/u", Title: "t"}, 18)
	l, rest := label.Defined("[Foo  Bar]: /u 't'\n[foo bar]: /v\nrest")
	ref, ok := label.Find(l, "FOO\nBar")
	if !ok || ref.Dest != "/u" || ref.Title != "t" || rest != "rest" {
		t.Errorf("found is %q, %v, behind it stands %q", ref, ok, rest)
	}
}

func TestWrongTexts(t *testing.T) {
	for _, s := range []string{"", " ", "   ", "\t", "\n", "\n\n\n", "\r", "\x00", "\x7f", "a", "abc", "\\", "\\\\", "\x80", "\xff", "\xff\xff", "\xc3", "\xe2\x82", "\xed\xa0\x80", "\xf4\x90\x80\x80", "\ufeff", "\u00a0", "\u20ac", "\U0001f600"} {
		checkNoLabel(t, s)
		checkNoDefine(t, s)
		checkNoLabel(t, "["+s)
		checkNoDefine(t, "["+s)
		checkNoDefine(t, "["+s+"]")
		checkDefined(t, s, nil, s)
		for _, begin := range []string{"[", "[a", "[a]", "[a]:", "[a]: ", "[a]: <", "[a]: b", "[a]: b ", "[a]: b\n", "[a]: b '", "[a]: b\n'", "[a]: b 't'", "[a]: b\n't'", "[a]: b\n[", "[\\"} {
			checkAsked(t, begin+s)
			checkAsked(t, s+begin)
			checkAsked(t, begin+s+"]: b")
		}
	}
}

func TestMixed(t *testing.T) {
	for _, s := range mixed(60000) {
		checkAsked(t, s)
		l, _ := definedAsked(s)
		for _, name := range []string{"a", "B", "\u00c4\nB", "", s[:min(len(s), 8)]} {
			ref, ok := findAsked(l, name)
			checkFind(t, l, name, ref, ok)
		}
	}
}

func TestEachBeginningAndEnd(t *testing.T) {
	for _, s := range mixed(1500) {
		for n := range len(s) + 1 {
			checkAsked(t, s[:n])
			checkAsked(t, s[n:])
		}
	}
}

func TestLongTexts(t *testing.T) {
	for _, c := range []string{"a", " ", "\n", "\\", "\\]", "\xff", "\u20ac", "[", "]", "a]"} {
		long := strings.Repeat(c, many)
		_, n := label.Label("[" + long + "]")
		if want := map[string]int{"a]": 3}[c]; n != want {
			t.Errorf("a label of many %q has %d bytes, asked are %d", c, n, want)
		}
		if _, n := label.Label("[a" + long); n != 0 && c[len(c)-1] != ']' {
			t.Errorf("many %q without an end are a label of %d bytes", c, n)
		}
	}
	for _, c := range []struct{ s, want string }{{"A ", "a "}, {" A\n\n", "a "}, {"\u00c4\t \n", "\u00e4 "}, {"\xff\n", lost + " "}, {"A", "a"}, {"\xff", lost}} {
		if got := label.Normal(strings.Repeat(c.s, many)); got != strings.TrimSuffix(strings.Repeat(c.want, many), " ") {
			t.Errorf("many %q are told as %q", c.s, cut(got))
		}
	}
	blanks := strings.Repeat(" \t", many)
	long := strings.Repeat("t\n", many)
	ref, n := label.Define("[a]:" + blanks + "\n" + blanks + "b" + blanks + "\n" + blanks + "'" + long + "'" + blanks + "\n")
	if ref.Label != "a" || ref.Dest != "b" || ref.Title != long || n != 5*len(blanks)+len(long)+10 {
		t.Errorf("a long definition has %d bytes", n)
	}
	checkDefine(t, "[a]: b"+blanks+"\n'"+long, api.Ref{Label: "a", Dest: "b"}, len(blanks)+7)
	checkNoDefine(t, "[a]: b '"+long)
	checkNoDefine(t, "[a]:"+blanks+"\n"+blanks+"\nb")
}

// Each of many is gone through but once, or up to the most bytes of a label: else this would not end.
func TestManyDefinitions(t *testing.T) {
	for _, s := range []string{"[a]: b\n", "[a]:\nb\n't\nu'\n", "[a]: <> \"\"\n", "[\xff\u00c4]: \xff\n"} {
		want, n := label.Define(s)
		l, rest := label.Defined(strings.Repeat(s, many/8) + "[a] x")
		if n != len(s) || len(l) != many/8 || rest != "[a] x" || l[0] != want || l[len(l)-1] != want {
			t.Errorf("of many %q %d are told", s, len(l))
		}
	}
	for _, s := range []string{"[", "[a", "[\\]", "[\\", "\\[", "[ ", "[]", "[a]", "[a]:"} {
		long := strings.Repeat(s, many)
		for i := 0; i < len(long); i += 64 {
			label.Label(long[i:])
		}
	}
	l, _ := label.Defined(strings.Repeat("[a]: b\n", many/8) + "[c]: d")
	if ref, ok := label.Find(l, " C "); !ok || ref.Dest != "d" {
		t.Error("the last one of many isn't found")
	}
}

// The rules that hold everywhere: an answer shares no memory with an argument, which stays as it is.

func shares(a, b string) bool {
	if a == "" || b == "" {
		return false
	}
	from, other := uintptr(unsafe.Pointer(unsafe.StringData(a))), uintptr(unsafe.Pointer(unsafe.StringData(b)))
	return from < other+uintptr(len(b)) && other < from+uintptr(len(a))
}

func TestAnswersAreNewMemory(t *testing.T) {
	for _, s := range []string{"a", "abc", " a ", "[a]", "[foo bar]: b", "[a]: b 't'\n", "[a]: <b c>\n't u'\nrest", "[a]: b\n[c]: d\nx", "x\n", "\xff", "[\xff]: \xff '\xff'\n\xff"} {
		b := []byte(s)
		text := unsafe.String(&b[0], len(b))
		inside, _ := label.Label(text)
		ref, _ := label.Define(text)
		l, rest := label.Defined(text)
		told := []string{inside, label.Normal(text), ref.Label, ref.Dest, ref.Title, rest}
		for _, r := range l {
			told = append(told, r.Label, r.Dest, r.Title)
		}
		for _, part := range told {
			if shares(part, text) {
				t.Errorf("%q, told of %q, shares memory with it", part, s)
			}
		}
		if string(b) != s {
			t.Errorf("%q is changed", s)
		}
	}
	if s := "abc"; !shares(s[1:], s) || shares(s, strings.Clone(s)) {
		t.Error("shares doesn't tell what shares memory")
	}
}

func TestListsStayAsTheyAre(t *testing.T) {
	room := []api.Ref{{Label: "a", Dest: "b"}, {Label: "C", Dest: "d"}, {Label: "e", Dest: "f"}}
	before := slices.Clone(room)
	for _, name := range []string{"a", "A", "c", "e", ""} {
		label.Find(room[:2], name)
	}
	checkNotFound(t, room[:2], "e")
	if !slices.Equal(room, before) {
		t.Errorf("the list is changed to %q", room)
	}
	first, _ := label.Defined("[a]: b\n[c]: d\n")
	second, _ := label.Defined("[a]: b\n[c]: d\n")
	first[0], first[1] = api.Ref{}, api.Ref{}
	if second[0].Dest != "b" || second[1].Dest != "d" {
		t.Error("two lists are one")
	}
}

// A call hangs on its arguments alone: asked in between, and again, it answers the same.
func TestCallsHangOnTheirArguments(t *testing.T) {
	l := mixed(500)
	for range 2 {
		for i := range l {
			checkAsked(t, l[i])
			checkAsked(t, l[len(l)-1-i])
		}
	}
}

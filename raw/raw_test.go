package raw_test

import (
	"regexp"
	"slices"
	"strings"
	"testing"
	"unsafe"

	"compositor/raw"
)

const (
	many        = 1 << 20
	k           = "\x60" // the sign around code
	letters     = "ABCDEFGHIJKLMNOPQRSTUVWXYZabcdefghijklmnopqrstuvwxyz"
	digits      = "0123456789"
	punctuation = "!\"#$%&'()*+,-./:;<=>?@[\\]^_" + k + "{|}~"
	ahead       = ".!#$%&'*+/=?^_{|}~-" + k // of the @ of an address, beside letters and digits
)

// What the chapter asks, in another way: by expressions, and code by its stretches.

var (
	beginAsk   = regexp.MustCompile(`^<[A-Za-z][A-Za-z0-9-]*(?:[ \t\n]+[A-Za-z_:][A-Za-z0-9_:.-]*(?:[ \t\n]*=[ \t\n]*(?:"[^"]*"|'[^']*'|[^ \t\n"'=<>\x60]+))?)*[ \t\n]*/?>`)
	endAsk     = regexp.MustCompile(`^</[A-Za-z][A-Za-z0-9-]*[ \t\n]*>`)
	otherAsk   = regexp.MustCompile(`(?s)^(?:<!-->|<!--->|<!--.*?-->|<\?.*?\?>|<!\[CDATA\[.*?\]\]>|<![A-Za-z].*?>)`)
	schemeAsk  = regexp.MustCompile(`^<([A-Za-z][A-Za-z0-9+.-]{1,31}:[^\x00-\x20<>\x7f]*)>`)
	addressAsk = regexp.MustCompile(`^<([A-Za-z0-9.!#$%&'*+/=?^_{|}~\x60-]+@[A-Za-z0-9](?:[A-Za-z0-9-]{0,61}[A-Za-z0-9])?(?:\.[A-Za-z0-9](?:[A-Za-z0-9-]{0,61}[A-Za-z0-9])?)*)>`)
	ticksAsk   = regexp.MustCompile(`\x60+`)
	paddedAsk  = regexp.MustCompile(`(?s)^ (.*[^ ].*) $`)
	escapeAsk  = regexp.MustCompile("^\\\\([!-/:-@[-`{-~])")
)

func tagAsked(s string) int {
	return max(len(beginAsk.FindString(s)), len(endAsk.FindString(s)))
}

func htmlAsked(s string) int {
	return max(len(otherAsk.FindString(s)), tagAsked(s))
}

func autoAsked(s string) (string, string, int) {
	if m := schemeAsk.FindStringSubmatch(s); m != nil {
		return m[1], m[1], len(m[0])
	}
	if m := addressAsk.FindStringSubmatch(s); m != nil {
		return "mailto:" + m[1], m[1], len(m[0])
	}
	return "", "", 0
}

func codeAsked(s string) (string, int) {
	l := ticksAsk.FindAllStringIndex(s, -1)
	if len(l) == 0 || l[0][0] != 0 {
		return "", 0
	}
	at := slices.IndexFunc(l[1:], func(place []int) bool { return place[1]-place[0] == l[0][1] })
	if at < 0 {
		return "", 0
	}
	end := l[at+1]
	text := []byte(s[l[0][1]:end[0]])
	for i, c := range text {
		if c == '\n' {
			text[i] = ' '
		}
	}
	if m := paddedAsk.FindSubmatch(text); m != nil {
		text = m[1]
	}
	return string(text), end[1]
}

func escapedAsked(s string) (string, bool) {
	m := escapeAsk.FindStringSubmatch(s)
	if m == nil {
		return "", false
	}
	return m[1], true
}

// Texts.

// texts tells all texts of at most so many of these pieces.
func texts(count int, pieces ...string) []string {
	all := []string{""}
	last := all
	for range count {
		var next []string
		for _, s := range last {
			for _, p := range pieces {
				next = append(next, s+p)
			}
		}
		all = append(all, next...)
		last = next
	}
	return all
}

// mixed tells texts of fewer than 16 pieces, the same ones at each call.
func mixed(count int) []string {
	pieces := []string{
		"<", "<", ">", ">", ">", "</", "/>", "/", "<a", "<b ", "</a", "a", "b", "Z", "0", "9", "-", "_", ":", ".", "=", "=", "\"", "\"", "'", "'", k, k, k + k, k + k + k,
		" ", " ", "\t", "\n", "\n", "\r", " a", " a=", " b='c'", " c=\"d\"", " d=e", " = ", "a=b", "''",
		"<!--", "-->", "<!-->", "<!--->", "--", "->", "<?", "?>", "?", "<!", "!", "<![CDATA[", "]]>", "]", "]]", "<!A", "<!doctype html",
		"http://", "ab:", "a:", "mailto:", "@", "@", "a@b", "@b.c", "x.y", "+", "\\", "\\\\", "*", "&amp;", "&copy;", "\x00", "\x1f", "\x7f", "\x80", "\xff", "\u00e9", "\u20ac", "\U0001f600", "\u00a0", "\xe2\x82",
	}
	begins := []string{"", "", "<", "<a ", "<a b", "<a b=", "<a b='", "</a", "<!--", "<?", "<!", "<![CDATA[", "<ab:", "<a@", "<a@b.", k, k + k, k + " ", "\\"}
	state := uint64(20261119)
	next := func(below int) int {
		state = state*6364136223846793005 + 1442695040888963407
		return int(state>>33) % below
	}
	l := make([]string, count)
	for i := range l {
		l[i] = begins[next(len(begins))]
		for range next(16) {
			l[i] += pieces[next(len(pieces))]
		}
	}
	return l
}

// each is every byte as a text.
func each() []string {
	l := make([]string, 256)
	for n := range l {
		l[n] = string([]byte{byte(n)})
	}
	return l
}

// behind are texts that may stand behind anything that has an end of its own.
func behind() []string {
	return []string{"", "a", " ", "\n", "\n\n", "\t", ">", ">>", "<", "<a>", "</a>", "-->", "?>", "]]>", "/>", "=", "'", "\"", "@", ":", "\\", "*", "&amp;", "\x00", "\x7f", "\xff", "\u20ac", "\xe2\x82", "a" + k, " " + k + k}
}

// begins are texts that begin nothing, whatever stands behind them.
func begins() []string {
	return []string{" ", "   ", "\t", "\n", "\r", "a", "A", "0", "-", ">", "=", "!", "!--", "?", "[", "]", "(", "*", "_", "@", ":", "&", "&lt;", "\x00", "\x7f", "\x80", "\xff", "\xe2\x82", "\xc0\xbc", "\u20ac", "\ufeff", "\uff1c", "\U0001f600", "http://x", "a@b"}
}

// letterOr tells whether c is a letter, or one of these.
func letterOr(c, others string) bool {
	return strings.Contains(letters+others, c)
}

// Checks, which hold what the test asks against what the chapter asks in the other way, too.

// cut tells the beginning of a long text.
func cut(s string) string {
	return s[:min(len(s), 80)]
}

func checkTag(t *testing.T, s string, want int) {
	t.Helper()
	if n := raw.Tag(s); n != want {
		t.Errorf("Tag(%q) is %d, asked is %d", cut(s), n, want)
	}
	if n := tagAsked(s); n != want {
		t.Errorf("of %q both %d and %d are asked", cut(s), want, n)
	}
}

func checkHtml(t *testing.T, s string, want int) {
	t.Helper()
	if n := raw.Html(s); n != want {
		t.Errorf("Html(%q) is %d, asked is %d", cut(s), n, want)
	}
	if n := htmlAsked(s); n != want {
		t.Errorf("of %q both %d and %d are asked", cut(s), want, n)
	}
}

func checkAuto(t *testing.T, s, dest, text string, bytes int) {
	t.Helper()
	if d, x, n := raw.Auto(s); d != dest || x != text || n != bytes {
		t.Errorf("Auto(%q) is %q, %q, %d, asked is %q, %q, %d", cut(s), cut(d), cut(x), n, cut(dest), cut(text), bytes)
	}
	if d, x, n := autoAsked(s); d != dest || x != text || n != bytes {
		t.Errorf("of %q both %q, %q, %d and %q, %q, %d are asked", cut(s), cut(dest), cut(text), bytes, cut(d), cut(x), n)
	}
}

func checkCode(t *testing.T, s, want string, bytes int) {
	t.Helper()
	if text, n := raw.Code(s); text != want || n != bytes {
		t.Errorf("Code(%q) is %q, %d, asked is %q, %d", cut(s), cut(text), n, cut(want), bytes)
	}
	if text, n := codeAsked(s); text != want || n != bytes {
		t.Errorf("of %q both %q, %d and %q, %d are asked", cut(s), cut(want), bytes, cut(text), n)
	}
}

func checkEscaped(t *testing.T, s, want string, is bool) {
	t.Helper()
	if text, ok := raw.Escaped(s); text != want || ok != is {
		t.Errorf("Escaped(%q) is %q, %v, asked is %q, %v", cut(s), text, ok, want, is)
	}
	if text, ok := escapedAsked(s); text != want || ok != is {
		t.Errorf("of %q both %q, %v and %q, %v are asked", cut(s), want, is, text, ok)
	}
}

func checkNoTag(t *testing.T, s string) {
	t.Helper()
	checkTag(t, s, 0)
}

// checkNoHtml asks for no element either.
func checkNoHtml(t *testing.T, s string) {
	t.Helper()
	checkNoTag(t, s)
	checkHtml(t, s, 0)
}

func checkNoAuto(t *testing.T, s string) {
	t.Helper()
	checkAuto(t, s, "", "", 0)
}

func checkNoCode(t *testing.T, s string) {
	t.Helper()
	checkCode(t, s, "", 0)
}

// checkWholeTag asks for the element s, whatever stands behind it, and for nothing of less.
func checkWholeTag(t *testing.T, s string) {
	t.Helper()
	for _, more := range behind() {
		checkTag(t, s+more, len(s))
		checkHtml(t, s+more, len(s))
	}
	for n := range len(s) {
		checkNoTag(t, s[:n])
		checkNoHtml(t, s[:n])
	}
	checkNoTag(t, s[1:])
	checkNoTag(t, " "+s)
	checkNoTag(t, "<"+s)
	checkNoTag(t, "\\"+s)
}

// checkWholeHtml asks for the raw HTML s, which is no element, whatever stands behind it, and for nothing of less.
func checkWholeHtml(t *testing.T, s string) {
	t.Helper()
	for _, more := range behind() {
		checkNoTag(t, s+more)
		checkHtml(t, s+more, len(s))
	}
	for n := range len(s) {
		checkNoHtml(t, s[:n])
	}
	checkNoHtml(t, s[1:])
	checkNoHtml(t, " "+s)
	checkNoHtml(t, "<"+s)
	checkNoHtml(t, "\\"+s)
}

// checkWholeAuto asks for the link with that text, whatever stands behind it, and for none of less.
func checkWholeAuto(t *testing.T, dest, text string) {
	t.Helper()
	s := "<" + text + ">"
	for _, more := range behind() {
		checkAuto(t, s+more, dest, text, len(s))
	}
	for n := range len(s) {
		checkNoAuto(t, s[:n])
	}
	checkNoAuto(t, s[1:])
	checkNoAuto(t, " "+s)
	checkNoAuto(t, "<"+s)
	checkNoAuto(t, "< "+s[1:])
	checkNoAuto(t, s[:len(s)-1]+" >")
	checkNoAuto(t, "\\"+s)
}

func checkScheme(t *testing.T, text string) {
	t.Helper()
	checkWholeAuto(t, text, text)
}

func checkAddress(t *testing.T, text string) {
	t.Helper()
	checkWholeAuto(t, "mailto:"+text, text)
}

// checkWholeCode asks for code with that text, of one sign to five around what is inside, whatever stands behind, and for none of less.
func checkWholeCode(t *testing.T, inside, text string) {
	t.Helper()
	for n := 1; n <= 5; n++ {
		sign := strings.Repeat(k, n)
		s := sign + inside + sign
		for _, more := range behind() {
			checkCode(t, s+more, text, len(s))
		}
		for i := range len(s) {
			checkNoCode(t, s[:i])
		}
		checkNoCode(t, " "+s)
		checkNoCode(t, "\\"+s)
		checkNoCode(t, k+s)
		checkNoCode(t, s+k)
	}
}

func checkAsked(t *testing.T, s string) {
	t.Helper()
	checkTag(t, s, tagAsked(s))
	checkHtml(t, s, htmlAsked(s))
	dest, text, n := autoAsked(s)
	checkAuto(t, s, dest, text, n)
	text, n = codeAsked(s)
	checkCode(t, s, text, n)
	text, is := escapedAsked(s)
	checkEscaped(t, s, text, is)
}

// P11.1: elements.

func TestNames(t *testing.T) {
	for _, name := range []string{"a", "Z", "ab", "A", "z", "aB", "Ab", "a1", "a0", "h1", "a9z", "a-", "a--", "a-b", "a-1", "a1-", "DIV", "my-element-2", strings.Repeat("a", 100)} {
		for _, gap := range []string{"", " ", "\t", "\n", "  ", " \t\n ", "\n\n"} {
			checkWholeTag(t, "<"+name+gap+">")
			checkWholeTag(t, "<"+name+gap+"/>")
			checkWholeTag(t, "</"+name+gap+">")
		}
	}
	for _, name := range []string{"", "1", "0a", "9", "-", "-a", "--", "_", "_a", ":", ":a", "a:b", "a_b", "a.b", ".", "a.", "@", "`", "[", "{", "/", "a/b", "\u00e9", "a\u00e9", "\u0430", "\xff", "a\xff", "a\x80", "\x00", "a\x00", "a\r", "a\vb", "a\f", "a\u00a0", "a=", "a=b", "a'b'", "a'", "a\"\"", "a\\", "a<", "a<b", " ", " a", "\ta", "\na", "\\a", "&lt;", "&#97;"} {
		checkNoHtml(t, "<"+name+">")
		checkNoTag(t, "<"+name+"/>")
		checkNoHtml(t, "</"+name+">")
	}
}

func TestEachByteInAName(t *testing.T) {
	for _, c := range each() {
		switch {
		case letterOr(c, ""):
			checkWholeTag(t, "<"+c+">")
			checkWholeTag(t, "</"+c+">")
			checkWholeTag(t, "<"+c+" b>")
			fallthrough
		case letterOr(c, digits+"-"):
			checkWholeTag(t, "<a"+c+">")
			checkWholeTag(t, "</a"+c+">")
			checkWholeTag(t, "<a"+c+"b>")
			checkWholeTag(t, "</a"+c+"b>")
		case strings.Contains(" \t\n", c):
			checkWholeTag(t, "<a"+c+">")
			checkWholeTag(t, "</a"+c+">")
			checkWholeTag(t, "<a"+c+"b>")
			checkNoTag(t, "</a"+c+"b>")
		case c == ">":
			checkTag(t, "<a"+c+">", 3)
			checkTag(t, "</a"+c+">", 4)
		case c == "/":
			checkWholeTag(t, "<a"+c+">")
			checkNoTag(t, "</a"+c+">")
			checkNoTag(t, "<a"+c+"b>")
		default:
			checkNoTag(t, "<a"+c+">")
			checkNoTag(t, "</a"+c+">")
			checkNoTag(t, "<a"+c+"b>")
			checkNoTag(t, "</a"+c+"b>")
		}
		if !letterOr(c, "/") {
			checkNoTag(t, "<"+c+">")
			checkNoTag(t, "<"+c+"a>")
		}
		if !letterOr(c, "") {
			checkNoTag(t, "</"+c+">")
			checkNoTag(t, "</"+c+"a>")
		}
	}
}

func TestAttributes(t *testing.T) {
	for _, c := range []string{
		"b", "B", "_", ":", "_b", ":b", "b1", "b_", "b:", "b.", "b-", "b_c:d.e-f0", "xml:lang", "_1", ":.-", "a--", "__", "::", "on-click.x",
		"b=c", "b='c'", "b=\"c\"", "b=''", "b=\"\"", "b='\"'", "b=\"'\"", "b='\"\"c\"'", "b=\"''\"", "b='c d'", "b='c\nd'", "b=\"\n\n\"", "b='\t'", "b='<c>'", "b=\">\"", "b='='", "b='/>'", "b=\"" + k + "\"", "b='\\'", "b=\"\\\"", "b='&amp;'", "b='\x00\r\xff'", "b=\"\u00e9\"",
		"b =c", "b= c", "b = c", "b\t=\tc", "b\n=\nc", "b \t\n = \n\t c", "b ='c'", "b= 'c'", "b = \"c\"", "b\n\n=\n\n''",
		"b=1", "b=-", "b=/", "b=c/d", "b=c/", "b=//", "b=.", "b=_", "b=:", "b=!", "b=#c", "b=?c", "b=&", "b=\\", "b=\\c", "b=(c)", "b=[c]", "b={c}", "b=@", "b=*", "b=c;d", "b=\r", "b=c\rd", "b=\x00", "b=\x7f", "b=\xff", "b=\x80c", "b=\u00e9", "b=\u20ac", "b=\u00a0", "b=\v", "b=\f", "b=http://c/d?e",
		"b c", "b  c", "b\tc", "b\nc", "b c d e f", "b=c d", "b d=c", "b='c' d", "b='c' d=\"e\" f=g h", "b b b", "b=c b=c", "b='c'\n\n\td='e'", "b c=d", "b  c  =  d  e", "b=c d=e f='g'", "_=: :=_", "b='' c=\"\"",
	} {
		for _, gap := range []string{" ", "\t", "\n", "  ", "\n \t\n"} {
			checkWholeTag(t, "<a"+gap+c+">")
			checkWholeTag(t, "<a"+gap+c+gap+">")
			checkWholeTag(t, "<a"+gap+c+gap+"/>")
			checkWholeTag(t, "<a"+gap+c+"/>")
			checkWholeTag(t, "<a"+gap+c+gap+"z='y'>")
			checkNoTag(t, "<a"+gap+c+gap+"/ >")
			checkNoTag(t, "<a"+gap+c)
			checkNoTag(t, "</a"+gap+c+">")
		}
		checkNoTag(t, "<a\r"+c+">")
		checkNoTag(t, "<a\u00a0"+c+">")
		checkNoTag(t, "<a/"+c+">")
		checkNoTag(t, "< a "+c+">")
	}
}

func TestNoAttributes(t *testing.T) {
	for _, c := range []string{
		"1", "0b", ".", ".b", "-", "-b", "=", "=b", "='c'", "\"\"", "'b'", "\"b\"", k, "\\", "&", "\u00e9", "b\u00e9", "\xff", "b\xff", "b\x00", "b\r", "\rb", "b\vc", "b,c", "b;", "b@", "b!", "b#c", "b\\", "b\"", "b'", "b''", "b\"c\"", "b<", "b<c", "<", "*", "b*", "b/c", "b/ c", "b / c", "/", "//", "/ /", "b//", "b /  /", "b / ", "b/\n", "b\t/\t",
		"b=", "b =", "b= ", "b = ", "b=\n", "b==", "b==c", "b=c=", "b=c=d", "b= =", "b = = c", "b= c=", "b==''", "b=''=", "b=''=c", "b= c d=", "b=''c", "b=\"\"c", "b='c'd", "b='c'd='e'", "b='c'\"d\"", "b='c'/d", "b='c'=", "b='c'\rd",
		"b='", "b=\"", "b='c", "b=\"c", "b='c\"", "b=\"c'", "b=c'", "b=c\"", "b=c'd'", "b=c\"d\"", "b=" + k, "b=c" + k, "b=" + k + "c" + k, "b=<", "b=c<", "b=c<d", "b=c d'", "b='c''", "b=\"c\"\"", "b='c' '", "b=\"\\\"\"", "b='\\''", "b=c d=' e", "= b", "b c=", "b=c d==e", "b=c 1", "b='c' -d", "b='c' d=e=f",
	} {
		checkNoHtml(t, "<a "+c)
		checkNoHtml(t, "<a "+c+" ")
		if c == "/" {
			continue
		}
		checkNoHtml(t, "<a "+c+">")
		checkNoHtml(t, "<a  "+c+" >")
		checkNoHtml(t, "<a z=y\n"+c+">")
		checkNoHtml(t, "<a z='y' "+c+">")
	}
	for _, s := range []string{"<a/ >", "<a / >", "<a /\n>", "<a//>", "<a / />", "<a/ />", "<a/a>", "<a /b>", "<a/b/>", "<a b/ >", "<a b='c'/ >", "<a b=c / >", "</a/>", "</a />", "</a / >", "</a b>", "</a b='c'>", "</ a>", "< /a>", "<//a>", "</>", "</ >", "<>", "< >", "</", "<", "<a", "</a", "<a ", "</a ", "<a\r>", "</a\r>", "<a \r>", "<a\u00a0>", "<a\v>", "<a\f>", "<a\n\r\n>", "<!a>", "<?a>", "<a<b>", "<a <b>>", "</a<", "</a</b>", "<1>", "<-a>", "<.>", "<a.b>", "<a_b>", "<a:b>", "<a=b>", "<a='b'>", "<a'b'>", "<a b'c'>", "<a b=c'd>"} {
		checkNoTag(t, s)
	}
	checkNoHtml(t, "")
	for _, s := range begins() {
		checkNoHtml(t, s)
		checkNoHtml(t, s+"<a>")
		checkNoHtml(t, s+"</a>")
		checkNoHtml(t, s+"<!-- a -->")
	}
}

func TestEachByteInAnAttribute(t *testing.T) {
	for _, c := range each() {
		space := strings.Contains(" \t\n", c)
		if letterOr(c, "_:") || space || c == "/" {
			checkWholeTag(t, "<a "+c+">")
		} else if c != ">" {
			checkNoTag(t, "<a "+c+">")
		}
		if letterOr(c, "_:") || space {
			checkWholeTag(t, "<a "+c+"b='c'>")
		} else {
			checkTag(t, "<a "+c+"b='c'>", len("<a >")*strings.Count(c, ">"))
		}
		if letterOr(c, digits+"_:.-") || space {
			checkWholeTag(t, "<a b"+c+"='d'>")
			checkWholeTag(t, "<a b"+c+">")
			checkWholeTag(t, "<a b"+c+"/>")
		} else {
			checkTag(t, "<a b"+c+"='d'>", len("<a b>")*strings.Count(c, ">"))
		}
		// Behind a value in signs, and behind an =.
		if space {
			checkWholeTag(t, "<a b='c'"+c+"d>")
			checkWholeTag(t, "<a b="+c+"c>")
			checkWholeTag(t, "<a b=c"+c+"d>")
		} else {
			checkTag(t, "<a b='c'"+c+"d>", len("<a b='c'>")*strings.Count(c, ">"))
		}
		switch {
		case space:
			checkNoTag(t, "<a b="+c+">")
			checkWholeTag(t, "<a b=c"+c+">")
		case strings.Contains("\"'=<"+k, c):
			checkNoTag(t, "<a b="+c+">")
			checkNoTag(t, "<a b=c"+c+">")
			checkNoTag(t, "<a b="+c+"c>")
			checkNoTag(t, "<a b=c"+c+"d>")
		case c == ">":
			checkNoTag(t, "<a b="+c+">")
			checkTag(t, "<a b=c"+c+">", len("<a b=c>"))
		default:
			checkWholeTag(t, "<a b="+c+">")
			checkWholeTag(t, "<a b=c"+c+">")
			checkWholeTag(t, "<a b="+c+"c>")
			checkWholeTag(t, "<a b=c"+c+"d>")
		}
		if c != "'" {
			checkWholeTag(t, "<a b='"+c+"'>")
			checkWholeTag(t, "<a b='c"+c+"d' e>")
		}
		if c != "\"" {
			checkWholeTag(t, "<a b=\""+c+"\">")
			checkWholeTag(t, "<a b=\"c"+c+"d\" e>")
		}
	}
	checkNoTag(t, "<a b='''>")
	checkNoTag(t, "<a b=\"\"\">")
}

func TestShortTags(t *testing.T) {
	for _, s := range texts(8, "<", "a", "/", ">") {
		checkTag(t, s, tagAsked(s))
	}
	for _, s := range texts(7, " ", "a", "=", "'", "/", ">") {
		checkTag(t, "<a"+s, tagAsked("<a"+s))
	}
	for _, s := range texts(6, "\n", "b", "=", "\"", "'", ">", "-") {
		checkTag(t, "<a b"+s, tagAsked("<a b"+s))
		checkTag(t, "</a"+s, tagAsked("</a"+s))
	}
	for _, s := range texts(6, "\t", "b", "=", k, "\"", "/", ">") {
		checkTag(t, "<a b="+s, tagAsked("<a b="+s))
	}
}

// P11.1: raw HTML.

func TestComments(t *testing.T) {
	checkWholeHtml(t, "<!-->")
	checkWholeHtml(t, "<!--->")
	for _, c := range []string{"", "-", "--", "---", "a", " ", " a ", "\n", "a\n\nb", "-a", "--a", "a-", "a--", "a--b", "a - b", "a -- b", "--!", "--!>", "->a", "- ->", "-- >", "--\n>", "a->", "a>", "a->b", "<", "<a>", "<!--", "<!", "<!-- a", "</a>", "<?a?>", "]]>", "\\", "\\-", "\\--\\", "'", "\"", "&gt;", "--&gt;", k, "\x00", "\r", "\xff", "\u00e9", "\u20ac", "\U0001f600", "-\xff->", "\u2014>"} {
		s := "<!--" + c + "-->"
		if c == "" || !strings.HasPrefix(c, ">") && !strings.HasPrefix(c, "->") {
			checkWholeHtml(t, s)
		}
	}
	// The short ones come first, whatever stands behind.
	checkHtml(t, "<!--> a -->", 5)
	checkHtml(t, "<!-->-->", 5)
	checkHtml(t, "<!---> a -->", 6)
	checkHtml(t, "<!--->-->", 6)
	checkHtml(t, "<!---->", 7)
	checkHtml(t, "<!----->", 8)
	checkHtml(t, "<!------>", 9)
	checkHtml(t, "<!-- a --> b -->", 10)
	checkHtml(t, "<!-- a -- b -->", 15)
	checkHtml(t, "<!--a--->", 9)
	checkHtml(t, "<!-- <!-- a --> -->", 15)
	for _, s := range []string{"<!--", "<!---", "<!----", "<!-- ", "<!--a", "<!-- a >", "<!-- a ->", "<!-- a -- >", "<!-- a --", "<!-- a -\n->", "<!--a-- >b", "<!-- a --&gt;", "<! -->", "<!-", "<!->", "<!-a>", "<!- a -->", "<!- -a-->", "< !-- a -->", "<-- a -->", "!-- a -->", "<!\u2014>", "<!-\xff->"} {
		checkNoHtml(t, s)
	}
}

func TestInstructions(t *testing.T) {
	for _, c := range []string{"", "?", "??", "a", " ", " a ", "php echo 1", "a\n\nb", ">", ">a", ">>", "->", "a>b", "? >", "?\n>", "a?b", "<?", "<a>", "<!-- a -->", "\\", "\\?", "'", "\"", "\x00", "\r", "\xff", "\u00e9", "\u20ac", "?&gt;"} {
		checkWholeHtml(t, "<?"+c+"?>")
	}
	checkHtml(t, "<??>", 4)
	checkHtml(t, "<?>?>", 5)
	checkHtml(t, "<?a?>b?>", 5)
	checkHtml(t, "<???>", 5)
	for _, s := range []string{"<?", "<?>", "<?>>", "<??", "<?a", "<?a>", "<?a? >", "<?a?", "<?a?\n>", "<?\u003f", "< ?a?>", "?a?>", "<\u00bfa?>", "<\\?a?>"} {
		checkNoHtml(t, s)
	}
}

func TestData(t *testing.T) {
	for _, c := range []string{"", "]", "]]", "]]]", "a", " ", " a ", "a\n\nb", ">", "]>", ">]", "]] >", "] ]>", "]\n]>", "a]b]]c>", "[", "[]", "<![CDATA[", "<a>", "-->", "?>", "\\", "\\]", "'", "\"", "\x00", "\r", "\xff", "\u00e9", "\u20ac", "]]&gt;"} {
		checkWholeHtml(t, "<![CDATA["+c+"]]>")
	}
	checkHtml(t, "<![CDATA[]]>", 12)
	checkHtml(t, "<![CDATA[a]]>b]]>", 13)
	checkHtml(t, "<![CDATA[>]]]>", 14)
	for _, s := range []string{"<![CDATA[", "<![CDATA[a", "<![CDATA[a>", "<![CDATA[a]>", "<![CDATA[a]]", "<![CDATA[a]] >", "<![CDATA", "<![CDATA]]>", "<![CDATA a]]>", "<![cdata[a]]>", "<![Cdata[a]]>", "<![CDATa[a]]>", "<![cDATA[a]]>", "<![[a]]>", "<![a]]>", "<![ CDATA[a]]>", "<! [CDATA[a]]>", "< ![CDATA[a]]>", "<[CDATA[a]]>", "![CDATA[a]]>", "<![CDATA [a]]>", "<![RCDATA[a]]>"} {
		checkNoHtml(t, s)
	}
}

func TestDeclarations(t *testing.T) {
	for _, c := range []string{"a", "Z", "z", "A", "doctype", "DOCTYPE html", "ELEMENT br EMPTY", "a b='c'", "a1", "a-", "a--", "a -- b --", "a\n\nb", "a\t", "a ", "a<", "a<b", "a<!b", "a'", "a\"", "a]]", "a?", "a/", "a\\", "a&gt;", "a\x00", "a\r", "a\xff", "a\u00e9", "CDATA[a]]", "cdata"} {
		checkWholeHtml(t, "<!"+c+">")
	}
	checkHtml(t, "<!a>b>", 4)
	checkHtml(t, "<!a '>'>", 6)
	for _, s := range []string{"<!", "<!>", "<! >", "<!a", "<!A", "<!doctype html", "<!a b\n", "<!1>", "<!0a>", "<!9>", "<!-a>", "<!_a>", "<!:a>", "<!.>", "<!!a>", "<!?a?>", "<!/a>", "<!<a>", "<!@>", "<![>", "<!" + k + ">", "<!{>", "<! a>", "<!\na>", "<!\ta>", "<!\u00e9>", "<!\u00c4a>", "<!\x80>", "<!\xff>", "<!\x00>", "< !a>", "!a>", "<\\!a>", "<a!>"} {
		checkNoHtml(t, s)
	}
}

func TestEachByteInHtml(t *testing.T) {
	for _, c := range each() {
		if letterOr(c, "") {
			checkWholeHtml(t, "<!"+c+">")
			checkWholeHtml(t, "<!"+c+"a>")
		} else {
			checkNoHtml(t, "<!"+c+">")
			checkNoHtml(t, "<!"+c+"a>")
		}
		if c != ">" {
			checkWholeHtml(t, "<!a"+c+">")
			checkWholeHtml(t, "<!--"+c+"-->")
		}
		checkWholeHtml(t, "<!--a"+c+"-->")
		checkWholeHtml(t, "<?"+c+"?>")
		checkWholeHtml(t, "<![CDATA["+c+"]]>")
		if c != "-" {
			checkNoHtml(t, "<!"+c+"- a")
			checkNoHtml(t, "<!--a-"+c+">")
			checkNoHtml(t, "<!--a"+c+"->")
		}
		if c != ">" {
			checkNoHtml(t, "<!--a--"+c)
			checkNoHtml(t, "<?a?"+c)
			checkNoHtml(t, "<![CDATA[a]]"+c)
		}
		if c != "?" {
			checkNoHtml(t, "<?a"+c+">")
		}
		if c != "]" {
			checkNoHtml(t, "<![CDATA[a"+c+"]>")
			checkNoHtml(t, "<![CDATA[a]"+c+">")
		}
		checkHtml(t, "<"+c+">", htmlAsked("<"+c+">"))
		checkHtml(t, c+"a>", len("<a>")*strings.Count(c, "<"))
	}
}

func TestShortHtml(t *testing.T) {
	for _, s := range texts(8, "<", "!", "-", ">") {
		checkHtml(t, s, htmlAsked(s))
	}
	for _, s := range texts(7, "-", ">", "a", "\n") {
		checkHtml(t, "<!"+s, htmlAsked("<!"+s))
		checkHtml(t, "<!--"+s, htmlAsked("<!--"+s))
	}
	for _, s := range texts(6, "?", ">", "a", "<", "!") {
		checkHtml(t, "<"+s, htmlAsked("<"+s))
		checkHtml(t, "<?"+s, htmlAsked("<?"+s))
	}
	for _, s := range texts(6, "]", ">", "a", "[", "CDATA") {
		checkHtml(t, "<!["+s, htmlAsked("<!["+s))
		checkHtml(t, "<![CDATA["+s, htmlAsked("<![CDATA["+s))
	}
}

// P11.2: links.

func TestSchemes(t *testing.T) {
	for _, text := range []string{
		"http://x", "https://a.b/c?d=e&f#g", "mailto:a@b", "MAILTO:A@B.C", "ab:", "AB:", "zZ:", "a1:", "a0:x", "a+:", "a.:", "a-:", "a+.-9:x", "a++:", "a--b:", "made-up-scheme://foo,bar", "localhost:5001/foo", "irc://foo.bar:2233/baz", "ab::", "ab:c:d", "ab:@", "ab:a@b", "ab:/",
		"ab:" + punctuation[:len("!\"#$%&'()*+,-./:;")], "ab:=", "ab:?@[\\]^_" + k + "{|}~", "ab:\\", "ab:\\*", "ab:&amp;", "ab:&#60;", "ab:'", "ab:\"", "ab:[b](c)", "ab:*b*",
		"ab:\u00e9", "ab:\u20ac", "ab:\U0001f600", "ab:\u00a0", "ab:\x80", "ab:\xff", "ab:\xff\xfe", "ab:\xe2\x82", "ab:\u2003x", "ab:\u0085",
		"a" + strings.Repeat("b", 30) + ":", "a" + strings.Repeat("b", 31) + ":", "a" + strings.Repeat("1", 31) + ":x", "a" + strings.Repeat("-", 31) + ":x",
	} {
		checkScheme(t, text)
	}
	for _, text := range []string{
		"", "a", "ab", "http", "a.b", "a:", "A:b", "m:abc", ":", ":a", "::", "1a:", "0ab:x", "+a:", ".a:", "-a:", "_a:", "a_b:", "a,b:", "ab c:", "a/b:", "//a:b", "a@:b", "a%b:", "\u00e9b:", "a\u00e9:", "a\xff:", "\xffab:", "a\\:b", "foo.bar.baz", "a;b:", "a=b:", "a" + k + "b:", "[a]:b", "a[:", "ab\u003bc", "ab\uff1ac",
		"a" + strings.Repeat("b", 32) + ":", "a" + strings.Repeat("b", 32) + ":x", "a" + strings.Repeat("b", 33) + ":", "a" + strings.Repeat("b", 100) + ":", "a" + strings.Repeat("1", 32) + ":x", strings.Repeat("1", 31) + ":x",
		"ab: ", "ab: c", "ab:c d", " ab:c", "ab:c ", "ab:\t", "ab:\tc", "\tab:", "ab:\n", "ab:c\nd", "\nab:c", "ab:\r", "ab:c\r", "ab:\x00", "ab:c\x00", "ab:\x1f", "ab:\x7f", "ab:c\x7fd", "ab:<", "ab:c<", "ab:<c", "<ab:c", "ab:<c>", "ab :", "ab :c", "a b:", "http://a b",
	} {
		checkNoAuto(t, "<"+text+">")
		checkNoAuto(t, "<"+text)
	}
	checkNoAuto(t, "")
	checkAuto(t, "<ab:>>", "ab:", "ab:", 5)
	checkAuto(t, "<ab:c>d>", "ab:c", "ab:c", 6)
	for _, s := range begins() {
		checkNoAuto(t, s)
		checkNoAuto(t, s+"<ab:c>")
		checkNoAuto(t, s+"<a@b>")
		checkNoAuto(t, s+">")
	}
	for _, s := range []string{"<", "<ab", "<ab:", "<ab:c", "<ab:c\n", "<ab:c<", "<ab:c<d>", "<a@b", "<a@", "<@", "<>", "<<ab:c>", "<<ab:c>>", "<>ab:c>", "<a>b:c>", "ab:c>", "ab:c", "a@b>"} {
		checkNoAuto(t, s)
	}
}

func TestLongestSchemes(t *testing.T) {
	for n := range 40 {
		for _, first := range []string{"a", "Z"} {
			for _, sign := range []string{"b", "Y", "7", "+", ".", "-"} {
				s := first + strings.Repeat(sign, n)
				if n+1 < 2 || n+1 > 32 {
					checkNoAuto(t, "<"+s+":>")
					checkNoAuto(t, "<"+s+":c>")
				} else {
					checkAuto(t, "<"+s+":>", s+":", s+":", n+4)
					checkAuto(t, "<"+s+":c>d", s+":c", s+":c", n+5)
				}
			}
		}
	}
}

func TestEachByteInALink(t *testing.T) {
	for _, c := range each() {
		stands := c[0] > 32 && c[0] != 127 && c != "<" && c != ">"
		if stands {
			checkScheme(t, "ab:"+c)
			checkScheme(t, "ab:c"+c+"d")
		} else if c != ">" {
			checkNoAuto(t, "<ab:"+c+">")
			checkNoAuto(t, "<ab:c"+c+"d>")
			checkNoAuto(t, "<ab:c"+c)
		}
		if letterOr(c, "") {
			checkScheme(t, c+"b:d")
		} else {
			checkNoAuto(t, "<"+c+"b:d>")
			checkNoAuto(t, "<"+c+"ab:d>")
		}
		if letterOr(c, digits+"+.-") {
			checkScheme(t, "a"+c+":d")
			checkScheme(t, "a"+c+"b:d")
		} else {
			checkNoAuto(t, "<a"+c+":d>")
		}
		if !letterOr(c, digits+"+.-:") {
			checkNoAuto(t, "<ab"+c+">")
			checkNoAuto(t, "<ab"+c+":d>")
		}
		if letterOr(c, digits+ahead) {
			checkAddress(t, c+"@b")
			checkAddress(t, "a"+c+"@b")
			checkAddress(t, c+"a@b.c")
		} else if c != "@" {
			checkNoAuto(t, "<"+c+"@b>")
			checkNoAuto(t, "<a"+c+"@b>")
			checkNoAuto(t, "<"+c+"a@b>")
		}
		if letterOr(c, digits) {
			checkAddress(t, "a@"+c)
			checkAddress(t, "a@b."+c)
			checkAddress(t, "a@"+c+".b")
			checkAddress(t, "a@"+c+"b")
			checkAddress(t, "a@b"+c)
		} else {
			checkNoAuto(t, "<a@"+c+">")
			checkNoAuto(t, "<a@b."+c+">")
			checkNoAuto(t, "<a@"+c+".b>")
			checkNoAuto(t, "<a@"+c+"b>")
		}
		if letterOr(c, digits+"-.") {
			checkAddress(t, "a@b"+c+"d")
			checkAddress(t, "a@b.c"+c+"d")
		} else if c != ">" {
			checkNoAuto(t, "<a@b"+c+"d>")
			checkNoAuto(t, "<a@b"+c+">")
		}
	}
}

func TestAddresses(t *testing.T) {
	for _, text := range []string{
		"a@b", "a@b.c", "a.b@c", "foo@bar.example.com", "foo+special@Bar.baz-bar0.com", "A@B", "0@1", "1@2.3.4", "a@b.c.d.e.f", ".@b", "..@b", ".a.@b", "-@b", "--a@b", "_@b", "a_b@c", ahead + "@b", letters + digits + "@b", k + "@b", "'@b", "{}@b", "a/b?c=d&e#f@g", "mailto@b", "a@b-c", "a@b--c", "a@b-c-d.e-f", "a@0-0", "a@b.c-d", "a@" + letters[:50] + digits,
		strings.Repeat("a", 1000) + "@b", "a@" + strings.Repeat("b", 62), "a@" + strings.Repeat("b", 63), "a@" + strings.Repeat("b", 63) + ".c", "a@b." + strings.Repeat("c", 63), "a@" + strings.Repeat(strings.Repeat("b", 63)+".", 5) + "c", "a@b" + strings.Repeat("-", 61) + "c", "a@" + strings.Repeat("9", 63), "a@" + strings.Repeat("b.", 200) + "c",
	} {
		checkAddress(t, text)
	}
	for _, text := range []string{
		"@", "@b", "a@", "@b.c", "a", "a.b", "a@@b", "a@b@c", "@@", "@a@b", "a@b@", "a@.", "a@.b", "a@b.", "a@b..c", "a@..", "a@b...c", "a@.b.c", "a@b.c.", "a@-", "a@-b", "a@b-", "a@-.b", "a@b.-", "a@b.-c", "a@b.c-", "a@b-.c", "a@-b.c", "a@b.c-.d", "a@--", "a@_", "a@b_c", "a@_b", "a@b_", "a@b._c", "a@b+c", "a@b:c", "a@b/", "a@b/c", "a@b?c", "a@b#", "a@[1]", "a@b\\", "a@b,c", "a@" + k, "a@b" + k, "a@&amp;", "a@\u00e9", "a@b\u00e9", "a@b\xff", "a@\x80",
		"a:@b", "a,b@c", "a;@b", "\"a\"@b", "(a)@b", "[a]@b", "a\\@b", "\\a@b", "a\\+@bar.example.com", "\u00e9@b", "a\u00e9@b", "\xff@b", "a\x80@b", "\x00@b", "a @b", "a@ b", " a@b", "a@b ", "a@b c", "a\t@b", "a@b\n", "\na@b", "a@b\r", "a@b\x7f", "a@b<", "a<@b", "a@<b", "<a@b", "a\uff20b",
		"a@" + strings.Repeat("b", 64), "a@" + strings.Repeat("b", 65), "a@" + strings.Repeat("b", 64) + ".c", "a@b." + strings.Repeat("c", 64), "a@b." + strings.Repeat("c", 64) + ".d", "a@b" + strings.Repeat("-", 62) + "c", "a@" + strings.Repeat("9", 1000), "a@" + strings.Repeat("b.", 200),
	} {
		checkNoAuto(t, "<"+text+">")
		checkNoAuto(t, "<"+text)
	}
	// What begins as a scheme leads there, an address behind it or not.
	checkScheme(t, "mailto:a@b.c")
	checkScheme(t, "ab:c@d")
	checkNoAuto(t, "<a:b@c>")
	checkNoAuto(t, "<a@b:c@d>")
	checkAuto(t, "<a@b.c>", "mailto:a@b.c", "a@b.c", 7)
	checkAuto(t, "<a@b>c>", "mailto:a@b", "a@b", 5)
	checkAuto(t, "<&amp@b>", "mailto:&amp@b", "&amp@b", 8)
}

func TestLongestNames(t *testing.T) {
	for n := range 70 {
		for _, s := range []string{strings.Repeat("b", n), strings.Repeat("7", n), "b" + strings.Repeat("-", max(n-2, 0)) + "c"} {
			for _, text := range []string{"a@" + s, "a@" + s + ".d", "a@d." + s, "a@d." + s + ".e"} {
				if n == 0 && s == "" || len(s) > 63 {
					checkNoAuto(t, "<"+text+">")
				} else {
					checkAuto(t, "<"+text+">", "mailto:"+text, text, len(text)+2)
				}
			}
		}
	}
}

func TestShortLinks(t *testing.T) {
	for _, s := range texts(6, "a", ":", "@", ".", "-", ">") {
		dest, text, n := autoAsked("<" + s)
		checkAuto(t, "<"+s, dest, text, n)
	}
	for _, s := range texts(5, "<", ">", "a", "b:", "@", " ", "1", "+") {
		dest, text, n := autoAsked(s)
		checkAuto(t, s, dest, text, n)
	}
	for _, s := range texts(6, "b", ".", "-", "_", "@", ">") {
		dest, text, n := autoAsked("<a@" + s)
		checkAuto(t, "<a@"+s, dest, text, n)
	}
}

// P11.2: code.

func TestCode(t *testing.T) {
	for _, c := range []struct{ inside, text string }{
		{"a", "a"}, {"ab", "ab"}, {"a b", "a b"}, {"a  b", "a  b"}, {"foo", "foo"}, {"\x00", "\x00"}, {"\r", "\r"}, {"\t", "\t"}, {"\u00e9", "\u00e9"}, {"\u20ac", "\u20ac"}, {"\xff", "\xff"}, {"\xe2\x82", "\xe2\x82"}, {"<a>", "<a>"}, {"&amp;", "&amp;"}, {"*b*", "*b*"}, {"]", "]"}, {"[a](b)", "[a](b)"},
		{"\\", "\\"}, {"\\\\", "\\\\"}, {"a\\", "a\\"}, {"\\a", "\\a"}, {"\\*", "\\*"}, {"\\ ", "\\ "}, {" \\ ", "\\"}, {"\\\n", "\\ "},
		{"\n", " "}, {"\n\n", "  "}, {"a\nb", "a b"}, {"a\n\nb", "a  b"}, {"a \n b", "a   b"}, {"\na", " a"}, {"a\n", "a "}, {"\na\n", "a"}, {"\n\na\n\n", " a "}, {"\na ", "a"}, {" a\n", "a"}, {" \na", "  a"}, {"\n a\nb \n", " a b "}, {"a\r\nb", "a\r b"},
		{" ", " "}, {"  ", "  "}, {"   ", "   "}, {"    ", "    "}, {" \n", "  "}, {"\n ", "  "}, {" \n ", "   "}, {"\n\n\n", "   "}, {strings.Repeat(" ", 100), strings.Repeat(" ", 100)},
		{" a", " a"}, {"a ", "a "}, {" a ", "a"}, {"  a ", " a"}, {" a  ", "a "}, {"  a  ", " a "}, {"   a   ", "  a  "}, {"  a", "  a"}, {"a  ", "a  "}, {" a b ", "a b"}, {" ab ", "ab"}, {" a \n b ", "a   b"},
		{"\ta\t", "\ta\t"}, {" \t ", "\t"}, {"\t \t", "\t \t"}, {"\t ", "\t "}, {" \t", " \t"}, {" \ta\t ", "\ta\t"}, {"\t a \t", "\t a \t"}, {"\n\t\n", "\t"}, {" \r ", "\r"}, {" \x00 ", "\x00"}, {" \xff ", "\xff"}, {" \u00a0 ", "\u00a0"}, {"\u00a0a\u00a0", "\u00a0a\u00a0"}, {"\u2003a\u2003", "\u2003a\u2003"}, {" \u00e9 ", "\u00e9"},
	} {
		checkWholeCode(t, c.inside, c.text)
	}
}

func TestStretches(t *testing.T) {
	for n := 1; n <= 9; n++ {
		sign := strings.Repeat(k, n)
		for m := 1; m <= 9; m++ {
			other := strings.Repeat(k, m)
			if m == n {
				continue
			}
			checkCode(t, sign+"a"+other+"b"+sign, "a"+other+"b", n+1+m+1+n)
			checkCode(t, sign+" "+other+" "+sign+" c", other, n+1+m+1+n)
			checkCode(t, sign+"\n"+other+"a"+other+"\n"+sign+"\\", other+"a"+other, n+1+m+1+m+1+n)
			checkNoCode(t, sign+"a"+other)
			checkNoCode(t, sign+"a"+other+"b"+other)
			checkNoCode(t, sign+"a"+other+"b")
			checkNoCode(t, sign+" "+other+" ")
		}
		checkNoCode(t, sign)
		checkNoCode(t, sign+"a")
		checkNoCode(t, sign+" ")
		checkNoCode(t, sign+"\n")
		checkNoCode(t, sign+sign)
		checkCode(t, sign+"a"+sign+"b"+sign, "a", n+1+n)
		checkCode(t, sign+"a"+sign+" "+sign+"b"+sign, "a", n+1+n)
		// A \ hides no sign around code.
		checkCode(t, sign+"a\\"+sign+"b"+sign, "a\\", n+2+n)
		checkCode(t, sign+"\\"+sign, "\\", n+1+n)
		checkNoCode(t, sign+"a"+sign+k)
	}
	for _, s := range begins() {
		checkNoCode(t, s)
		checkNoCode(t, s+k+"a"+k)
		checkNoCode(t, s+k)
	}
	checkNoCode(t, "")
	checkNoCode(t, "\\"+k+"a"+k)
	checkNoCode(t, "'a'")
	checkNoCode(t, "\u00b4a\u00b4")
	checkNoCode(t, "~~~a~~~")
	checkNoCode(t, k+"a\u00b4")
	checkNoCode(t, k+"a'")
}

func TestEachByteInCode(t *testing.T) {
	for _, c := range each() {
		switch c {
		case k:
			checkNoCode(t, k+c+k)
			checkCode(t, k+" "+c+c+" "+k, c+c, 6)
		case "\n":
			checkWholeCode(t, c, " ")
			checkWholeCode(t, "a"+c+"b", "a b")
		default:
			checkWholeCode(t, c, c)
			checkWholeCode(t, "a"+c+"b", "a"+c+"b")
		}
		if c != k {
			checkNoCode(t, c+k+"a"+k)
			checkNoCode(t, k+"a"+c)
			checkNoCode(t, c+"a"+c)
		}
		if c == " " || c == "\n" {
			checkWholeCode(t, c+"a"+c, "a")
			checkWholeCode(t, " "+c+"\n", "   ")
		} else if c != k {
			checkWholeCode(t, c+"a"+c, c+"a"+c)
			checkWholeCode(t, " "+c+"\n", c)
			checkWholeCode(t, " a"+c, " a"+c)
			checkWholeCode(t, c+"a\n", c+"a ")
		}
	}
}

func TestShortCode(t *testing.T) {
	for _, s := range texts(7, k, "a", " ", "\n") {
		text, n := codeAsked(s)
		checkCode(t, s, text, n)
	}
	for _, s := range texts(9, k, "a", "\\") {
		text, n := codeAsked(k + s)
		checkCode(t, k+s, text, n)
	}
	for _, s := range texts(6, " ", "\n", "\t", "b", "\xff") {
		text, n := codeAsked(k + s + k)
		checkCode(t, k+s+k, text, n)
	}
}

// P11.2: signs behind a \.

func TestEscaped(t *testing.T) {
	if len(punctuation) != 32 {
		t.Fatal("there are other signs of punctuation")
	}
	for _, c := range each() {
		for _, more := range append(behind(), "\\", k, c) {
			if strings.Contains(punctuation, c) {
				checkEscaped(t, "\\"+c+more, c, true)
			} else {
				checkEscaped(t, "\\"+c+more, "", false)
			}
			if c != "\\" {
				checkEscaped(t, c+more, "", false)
				checkEscaped(t, c+"\\*"+more, "", false)
			}
		}
	}
	for _, s := range []string{"", "\\", "*", "a", " ", " \\*", "\n\\*", "/*", "\\ *", "\\\n", "\\\n*", "\\a*", "\\0", "\\\u00e9", "\\\u20ac", "\\\xff", "\\\x80*", "\uff3c*", "\xff\\*", "&#92;*", "\\\uff0a"} {
		checkEscaped(t, s, "", false)
	}
	for _, s := range texts(6, "\\", "*", "a", "\n") {
		text, is := escapedAsked(s)
		checkEscaped(t, s, text, is)
	}
}

// All calls.

func TestMixedTexts(t *testing.T) {
	found := [5]int{}
	count := func(at int, is bool) {
		if is {
			found[at]++
		}
	}
	for _, s := range mixed(200_000) {
		checkAsked(t, s)
		count(0, tagAsked(s) > 0)
		count(1, htmlAsked(s) > 0 && tagAsked(s) == 0)
		_, _, n := autoAsked(s)
		count(2, n > 0)
		_, n = codeAsked(s)
		count(3, n > 0)
		_, is := escapedAsked(s)
		count(4, is)
	}
	for i, n := range found {
		if n < 300 {
			t.Errorf("there are but %d texts of kind %d", n, i)
		}
	}
}

// An element is raw HTML, and no link.
func TestElementsAreNoLinks(t *testing.T) {
	for _, s := range mixed(100_000) {
		n := raw.Tag(s)
		if n == 0 {
			continue
		}
		if raw.Html(s) != n {
			t.Errorf("%q begins an element that is no HTML", s)
		}
		checkNoAuto(t, s)
	}
	// An address may begin as other raw HTML does.
	checkWholeHtml(t, "<!--a@b-->")
	checkHtml(t, "<!--a@b>-->", 11)
	checkAuto(t, "<!--a@b>-->", "mailto:!--a@b", "!--a@b", 8)
	checkHtml(t, "<!a@b>", 6)
	checkAuto(t, "<!a@b>", "mailto:!a@b", "!a@b", 6)
}

// P11.3: what is told doesn't hang on what stands behind.
func TestBehind(t *testing.T) {
	more := append(behind(), "*", "a b='c'>")
	for _, s := range mixed(30_000) {
		if n := raw.Tag(s); n > 0 {
			for _, x := range more {
				checkTag(t, s[:n]+x, n)
			}
		}
		if n := raw.Html(s); n > 0 {
			for _, x := range more {
				checkHtml(t, s[:n]+x, n)
			}
		}
		if dest, text, n := raw.Auto(s); n > 0 {
			for _, x := range more {
				checkAuto(t, s[:n]+x, dest, text, n)
			}
		}
		// One more of its sign makes the end of code no end.
		if text, n := raw.Code(s); n > 0 {
			for _, x := range more {
				checkCode(t, s[:n]+x, text, n)
			}
		}
		if text, is := raw.Escaped(s); is {
			for _, x := range append(more, k) {
				checkEscaped(t, s[:2]+x, text, true)
			}
		}
	}
}

func TestLongTexts(t *testing.T) {
	long := strings.Repeat("a", many)
	blanks := strings.Repeat(" ", many)
	checkWholeLength(t, "<"+long+">", "</"+long+">", "<a"+blanks+">", "</a"+blanks+">", "<a "+long+">", "<a b='"+long+"'>", "<a b="+long+">", "<a b"+blanks+"="+blanks+"c"+blanks+"/>", "<a"+strings.Repeat(" b", many)+">", "<a"+strings.Repeat(" b='c'", many)+"/>", "<a"+strings.Repeat("\n", many)+"b>")
	for _, s := range []string{"<" + long, "</" + long, "<a" + blanks, "<a" + blanks + "=", "<a " + long, "<a b='" + long, "<a b=" + long, "<a b" + blanks + "=" + blanks, "<a" + strings.Repeat(" b", many), "<a" + strings.Repeat(" b=", many), "<!--" + long, "<?" + long, "<![CDATA[" + long, "<!" + long, strings.Repeat("<", many), strings.Repeat("<a ", many), strings.Repeat("<!--", many)} {
		if n := raw.Html(s); n != 0 || raw.Tag(s) != 0 {
			t.Errorf("Html(%q) is %d", cut(s), n)
		}
	}
	for _, c := range []string{"<!--" + long + "-->", "<!--" + strings.Repeat("-", many) + "-->", "<?" + long + "?>", "<?" + strings.Repeat("?", many) + ">", "<![CDATA[" + strings.Repeat("]", many) + "]]>", "<!" + long + ">"} {
		if n := raw.Html(c + long); n != len(c) {
			t.Errorf("Html(%q) is %d, asked is %d", cut(c), n, len(c))
		}
	}
	for _, c := range []struct{ dest, text string }{{"ab:" + long, "ab:" + long}, {"mailto:" + long + "@b", long + "@b"}, {"mailto:a@" + strings.Repeat("b.", many) + "c", "a@" + strings.Repeat("b.", many) + "c"}} {
		if d, x, n := raw.Auto("<" + c.text + ">" + long); d != c.dest || x != c.text || n != len(c.text)+2 {
			t.Errorf("Auto(<%s) is %q, %q, %d", cut(c.text), cut(d), cut(x), n)
		}
	}
	for _, s := range []string{"<" + long, "<" + long + ">", "<" + long + ":>", "<a@" + long + ">", "<ab:" + long, "<a@" + strings.Repeat("b.", many) + ">", strings.Repeat("<", many), strings.Repeat("<ab:", many)} {
		if d, x, n := raw.Auto(s); d != "" || x != "" || n != 0 {
			t.Errorf("Auto(%q) is %q, %q, %d", cut(s), cut(d), cut(x), n)
		}
	}
	ticks := strings.Repeat(k, many)
	for _, c := range []struct{ s, want string }{{k + long + k, long}, {ticks + "a" + ticks, "a"}, {k + blanks + k, blanks}, {k + blanks + "a" + blanks + k, blanks[1:] + "a" + blanks[1:]}, {k + strings.Repeat("\n", many) + k, blanks}, {k + strings.Repeat("a"+k+k, many) + "a" + k, strings.Repeat("a"+k+k, many) + "a"}} {
		text, n := raw.Code(c.s + "b")
		if text != c.want || n != len(c.s) {
			t.Errorf("Code(%q) is %q, %d", cut(c.s), cut(text), n)
		}
	}
	for _, s := range []string{ticks, ticks + "a", k + long, ticks + "a" + ticks[1:], ticks[1:] + "a" + ticks, k + "a" + strings.Repeat(k+k+" ", many)} {
		if text, n := raw.Code(s); text != "" || n != 0 {
			t.Errorf("Code(%q) is %q, %d", cut(s), cut(text), n)
		}
	}
}

// checkWholeLength asks for each of these, as an element, with much behind.
func checkWholeLength(t *testing.T, l ...string) {
	t.Helper()
	for _, s := range l {
		more := strings.Repeat(">", many)
		if raw.Tag(s+more) != len(s) || raw.Html(s+more) != len(s) {
			t.Errorf("Tag(%q) is %d, asked is %d", cut(s), raw.Tag(s+more), len(s))
		}
	}
}

// A text of many signs is asked from each of them on.
func TestManyBeginnings(t *testing.T) {
	for _, s := range []string{strings.Repeat("<", many), strings.Repeat("<a ", many), strings.Repeat("<ab:", many), strings.Repeat("<a b='", many), strings.Repeat("<a b=\"<a b='", many), strings.Repeat("<a@b.", many), strings.Repeat("</a ", many)} {
		n := 0
		for i := range len(s) {
			_, _, auto := raw.Auto(s[i:])
			n += raw.Tag(s[i:]) + raw.Html(s[i:]) + auto
		}
		if n != 0 {
			t.Errorf("there is something in %q", cut(s))
		}
	}
}

func TestAnswersAreNewMemory(t *testing.T) {
	for _, s := range []string{"<ab:cdef>", "<abc@def>", k + "abcd" + k, k + " abcd " + k, k + "ab\ncd" + k, "\\*", "\\\\"} {
		s = strings.Clone(s)
		dest, text, _ := raw.Auto(s)
		code, _ := raw.Code(s)
		sign, _ := raw.Escaped(s)
		for _, part := range []string{dest, text, code, sign} {
			if shares(part, s) {
				t.Errorf("%q of %q is no new memory", part, s)
			}
		}
		if dest != "" && shares(dest, text) {
			t.Errorf("the link of %q shares its memory with its text", s)
		}
	}
}

// shares tells whether part begins within the memory of s.
func shares(part, s string) bool {
	if part == "" || s == "" {
		return false
	}
	at := uintptr(unsafe.Pointer(unsafe.StringData(part)))
	from := uintptr(unsafe.Pointer(unsafe.StringData(s)))
	return from <= at && at < from+uintptr(len(s))
}

func TestCallsHangOnTheirArgumentsAlone(t *testing.T) {
	l := mixed(2000)
	type answer struct {
		tag, html, auto, code int
		dest, text, in, sign  string
		is                    bool
	}
	ask := func(s string) answer {
		var a answer
		a.tag, a.html = raw.Tag(s), raw.Html(s)
		a.dest, a.text, a.auto = raw.Auto(s)
		a.in, a.code = raw.Code(s)
		a.sign, a.is = raw.Escaped(s)
		return a
	}
	first := make([]answer, len(l))
	for i, s := range l {
		first[i] = ask(s)
	}
	for i, s := range slices.Backward(l) {
		if a := ask(s); a != first[i] {
			t.Errorf("of %q comes first %v, then %v", s, first[i], a)
		}
	}
}

// The chapter's examples.
func TestExamples(t *testing.T) {
	checkTag(t, "<a b='c' d>", 11)
	if dest, _, _ := raw.Auto("<a@b.c>"); dest != "mailto:a@b.c" {
		t.Errorf("the link leads to %q", dest)
	}
}

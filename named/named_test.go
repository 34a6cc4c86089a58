package named_test

import (
	"bytes"
	"html"
	"regexp"
	"strconv"
	"strings"
	"testing"
	"unicode/utf8"
	"unsafe"

	"compositor/named"
)

// lost is fffd, byte by byte.
const lost = "\xef\xbf\xbd"

// pair is a name and its rune.
type pair struct {
	name string
	r    rune
}

// names tells each name there is.
func names() []pair {
	l := []pair{
		{"quot", 0x22}, {"amp", 0x26}, {"lt", 0x3c}, {"gt", 0x3e}, {"apos", 0x27},
		{"euro", 0x20ac}, {"hellip", 0x2026}, {"ndash", 0x2013}, {"mdash", 0x2014}, {"lsquo", 0x2018}, {"rsquo", 0x2019},
		{"ldquo", 0x201c}, {"rdquo", 0x201d}, {"bull", 0x2022}, {"trade", 0x2122}, {"dagger", 0x2020},
	}
	listed := "nbsp iexcl cent pound curren yen brvbar sect uml copy ordf laquo not shy reg macr " +
		"deg plusmn sup2 sup3 acute micro para middot cedil sup1 ordm raquo frac14 frac12 frac34 iquest " +
		"Agrave Aacute Acirc Atilde Auml Aring AElig Ccedil Egrave Eacute Ecirc Euml Igrave Iacute Icirc Iuml " +
		"ETH Ntilde Ograve Oacute Ocirc Otilde Ouml times Oslash Ugrave Uacute Ucirc Uuml Yacute THORN szlig " +
		"agrave aacute acirc atilde auml aring aelig ccedil egrave eacute ecirc euml igrave iacute icirc iuml " +
		"eth ntilde ograve oacute ocirc otilde ouml divide oslash ugrave uacute ucirc uuml yacute thorn yuml"
	for i, name := range strings.Fields(listed) {
		l = append(l, pair{name, rune(160 + i)})
	}
	return l
}

// runes tells the rune of each name.
func runes() map[string]rune {
	m := map[string]rune{}
	for _, p := range names() {
		m[p.name] = p.r
	}
	return m
}

var (
	known     = runes()
	reference = regexp.MustCompile(`^&(?:#([0-9]{1,7})|#[xX]([0-9a-fA-F]{1,6})|([A-Za-z0-9]+));`)
	hidden    = regexp.MustCompile("\\\\[!-/:-@[-`{-~]|&#?[A-Za-z0-9]+;")
)

// numberAsked tells what the number of these digits stands for.
func numberAsked(digits string, base int) string {
	n, _ := strconv.ParseInt(digits, base, 64)
	if n == 0 || n > 0x10ffff || 0xd800 <= n && n <= 0xdfff {
		return lost
	}
	return string(rune(n))
}

func refAsked(s string) (string, int) {
	m := reference.FindStringSubmatch(s)
	if m == nil {
		return "", 0
	}
	if m[1] != "" {
		return numberAsked(m[1], 10), len(m[0])
	}
	if m[2] != "" {
		return numberAsked(m[2], 16), len(m[0])
	}
	if r, ok := known[m[3]]; ok {
		return string(r), len(m[0])
	}
	return "", 0
}

func plainAsked(s string) string {
	return hidden.ReplaceAllStringFunc(s, func(part string) string {
		if part[0] == '\\' {
			return part[1:]
		}
		if text, n := refAsked(part); n > 0 {
			return text
		}
		return part
	})
}

func signAsked(c byte) bool {
	return strings.IndexByte("!\"#$%&'()*+,-./:;<=>?@[\\]^_`{|}~", c) >= 0
}

// texts tells all texts of at most so many of these pieces.
func texts(count int, pieces ...string) []string {
	all := []string{""}
	last := all
	for range count {
		var next []string
		for _, s := range last {
			for _, p := range pieces {
				next = append(next, s+p)
			}
		}
		all = append(all, next...)
		last = next
	}
	return all
}

// mixed tells texts of fewer than 30 pieces, the same ones at each call.
func mixed(count int) []string {
	pieces := []string{
		"&", "&", "&", ";", ";", ";", "#", "#", "x", "X", "\\", "\\", "\\", "*", "_", "`", "~", "!", "/", ":", "@", "[", "]", "{", "}",
		"0", "0", "1", "9", "41", "a", "F", "g", "d800", "10ffff", "110000", "amp", "lt", "copy", "Auml", "uml", "sup2", "frac14", "hellip", "nope",
		"&amp;", "&quot;", "&eth;", "&#92;", "&#38;", "&#x26;", "&#0;", " ", "\t", "\n", "\x00", "\x7f",
		"\u00e9", "\u20ac", "\U0001f600", "\x80", "\xff", "\xc3", "\xe2\x82", "\xed\xa0\x80", "\xf4\x90\x80\x80",
	}
	state := uint64(20261118)
	next := func(below int) int {
		state = state*6364136223846793005 + 1442695040888963407
		return int(state>>33) % below
	}
	l := make([]string, count)
	for i := range l {
		for range next(30) {
			l[i] += pieces[next(len(pieces))]
		}
	}
	return l
}

// each is every byte as a text.
func each() []string {
	l := make([]string, 256)
	for n := range l {
		l[n] = string([]byte{byte(n)})
	}
	return l
}

func checkName(t *testing.T, s string, want rune, is bool) {
	t.Helper()
	if r, ok := named.Name(s); r != want || ok != is {
		t.Errorf("Name(%q) is %#x, %v, asked is %#x, %v", s, r, ok, want, is)
	}
}

func checkNoName(t *testing.T, s string) {
	t.Helper()
	checkName(t, s, 0, false)
}

func checkRef(t *testing.T, s, want string, bytes int) {
	t.Helper()
	if text, n := named.Ref(s); text != want || n != bytes {
		t.Errorf("Ref(%q) is %q, %d, asked is %q, %d", s, text, n, want, bytes)
	}
}

// checkWhole asks for a reference that is all of s, and for the same one with others behind it.
func checkWhole(t *testing.T, s, want string) {
	t.Helper()
	checkRef(t, s, want, len(s))
	for _, behind := range []string{"x", ";", " ", "\n", "\\", "&", "0", "&lt;", "&#65;&", s, "\u20ac", "\xff", "\x00"} {
		checkRef(t, s+behind, want, len(s))
	}
	checkPlain(t, s, want)
	checkPlain(t, "x"+s+s+"y", "x"+want+want+"y")
}

// checkNone asks for no reference, and that the text stays, in which there is none else.
func checkNone(t *testing.T, s string) {
	t.Helper()
	checkRef(t, s, "", 0)
	checkPlain(t, s, s)
}

func checkPlain(t *testing.T, s, want string) {
	t.Helper()
	if p := named.Plain(s); p != want {
		t.Errorf("Plain(%q) is %q, asked is %q", s, p, want)
	}
}

// checkAsked holds both against what the chapter asks.
func checkAsked(t *testing.T, s string) {
	t.Helper()
	text, n := refAsked(s)
	checkRef(t, s, text, n)
	checkPlain(t, s, plainAsked(s))
}

// P6.1: names

func TestEachName(t *testing.T) {
	for _, p := range names() {
		checkName(t, p.name, p.r, true)
		checkWhole(t, "&"+p.name+";", string(p.r))
		// The names are those of HTML.
		if s := html.UnescapeString("&" + p.name + ";"); s != string(p.r) {
			t.Errorf("the name %s is asked to be %q, and is %q", p.name, string(p.r), s)
		}
	}
	if len(known) != 5+11+96 {
		t.Errorf("%d names are asked", len(known))
	}
}

func TestSomeNames(t *testing.T) {
	for name, s := range map[string]string{
		"quot": "\"", "amp": "&", "lt": "<", "gt": ">", "apos": "'", "euro": "€", "hellip": "…", "ndash": "–", "mdash": "—", "lsquo": "‘", "rsquo": "’",
		"ldquo": "“", "rdquo": "”", "bull": "•", "trade": "™", "dagger": "†", "nbsp": "\u00a0", "iexcl": "¡", "copy": "©", "shy": "\u00ad", "sup2": "²", "sup3": "³",
		"sup1": "¹", "frac14": "¼", "frac12": "½", "frac34": "¾", "iquest": "¿", "Agrave": "À", "AElig": "Æ", "ETH": "Ð", "times": "×", "THORN": "Þ", "szlig": "ß",
		"agrave": "à", "aelig": "æ", "eth": "ð", "divide": "÷", "thorn": "þ", "yuml": "ÿ",
	} {
		r, _ := utf8.DecodeRuneInString(s)
		checkName(t, name, r, true)
		checkWhole(t, "&"+name+";", s)
	}
}

// checkMaybeName asks for what the list of names tells of s.
func checkMaybeName(t *testing.T, s string) {
	t.Helper()
	r, is := known[s]
	checkName(t, s, r, is)
	if is {
		checkWhole(t, "&"+s+";", string(r))
	} else {
		checkAsked(t, "&"+s+";")
	}
}

func TestNamesInOtherCases(t *testing.T) {
	for _, p := range names() {
		checkMaybeName(t, strings.ToUpper(p.name))
		checkMaybeName(t, strings.ToLower(p.name))
		for i := range len(p.name) {
			checkMaybeName(t, p.name[:i]+strings.ToUpper(p.name[i:i+1])+p.name[i+1:])
			checkMaybeName(t, p.name[:i]+strings.ToLower(p.name[i:i+1])+p.name[i+1:])
		}
	}
	for _, s := range []string{"AMP", "Amp", "QUOT", "Lt", "COPY", "Euro", "Eth", "ETh", "Thorn", "AELIG", "Aelig", "AUML", "SZLIG", "Sup2", "NBSP"} {
		checkNoName(t, s)
		checkNone(t, "&"+s+";")
	}
}

func TestNamesCutShort(t *testing.T) {
	for _, p := range names() {
		for i := range len(p.name) {
			checkMaybeName(t, p.name[:i])
			checkMaybeName(t, p.name[i+1:])
			checkMaybeName(t, p.name[:i]+p.name[i+1:])
		}
	}
	for _, s := range []string{"", "am", "mp", "quo", "l", "g", "apo", "helli", "ellip", "dagge", "trad", "sup", "frac", "frac1", "rac14", "nbs", "bsp", "yum", "Auh"} {
		checkNoName(t, s)
		checkNone(t, "&"+s+";")
	}
}

func TestNamesOneSignLonger(t *testing.T) {
	for _, p := range names() {
		for _, c := range each() {
			checkMaybeName(t, p.name+c)
			checkMaybeName(t, c+p.name)
		}
		checkMaybeName(t, p.name+p.name)
	}
	for _, s := range []string{"amps", "amp;", "&amp", "&amp;", " amp", "amp ", "amp\x00", "\x00amp", "copyr", "hellips", "hellip2", "daggers", "sup22", "not1", "lte", "amp\u00e9"} {
		checkNoName(t, s)
		checkAsked(t, "&"+s+";")
	}
}

func TestNoNames(t *testing.T) {
	for _, s := range []string{
		"", " ", "x", "nope", "&", ";", "#", "#65", "#x41", "\\", "\x00", "\xff", "\xc3\xa9", "\u20ac", "Dagger", "ensp", "times2", "sup4", "sup0", "frac13", "laquo raquo", "nbsp iexcl",
		"160", "255", "\u00a0", "listed", strings.Repeat("a", 1<<20), strings.Repeat("amp", 1<<20),
	} {
		checkNoName(t, s)
	}
	for _, c := range each() {
		checkNoName(t, c)
		for _, d := range each() {
			checkMaybeName(t, c+d)
		}
	}
}

// P6.1: references

func TestExamplesOfReferences(t *testing.T) {
	checkRef(t, "&copy;", "\xc2\xa9", 6)
	checkRef(t, "&nope;", "", 0)
	checkRef(t, "&#65;", "A", 5)
	checkRef(t, "&#x41;", "A", 6)
	checkRef(t, "&#X41;", "A", 6)
	checkRef(t, "&euro;", "\xe2\x82\xac", 6)
	checkRef(t, "&#x1F600;", "\xf0\x9f\x98\x80", 9)
}

func TestNoReferences(t *testing.T) {
	for _, s := range []string{
		// Nothing, and other things.
		"", "x", " ", ";", "#", "#65;", "amp;", "amp", "\x00", "\xff", "\xc3", "\xe2\x82\xac", "\xef\xbf\xbd",
		// Without the ;, without the &, with nothing between.
		"&amp", "&copy", "&amp x", "&amp:", "&#65", "&#65 ", "&#65:", "&#x41", "&#x41 ", "&#x41x;", "x41;", "#x41;", "lt;", "&", "&;", "&;;", "&#", "&#;", "&#;;", "&#x", "&#x;", "&#X", "&#X;", "&x;", "&X;", "&x41;",
		// Not at the beginning.
		" &#65", "& amp;", "& ;", "&amp ;", "&amp\n;", "&a mp;", "& #65;", "&# 65;", "&#65 ;", "&#x 41;", "&#x41 ;", "&#6 5;", "&\namp;", "&#\n65;",
		// Names that are none.
		"&nope;", "&Amp;", "&amps;", "&am;", "&\u00e9;", "&\u20ac;", "&\xff;", "&\x00;", "&amp\x00;", "&amp\xff;", "&65;", "&-;", "&.;", "&#amp;", "&#;amp;",
		// Numbers without a digit, and with other signs.
		"&#a;", "&#f;", "&#g;", "&#xg;", "&#xG;", "&#x;41;", "&#xx41;", "&#xX41;", "&#0x41;", "&#x0x41;", "&##65;", "&#x#41;", "&#-1;", "&#+1;", "&#x-1;", "&#x+1;", "&#1.;", "&#.1;", "&#1_0;", "&#x1_0;", "&#1e1;", "&#41h;", "&#x41h;", "&#6\xff5;",
		"&#\u0661;", "&#\uff11;", "&#x\uff21;", "&#x\uff11;", "&#6a;", "&#a6;", "&#6A;", "&#x4g;", "&#xg4;", "&\uff03" + "65;",
		// Numbers with too many digits.
		"&#12345678;", "&#00000000;", "&#00000065;", "&#x1234567;", "&#x0000000;", "&#x0000041;", "&#X0000041;", "&#99999999999999999999999999;", "&#xffffffffffffffffffffffffff;", "&#18446744073709551681;", "&#x10000000000000041;",
		"&#" + strings.Repeat("0", 1<<20) + "65;", "&#x" + strings.Repeat("0", 1<<20) + "41;", "&" + strings.Repeat("a", 1<<20) + ";",
	} {
		checkNone(t, s)
		checkRef(t, "x"+s, "", 0)
	}
	// A reference stands behind what is none.
	for _, s := range []string{"x&amp;", " &amp;", "&&amp;", "\\&amp;", "&x&amp;", "&#&amp;", "&#x&amp;", "&am&amp;", "&#6&amp;", "&amp&amp;", "\x00&amp;", "\xff&amp;", "\n&amp;", ";&amp;"} {
		checkRef(t, s, "", 0)
	}
}

func TestReferencesEndEverywhere(t *testing.T) {
	for _, p := range names() {
		s := "&" + p.name + ";"
		for i := range len(s) {
			checkNone(t, s[:i])
		}
		checkRef(t, s[1:], "", 0)
	}
	for _, s := range []string{"&#65;", "&#1114111;", "&#x41;", "&#X41;", "&#x10FFFF;"} {
		for i := range len(s) {
			checkNone(t, s[:i])
		}
		checkRef(t, s[1:], "", 0)
	}
}

func TestDecimalNumbers(t *testing.T) {
	for _, c := range []struct{ digits, want string }{
		// One digit.
		{"0", lost}, {"1", "\x01"}, {"2", "\x02"}, {"3", "\x03"}, {"4", "\x04"}, {"5", "\x05"}, {"6", "\x06"}, {"7", "\x07"}, {"8", "\x08"}, {"9", "\t"},
		{"10", "\n"}, {"13", "\r"}, {"32", " "}, {"38", "&"}, {"65", "A"}, {"92", "\\"}, {"126", "~"}, {"127", "\x7f"}, {"128", "\u0080"}, {"150", "\u0096"}, {"160", "\u00a0"}, {"169", "©"}, {"255", "ÿ"},
		{"2047", "\u07ff"}, {"2048", "\u0800"}, {"8364", "€"}, {"65533", lost}, {"65534", "\ufffe"}, {"65535", "\uffff"}, {"65536", "\U00010000"}, {"128512", "\U0001f600"},
		// Zeros ahead, up to seven digits.
		{"00", lost}, {"000000", lost}, {"0000000", lost}, {"01", "\x01"}, {"0000001", "\x01"}, {"0000065", "A"}, {"000065", "A"}, {"010", "\n"},
		// The ends of the runes.
		{"55295", "\ud7ff"}, {"55296", lost}, {"56320", lost}, {"57343", lost}, {"57344", "\ue000"}, {"0055296", lost}, {"1114111", "\U0010ffff"}, {"1114112", lost}, {"1234567", lost}, {"9999999", lost},
	} {
		checkWhole(t, "&#"+c.digits+";", c.want)
	}
}

func TestNumbersBaseSixteen(t *testing.T) {
	for _, c := range []struct{ digits, want string }{
		// One digit.
		{"0", lost}, {"1", "\x01"}, {"2", "\x02"}, {"3", "\x03"}, {"4", "\x04"}, {"5", "\x05"}, {"6", "\x06"}, {"7", "\x07"}, {"8", "\x08"}, {"9", "\t"}, {"a", "\n"}, {"b", "\x0b"}, {"c", "\x0c"}, {"d", "\r"}, {"e", "\x0e"}, {"f", "\x0f"},
		{"10", "\x10"}, {"26", "&"}, {"41", "A"}, {"5c", "\\"}, {"7e", "~"}, {"7f", "\x7f"}, {"80", "\u0080"}, {"96", "\u0096"}, {"a0", "\u00a0"}, {"a9", "©"}, {"ff", "ÿ"},
		{"7ff", "\u07ff"}, {"800", "\u0800"}, {"20ac", "€"}, {"fffd", lost}, {"fffe", "\ufffe"}, {"ffff", "\uffff"}, {"10000", "\U00010000"}, {"1f600", "\U0001f600"}, {"abcdef", lost}, {"abcde", "\U000abcde"}, {"cdef", "\ucdef"},
		// Zeros ahead, up to six digits.
		{"00", lost}, {"00000", lost}, {"000000", lost}, {"01", "\x01"}, {"000001", "\x01"}, {"000041", "A"}, {"00041", "A"},
		// The ends of the runes.
		{"d7ff", "\ud7ff"}, {"d800", lost}, {"dc00", lost}, {"dfff", lost}, {"e000", "\ue000"}, {"00d800", lost}, {"10ffff", "\U0010ffff"}, {"110000", lost}, {"123456", lost}, {"ffffff", lost},
	} {
		upper := strings.ToUpper(c.digits)
		for _, s := range []string{"&#x" + c.digits + ";", "&#X" + c.digits + ";", "&#x" + upper + ";", "&#X" + upper + ";"} {
			checkWhole(t, s, c.want)
		}
	}
	checkWhole(t, "&#xaBcDe;", "\U000abcde")
	checkWhole(t, "&#XdFfF;", lost)
}

func TestEachNumber(t *testing.T) {
	for n := range 1 << 21 {
		want := lost
		if n != 0 && utf8.ValidRune(rune(n)) {
			want = string(rune(n))
		}
		for _, s := range []string{"&#" + strconv.Itoa(n) + ";", "&#x" + strconv.FormatInt(int64(n), 16) + ";"} {
			if text, bytes := named.Ref(s); text != want || bytes != len(s) {
				t.Fatalf("Ref(%q) is %q, %d, asked is %q, %d", s, text, bytes, want, len(s))
			}
		}
	}
	for n := 1 << 21; n < 10000000; n += 997 {
		checkRef(t, "&#"+strconv.Itoa(n)+";", lost, 10)
		checkRef(t, "&#x"+strconv.FormatInt(int64(n), 16)+";", lost, 10)
	}
}

func TestCountsOfDigits(t *testing.T) {
	for count := range 20 {
		for _, digit := range []string{"0", "1", "9", "a", "F"} {
			digits := strings.Repeat(digit, count)
			checkAsked(t, "&#"+digits+";")
			checkAsked(t, "&#x"+digits+";")
			checkAsked(t, "&#X"+digits+";")
			checkAsked(t, "&"+digits+";")
		}
	}
}

func TestEachByteInAReference(t *testing.T) {
	for _, ahead := range []string{"", "&", "&#", "&#x", "&#X", "&#6", "&#x4", "&am", "&sup"} {
		for _, c := range each() {
			checkAsked(t, ahead+c)
			for _, behind := range []string{";", "1;", "p;", "f;"} {
				checkAsked(t, ahead+c+behind)
			}
		}
	}
}

func TestReferencesShort(t *testing.T) {
	for _, s := range texts(5, "&", ";", "#", "x", "X", "4", "a", "lt", "\\") {
		checkAsked(t, s)
		checkAsked(t, "&"+s)
		checkAsked(t, "&#"+s)
	}
}

// P6.1: signs of punctuation

func TestEachSign(t *testing.T) {
	count := 0
	for n := range 256 {
		is := 33 <= n && n <= 47 || 58 <= n && n <= 64 || 91 <= n && n <= 96 || 123 <= n && n <= 126
		if s := named.Sign(byte(n)); s != is || is != signAsked(byte(n)) {
			t.Errorf("Sign(%d) is %v, asked is %v", n, s, is)
		}
		if is {
			count++
		}
	}
	if count != 32 {
		t.Errorf("%d signs are asked", count)
	}
	for n, is := range map[byte]bool{
		0: false, 31: false, 32: false, 33: true, 47: true, 48: false, 57: false, 58: true, 64: true, 65: false, 90: false, 91: true, 96: true, 97: false, 122: false, 123: true, 126: true, 127: false, 128: false,
		161: false, 175: false, 186: false, 191: false, 255: false, '\t': false, '\n': false, '*': true, '\\': true, '&': true, ';': true, '_': true,
	} {
		if named.Sign(n) != is {
			t.Errorf("Sign(%d) is %v", n, !is)
		}
	}
}

// P6.2

func TestPlain(t *testing.T) {
	for _, c := range []struct{ s, want string }{
		{"", ""}, {"a", "a"}, {"a b", "a b"}, {"Two words.", "Two words."}, {" \t\n", " \t\n"}, {"a\r\nb", "a\r\nb"}, {"\x00", "\x00"}, {"a\x00b", "a\x00b"}, {"*_`[]", "*_`[]"}, {"#;", "#;"},
		// The examples.
		{"&copy;", "\u00a9"}, {"a\\*b", "a*b"}, {"&nope;", "&nope;"},
		// A \ ahead of a sign, of a letter, of a blank, of an LF, at the end.
		{"\\*", "*"}, {"\\*\\_", "*_"}, {"\\!\\~", "!~"}, {"a\\.", "a."}, {"\\a", "\\a"}, {"\\ab", "\\ab"}, {"\\Z", "\\Z"}, {"\\0", "\\0"}, {"\\9", "\\9"}, {"\\ ", "\\ "}, {"\\\t", "\\\t"}, {"\\\n", "\\\n"}, {"\\\r", "\\\r"}, {"\\\x00", "\\\x00"}, {"\\\x7f", "\\\x7f"}, {"a\\\nb", "a\\\nb"}, {"a\\ b", "a\\ b"},
		{"\\", "\\"}, {"a\\", "a\\"}, {"*\\", "*\\"}, {"a\n\\", "a\n\\"},
		// Several \ in a row.
		{"\\\\", "\\"}, {"\\\\\\", "\\\\"}, {"\\\\\\\\", "\\\\"}, {"\\\\\\\\\\", "\\\\\\"}, {"a\\\\", "a\\"}, {"a\\\\\\", "a\\\\"}, {"\\\\*", "\\*"}, {"\\\\\\*", "\\*"}, {"\\\\\\\\*", "\\\\*"}, {"\\\\a", "\\a"}, {"\\\\\\a", "\\\\a"}, {"\\\\ ", "\\ "}, {"\\\\\\\n", "\\\\\n"}, {"\\a\\", "\\a\\"}, {"\\ \\*", "\\ *"},
		// A \ ahead of a reference, and inside one.
		{"\\&", "&"}, {"\\&amp;", "&amp;"}, {"\\\\&amp;", "\\&"}, {"\\\\\\&amp;", "\\&amp;"}, {"\\&#65;", "&#65;"}, {"\\&#x41;", "&#x41;"}, {"\\&&amp;", "&&"}, {"\\&amp;&amp;", "&amp;&"}, {"&\\amp;", "&\\amp;"}, {"&amp\\;", "&amp;"}, {"&\\#65;", "&#65;"}, {"&#\\65;", "&#\\65;"}, {"&#65\\;", "&#65;"}, {"&\\;", "&;"}, {"\\\\amp;", "\\amp;"},
		// What a reference stands for is not gone through again.
		{"&amp;amp;", "&amp;"}, {"&amp;#65;", "&#65;"}, {"&#38;lt;", "&lt;"}, {"&#x26;lt;", "&lt;"}, {"&amp;&amp;", "&&"}, {"&amp;&amp;lt;", "&&lt;"}, {"&amp;amp;amp;", "&amp;amp;"}, {"&&amp;lt;", "&&lt;"}, {"&#38;#38;#38;", "&#38;#38;"},
		{"&#92;*", "\\*"}, {"&#x5c;*", "\\*"}, {"&#92;&#92;", "\\\\"}, {"&#92;\\*", "\\*"}, {"\\&#92;", "&#92;"}, {"&#92;&amp;", "\\&"}, {"&#92;&#42;", "\\*"}, {"&#92;", "\\"}, {"a&#92;", "a\\"}, {"\\&#92;*", "&#92;*"}, {"&#92;amp;", "\\amp;"}, {"&#92;\n", "\\\n"},
		{"&#59;", ";"}, {"&amp&#59;", "&amp;"}, {"&#35;", "#"}, {"&&#35;65;", "&#65;"}, {"\\&#35;", "&#35;"},
		// References among other things.
		{"a&lt;b", "a<b"}, {"&lt;&gt;", "<>"}, {"&lt;lt;", "<lt;"}, {"&nope;&lt;", "&nope;<"}, {"&lt", "&lt"}, {"&lt&lt;", "&lt<"}, {"&&lt;", "&<"}, {"&&&lt;;", "&&<;"}, {"&;&lt;", "&;<"}, {"&#;&lt;", "&#;<"}, {"&#12345678;&lt;", "&#12345678;<"}, {"&hellip&hellip;", "&hellip\u2026"}, {"&#0;&#xd800;", lost + lost}, {"&#1234567&#x41;", "&#1234567A"}, {"&#x123456&#65;", "&#x123456A"},
		{"&#10;", "\n"}, {"&#32;a", " a"}, {"a&nbsp;b", "a\u00a0b"}, {"&ldquo;We&rsquo;re &mdash; &hellip;&rdquo;", "\u201cWe\u2019re \u2014 \u2026\u201d"},
		// Runes of two to four bytes, and bytes that belong to none.
		{"\u00e9", "\u00e9"}, {"\u20ac", "\u20ac"}, {"\U0001f600", "\U0001f600"}, {"a\u00e9\u20ac\U0001f600b", "a\u00e9\u20ac\U0001f600b"}, {"\\\u00e9", "\\\u00e9"}, {"\\\u00a1", "\\\u00a1"}, {"\\\u20ac", "\\\u20ac"}, {"\\\U0001f600", "\\\U0001f600"}, {"\u00e9\\*\u20ac", "\u00e9*\u20ac"}, {"\u20ac&amp;\U0001f600", "\u20ac&\U0001f600"}, {"\u20ac\\\\", "\u20ac\\"},
		{"\x80", "\x80"}, {"\xff", "\xff"}, {"\xc3", "\xc3"}, {"\xe2\x82", "\xe2\x82"}, {"\\\xff", "\\\xff"}, {"\\\xff*", "\\\xff*"}, {"\xff\\*", "\xff*"}, {"\xc3\\*\xa9", "\xc3*\xa9"}, {"\xe2&lt;\x82\xac", "\xe2<\x82\xac"}, {"\xed\xa0\x80", "\xed\xa0\x80"}, {"\xf4\x90\x80\x80", "\xf4\x90\x80\x80"}, {"\xef\xbf\xbd", lost}, {"\ufeffa", "\ufeffa"},
	} {
		checkPlain(t, c.s, c.want)
		checkPlain(t, "a "+c.s, "a "+c.want)
		if plainAsked(c.s) != c.want {
			t.Errorf("of %q both %q and %q are asked", c.s, c.want, plainAsked(c.s))
		}
	}
}

func TestPlainOfEachByte(t *testing.T) {
	for n, c := range each() {
		checkPlain(t, c, c)
		want := "\\" + c
		if signAsked(byte(n)) {
			want = c
		}
		checkPlain(t, "\\"+c, want)
		checkPlain(t, "x\\"+c+"y", "x"+want+"y")
		checkPlain(t, "\\\\"+c, "\\"+c)
		checkPlain(t, "&"+c+"lt;", plainAsked("&"+c+"lt;"))
		for _, d := range each() {
			checkAsked(t, c+d)
			checkAsked(t, "\\"+c+d)
			checkAsked(t, c+"\\"+d)
		}
	}
}

func TestPlainShort(t *testing.T) {
	for _, s := range texts(5, "\\", "*", "a", " ", "\n", "&", "&lt;", "&#92;", ";", "\u00e9", "\xff") {
		checkAsked(t, s)
	}
}

func TestMixed(t *testing.T) {
	for _, s := range mixed(50000) {
		checkAsked(t, s)
	}
}

func TestLongTexts(t *testing.T) {
	const many = 1 << 20
	for _, c := range []struct{ s, want string }{
		{"a", "a"}, {"\\*", "*"}, {"\\\\", "\\"}, {"\\a", "\\a"}, {"&", "&"}, {"&#", "&#"}, {"&#x", "&#x"}, {"&#0", "&#0"}, {"&am", "&am"}, {"&amp", "&amp"},
		{"&amp;", "&"}, {"&#0;", lost}, {"&euro;", "\u20ac"}, {"&eth;", "\u00f0"}, {"\u20ac", "\u20ac"}, {"\xff", "\xff"}, {";", ";"},
	} {
		if p := named.Plain(strings.Repeat(c.s, many)); p != strings.Repeat(c.want, many) {
			t.Errorf("Plain of many %q has %d bytes, or others", c.s, len(p))
		}
	}
	for _, s := range []string{"a", "#", "&", "#0", "#x0", "\\", " "} {
		checkRef(t, "&"+strings.Repeat(s, many), "", 0)
		checkRef(t, "&lt;"+strings.Repeat(s, many), "<", 4)
	}
}

// P6.3

// hide tells s with each sign of punctuation behind a \.
func hide(s string) string {
	var b []byte
	for i := range len(s) {
		if signAsked(s[i]) {
			b = append(b, '\\')
		}
		b = append(b, s[i])
	}
	return string(b)
}

// numbered tells s with each rune as its number, in these ways by turns; the rune 0 has none.
func numbered(s string) string {
	var b strings.Builder
	for i, r := range s {
		switch n := int64(r); i % 4 {
		case 0:
			b.WriteString("&#" + strconv.FormatInt(n, 10) + ";")
		case 1:
			b.WriteString("&#x" + strconv.FormatInt(n, 16) + ";")
		case 2:
			b.WriteString("&#X" + strings.ToUpper(strconv.FormatInt(n, 16)) + ";")
		default:
			b.WriteString(hide(string(r)))
		}
	}
	return b.String()
}

// withNames tells s with each rune that has a name as that, and all other signs of punctuation behind a \.
func withNames(s string) string {
	byRune := map[rune]string{}
	for _, p := range names() {
		byRune[p.r] = p.name
	}
	var b strings.Builder
	for _, r := range s {
		if name := byRune[r]; name != "" {
			b.WriteString("&" + name + ";")
		} else {
			b.WriteString(hide(string(r)))
		}
	}
	return b.String()
}

func TestHiddenComesBack(t *testing.T) {
	l := append(mixed(20000), texts(4, "\\", "*", "a", " ", "\n", "&", "&lt;", "&#92;", ";", "\u00e9", "\u201c")...)
	for _, c := range each() {
		l = append(l, c, "a"+c+"b", c+c, "\\"+c, "&"+c)
	}
	for _, s := range l {
		checkPlain(t, hide(s), s)
		checkPlain(t, hide(hide(s)), hide(s))
		if utf8.ValidString(s) && strings.IndexByte(s, 0) < 0 {
			checkPlain(t, numbered(s), s)
			checkPlain(t, withNames(s), s)
			checkPlain(t, named.Plain(withNames(numbered(s))), s)
		}
	}
}

func TestPlainTextStays(t *testing.T) {
	for _, s := range mixed(20000) {
		s = strings.NewReplacer("\\", "", "&", "").Replace(s)
		checkPlain(t, s, s)
	}
}

// The rules that hold everywhere: an answer shares no memory with an argument, which stays as it is.

func shares(a, b string) bool {
	if a == "" || b == "" {
		return false
	}
	from, other := uintptr(unsafe.Pointer(unsafe.StringData(a))), uintptr(unsafe.Pointer(unsafe.StringData(b)))
	return from < other+uintptr(len(b)) && other < from+uintptr(len(a))
}

func TestAnswersAreNewMemory(t *testing.T) {
	for _, s := range []string{"a", "abc", "a b ~", "\\*", "\\*abc", "\\\\", "&amp;", "&#65;", "&euro;&x", "&nope;", "&", "\\", "\u20ac", "\xff"} {
		b := []byte(s)
		text := unsafe.String(&b[0], len(b))
		if shares(named.Plain(text), text) {
			t.Errorf("Plain(%q) shares memory with it", s)
		}
		if told, _ := named.Ref(text); shares(told, text) {
			t.Errorf("Ref(%q) shares memory with it", s)
		}
		named.Name(text)
		if !bytes.Equal(b, []byte(s)) {
			t.Errorf("%q is changed", s)
		}
	}
	if s := "abc"; !shares(s[1:], s) || shares(s, strings.Clone(s)) {
		t.Error("shares doesn't tell what shares memory")
	}
}

// A call hangs on its arguments alone: asked in between, and again, it answers the same.
func TestCallsHangOnTheirArguments(t *testing.T) {
	l := mixed(500)
	for range 2 {
		for i := range l {
			checkAsked(t, l[i])
			checkAsked(t, l[len(l)-1-i])
		}
	}
}

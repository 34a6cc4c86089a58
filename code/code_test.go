package code_test

import (
	"bytes"
	"math"
	"slices"
	"strings"
	"testing"
	"unicode/utf8"
	"unsafe"

	"compositor/code"
)

// pair is a code and its rune.
type pair struct {
	c byte
	r rune
}

// odd are the codes from 128 to 159 that have a rune.
func odd() []pair {
	return []pair{
		{128, '€'}, {130, '‚'}, {131, 'ƒ'}, {132, '„'}, {133, '…'}, {134, '†'}, {135, '‡'}, {136, 'ˆ'}, {137, '‰'},
		{138, 'Š'}, {139, '‹'}, {140, 'Œ'}, {142, 'Ž'}, {145, '‘'}, {146, '’'}, {147, '“'}, {148, '”'}, {149, '•'},
		{150, '–'}, {151, '—'}, {152, '˜'}, {153, '™'}, {154, 'š'}, {155, '›'}, {156, 'œ'}, {158, 'ž'}, {159, 'Ÿ'},
	}
}

// bare are the codes from 128 on that have no rune.
func bare() []byte { return []byte{129, 141, 143, 144, 157} }

// all tells the codes that have a rune, in order.
func all() []pair {
	var l []pair
	for n := 32; n <= 126; n++ {
		l = append(l, pair{byte(n), rune(n)})
	}
	l = append(l, odd()...)
	for n := 160; n <= 255; n++ {
		l = append(l, pair{byte(n), rune(n)})
	}
	return l
}

// signs tells the texts in which everything that counts stands beside everything else.
func signs(pieces []string, count int) []string {
	texts := []string{""}
	last := texts
	for range count {
		var next []string
		for _, s := range last {
			for _, p := range pieces {
				next = append(next, s+p)
			}
		}
		texts = append(texts, next...)
		last = next
	}
	return texts
}

// numbers tells a source of numbers below what it is asked, the same ones at each call.
func numbers() func(below int) int {
	state := uint64(20261118)
	return func(below int) int {
		state = state*6364136223846793005 + 1442695040888963407
		return int(state>>33) % below
	}
}

// mixed tells texts of fewer than 40 of these pieces.
func mixed(count int, pieces []string) []string {
	next := numbers()
	l := make([]string, count)
	for i := range l {
		for range next(40) {
			l[i] += pieces[next(len(pieces))]
		}
	}
	return l
}

// runePieces are runes with a code and without, of one to four bytes, and bytes that belong to none.
func runePieces() []string {
	return []string{
		"a", "?", "~", "\x7f", "\x1f", "\x00", "\n", " ", "\u0080", "\u0081", "\u009f", "\u00a0", "\u00e9", "\u00ff", "\u0100", "\u0192", "\u20ac", "\u2122",
		"\u4e00", "\ufffd", "\U0001f600", "\U0010ffff", "\x80", "\x81", "\xff", "\xc0", "\xc3", "\xe2", "\xe2\x82", "\xac", "\xed\xa0\x80", "\xf0\x9f\x98", "\xf4\x90\x80\x80",
	}
}

func codesAsked(s string) string {
	runes := []rune(s)
	b := make([]byte, len(runes))
	for i, r := range runes {
		b[i] = '?'
		for _, p := range all() {
			if p.r == r {
				b[i] = p.c
			}
		}
	}
	return string(b)
}

func textAsked(s string) string {
	var runes []rune
	for _, c := range []byte(s) {
		for _, p := range all() {
			if p.c == c {
				runes = append(runes, p.r)
			}
		}
	}
	return string(runes)
}

func checkTo(t *testing.T, r rune, want byte, has bool) {
	t.Helper()
	if c, ok := code.To(r); c != want || ok != has {
		t.Errorf("To(%#x) is %d, %v, asked is %d, %v", r, c, ok, want, has)
	}
}

func checkFrom(t *testing.T, c byte, want rune, has bool) {
	t.Helper()
	if r, ok := code.From(c); r != want || ok != has {
		t.Errorf("From(%d) is %#x, %v, asked is %#x, %v", c, r, ok, want, has)
	}
}

func checkCodes(t *testing.T, s, want string) {
	t.Helper()
	if c := code.Codes(s); c != want {
		t.Errorf("Codes(%q) is %q, asked is %q", s, c, want)
	}
}

func checkText(t *testing.T, s, want string) {
	t.Helper()
	if text := code.Text(s); text != want {
		t.Errorf("Text(%q) is %q, asked is %q", s, text, want)
	}
}

// P4.1

func TestOrdinaryCodes(t *testing.T) {
	for _, p := range []pair{
		{32, ' '}, {33, '!'}, {48, '0'}, {57, '9'}, {63, '?'}, {64, '@'}, {65, 'A'}, {90, 'Z'}, {97, 'a'}, {122, 'z'}, {126, '~'},
		{160, 0xa0}, {161, '¡'}, {163, '£'}, {173, 0xad}, {196, 'Ä'}, {223, 'ß'}, {228, 'ä'}, {233, 'é'}, {254, 'þ'}, {255, 'ÿ'},
	} {
		checkTo(t, p.r, p.c, true)
		checkFrom(t, p.c, p.r, true)
	}
}

func TestCodesFrom128To159(t *testing.T) {
	for _, p := range odd() {
		checkTo(t, p.r, p.c, true)
		checkFrom(t, p.c, p.r, true)
	}
	for _, c := range bare() {
		checkFrom(t, c, 0, false)
	}
	// Their numbers are no runes' that have a code.
	for r := rune(127); r <= 159; r++ {
		checkTo(t, r, '?', false)
	}
	if len(odd())+len(bare()) != 32 {
		t.Error("not each code from 128 to 159 is asked")
	}
}

func TestEachCode(t *testing.T) {
	has := map[byte]rune{}
	for _, p := range all() {
		has[p.c] = p.r
		checkTo(t, p.r, p.c, true)
	}
	for n := range 256 {
		c := byte(n)
		r, ok := has[c]
		checkFrom(t, c, r, ok)
	}
	if len(has) != 256-32-1-len(bare()) {
		t.Errorf("%d codes have a rune", len(has))
	}
}

func TestEndsOfTheCodes(t *testing.T) {
	for _, r := range []rune{32, 126, 160, 255} {
		checkTo(t, r, byte(r), true)
		checkFrom(t, byte(r), r, true)
	}
	for _, r := range []rune{0, 1, 31, 127} {
		checkTo(t, r, '?', false)
		checkFrom(t, byte(r), 0, false)
	}
	checkTo(t, 128, '?', false)
	checkTo(t, 159, '?', false)
	checkTo(t, 256, '?', false)
	checkFrom(t, 128, 0x20ac, true)
	checkFrom(t, 159, 0x178, true)
}

func TestQuestionMark(t *testing.T) {
	checkTo(t, '?', 63, true)
	checkFrom(t, 63, '?', true)
	for _, r := range []rune{0x4e00, 0xfffd, '¿' + 0x1000, '？', 0x61f, 63 + 256, 63 + 1<<16} {
		checkTo(t, r, 63, false)
	}
}

func TestRunesWithoutACode(t *testing.T) {
	for _, r := range []rune{
		0, 1, '\t', '\n', '\r', 31, 127, 128, 129, 141, 143, 144, 157, 159, 256, 257, 0x2000, 0x4e00, 0x1f600, 0xffff, 0x10000,
		0xfeff, 0xfffd, 0xd800, 0xdbff, 0xdc00, 0xdfff, utf8.MaxRune, utf8.MaxRune + 1, math.MaxInt32, math.MaxInt32 - 1,
		-1, -2, -32, -63, -65, -126, -128, -129, -159, -160, -255, -256, -0x20ac, math.MinInt32, math.MinInt32 + 1, math.MinInt32 + 65, math.MinInt32 + 0x20ac,
	} {
		checkTo(t, r, '?', false)
	}
}

func TestRunesBesideThoseOfCodes(t *testing.T) {
	has := map[rune]byte{}
	for _, p := range all() {
		has[p.r] = p.c
	}
	check := func(r rune) {
		t.Helper()
		c, ok := has[r]
		if !ok {
			c = '?'
		}
		checkTo(t, r, c, ok)
	}
	for _, p := range all() {
		check(p.r - 1)
		check(p.r + 1)
		check(-p.r)
		check(^p.r)
		// What is another rune's in its lower bits.
		for bit := 8; bit < 32; bit++ {
			check(p.r ^ rune(uint32(1)<<bit))
			check(rune(uint32(p.c) | uint32(1)<<bit))
			check(rune(uint32(p.r) + uint32(1)<<bit))
		}
	}
}

func TestEachRune(t *testing.T) {
	has := map[rune]byte{}
	for _, p := range all() {
		has[p.r] = p.c
	}
	count := 0
	for r := rune(-0x20000); r <= utf8.MaxRune+0x20000; r++ {
		c, ok := code.To(r)
		want, asked := has[r]
		if !asked {
			want = '?'
		}
		if c != want || ok != asked {
			t.Fatalf("To(%#x) is %d, %v, asked is %d, %v", r, c, ok, want, asked)
		}
		if ok {
			count++
		}
	}
	if count != len(has) {
		t.Errorf("%d runes have a code", count)
	}
	next := numbers()
	for range 1 << 20 {
		r := rune(uint32(next(1<<16))<<16 | uint32(next(1<<16)))
		_, ok := code.To(r)
		if _, asked := has[r]; ok != asked {
			t.Fatalf("To(%#x) has a code: %v", r, ok)
		}
	}
}

// P4.2

func TestCodes(t *testing.T) {
	for _, c := range []struct{ s, want string }{
		{"", ""},
		{"a", "a"}, {"abc", "abc"}, {"Two words.", "Two words."}, {" ~", " ~"},
		// Runes of one to four bytes.
		{"\u00e9", "\xe9"}, {"\u00a0\u00ff", "\xa0\xff"}, {"\u0192", "\x83"}, {"\u20ac", "\x80"}, {"\U0001f600", "?"},
		{"a\u00e9\u20ac\U0001f600b", "a\xe9\x80?b"}, {"a\u20ac\u4e00\u00e4", "a\x80?\xe4"}, {"\U0001f600\u20ac\u00e9a", "?\x80\xe9a"},
		{"\u201cWe\u2019re \u2014 \u2026\u201d", "\x93We\x92re \x97 \x85\x94"},
		// The sign ? itself, and runes without a code.
		{"?", "?"}, {"??", "??"}, {"a?b", "a?b"}, {"?\u4e00?", "???"}, {"\u4e00", "?"}, {"\u4e00\u4e8c", "??"}, {"a\u4e00b", "a?b"},
		{"\x00", "?"}, {"\t\n\r\x1f", "????"}, {"\x7f", "?"}, {"a\nb", "a?b"}, {"\u0080\u0081\u009f", "???"}, {"\u0100", "?"}, {"\ufeffa", "?a"}, {"\ufffd", "?"}, {"e\u0301", "e?"},
		{"\u07ff\u0800\uffff\U00010000\U0010ffff", "?????"},
		// Bytes that belong to no rune are one each.
		{"\x80", "?"}, {"\xff", "?"}, {"\x80\x80", "??"}, {"\xff\xfe\xfd", "???"}, {"a\xe4b", "a?b"}, {"\xe4\xf6\xfc", "???"},
		{"\xc3", "?"}, {"\xe2\x82", "??"}, {"\xe2\x82a", "??a"}, {"\xf0\x9f\x98", "???"}, {"\xe2\x82\u20ac", "??\x80"}, {"\xc3\xc3\xa9", "?\xe9"}, {"\u00e9\xa9", "\xe9?"},
		{"\xc0\xa0", "??"}, {"\xe0\x80\xa0", "???"}, {"\xed\xa0\x80", "???"}, {"\xf4\x90\x80\x80", "????"},
	} {
		checkCodes(t, c.s, c.want)
		checkCodes(t, "a"+c.s+"\u20ac", "a"+c.want+"\x80")
		checkCodes(t, c.s+"\U0001f600"+c.s, c.want+"?"+c.want)
	}
}

func TestText(t *testing.T) {
	for _, c := range []struct{ s, want string }{
		{"", ""},
		{"a", "a"}, {"abc", "abc"}, {" ~", " ~"}, {"?", "?"}, {"a??b", "a??b"},
		{"\x80", "\u20ac"}, {"\x80\x80", "\u20ac\u20ac"}, {"\x83", "\u0192"}, {"\x9f", "\u0178"}, {"\xa0", "\u00a0"}, {"\xe9", "\u00e9"}, {"\xff", "\u00ff"},
		{"a\x80?\xe4", "a\u20ac?\u00e4"}, {"\x93We\x92re \x97 \x85\x94", "\u201cWe\u2019re \u2014 \u2026\u201d"},
		// Each byte is a code, though it may be part of a rune.
		{"\u00e9", "\u00c3\u00a9"}, {"\u20ac", "\u00e2\u201a\u00ac"}, {"\U0001f600", "\u00f0\u0178\u02dc\u20ac"}, {"\ufffd", "\u00ef\u00bf\u00bd"},
		// Codes without a rune: at the beginning, at the end, inside, alone, and side by side.
		{"\x81", ""}, {"\x81\x8d\x8f\x90\x9d", ""}, {"\x81a", "a"}, {"a\x81", "a"}, {"a\x81b", "ab"}, {"\x81a\x8db\x8f", "ab"}, {"a\x90\x9db", "ab"},
		{"\x00", ""}, {"\x00\x00a", "a"}, {"a\x00", "a"}, {"a\x00b", "ab"}, {"a\nb\r\n", "ab"}, {"\ta", "a"}, {"\x1f \x1f", " "}, {"\x7f~\x7f", "~"}, {"\x80\x81\x82", "\u20ac\u201a"},
		{"\u0081", "\u00c2"}, {"\xe2\x81\xac", "\u00e2\u00ac"},
	} {
		checkText(t, c.s, c.want)
		checkText(t, "a"+c.s+"\x80", "a"+c.want+"\u20ac")
		checkText(t, c.s+"\x9d"+c.s, c.want+c.want)
	}
}

func TestCodesAndTextOfEachSign(t *testing.T) {
	for n := range 256 {
		c := byte(n)
		s := string([]byte{c})
		checkText(t, s, textAsked(s))
		for m := range 256 {
			two := string([]byte{c, byte(m)})
			checkText(t, two, textAsked(two))
			checkCodes(t, two, codesAsked(two))
		}
	}
	for _, p := range all() {
		checkCodes(t, string(p.r), string([]byte{p.c}))
		checkCodes(t, string([]rune{p.r, p.r + 1, 'x'}), codesAsked(string([]rune{p.r, p.r + 1, 'x'})))
	}
}

func TestCodesAndTextShort(t *testing.T) {
	for _, s := range signs([]string{"a", "?", "\x00", "\u00e9", "\u20ac", "\u4e00", "\U0001f600", "\x80", "\x81", "\xe2", "\xc3"}, 4) {
		checkCodes(t, s, codesAsked(s))
		checkText(t, s, textAsked(s))
	}
}

func TestCodesAndTextMixed(t *testing.T) {
	for _, s := range mixed(5000, runePieces()) {
		checkCodes(t, s, codesAsked(s))
		checkText(t, s, textAsked(s))
	}
}

func TestLongTexts(t *testing.T) {
	const many = 1 << 20
	for _, c := range []struct{ s, codes string }{{"a", "a"}, {"\u20ac", "\x80"}, {"\U0001f600", "?"}, {"\xff", "?"}} {
		checkLong(t, "Codes", code.Codes(strings.Repeat(c.s, many)), strings.Repeat(c.codes, many))
	}
	for _, c := range []struct{ s, text string }{{"a", "a"}, {"\x80", "\u20ac"}, {"\x81", ""}, {"\xff", "\u00ff"}} {
		checkLong(t, "Text", code.Text(strings.Repeat(c.s, many)), strings.Repeat(c.text, many))
	}
}

func checkLong(t *testing.T, call, s, want string) {
	t.Helper()
	if s != want {
		t.Errorf("%s of a long text has %d bytes, or others; asked are %d", call, len(s), len(want))
	}
}

// P4.3

func TestThereAndBack(t *testing.T) {
	for n := range 256 {
		r, ok := code.From(byte(n))
		if !ok {
			continue
		}
		if c, has := code.To(r); int(c) != n || !has {
			t.Errorf("From(%d) is %#x, and To of it %d, %v", n, r, c, has)
		}
	}
	for r := rune(0); r <= 0x3000; r++ {
		c, ok := code.To(r)
		if !ok {
			continue
		}
		if back, has := code.From(c); back != r || !has {
			t.Errorf("To(%#x) is %d, and From of it %#x, %v", r, c, back, has)
		}
	}
}

func TestTextsThereAndBack(t *testing.T) {
	var codes []byte
	var runes []rune
	for _, p := range all() {
		codes = append(codes, p.c)
		runes = append(runes, p.r)
	}
	checkCodes(t, string(runes), string(codes))
	checkText(t, string(codes), string(runes))
	slices.Reverse(codes)
	slices.Reverse(runes)
	checkCodes(t, string(runes), string(codes))
	checkText(t, string(codes), string(runes))
	for _, s := range mixed(5000, runePieces()) {
		// What has no code has become a ?, which stays one.
		there := code.Codes(s)
		checkCodes(t, code.Text(there), there)
		// What has no rune has gone.
		back := code.Text(s)
		checkText(t, code.Codes(back), back)
		if !utf8.ValidString(back) {
			t.Errorf("Text(%q) is %q", s, back)
		}
	}
}

// The rules that hold everywhere: an answer shares no memory with an argument, which stays as it is.

func shares(a, b string) bool {
	if a == "" || b == "" {
		return false
	}
	from, other := uintptr(unsafe.Pointer(unsafe.StringData(a))), uintptr(unsafe.Pointer(unsafe.StringData(b)))
	return from < other+uintptr(len(b)) && other < from+uintptr(len(a))
}

func TestAnswersAreNewMemory(t *testing.T) {
	for _, s := range []string{"a", "abc", "a b ~", "?", "abcdefghijklmnopqrstuvwxyz", "\u20aca", "\x80a"} {
		b := []byte(s)
		text := unsafe.String(&b[0], len(b))
		if shares(code.Codes(text), text) {
			t.Errorf("Codes(%q) shares memory with it", s)
		}
		if shares(code.Text(text), text) {
			t.Errorf("Text(%q) shares memory with it", s)
		}
		if !bytes.Equal(b, []byte(s)) {
			t.Errorf("%q is changed", s)
		}
	}
	if s := "abc"; !shares(s[1:], s) || shares(s, strings.Clone(s)) {
		t.Error("shares doesn't tell what shares memory")
	}
}

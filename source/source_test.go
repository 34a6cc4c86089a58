package source_test

import (
	"slices"
	"strings"
	"testing"
	"unicode/utf8"
	"unsafe"

	"compositor/source"
)

// lost is fffd, byte by byte.
const lost = "\xef\xbf\xbd"

// texts tells all texts of at most so many of these pieces.
func texts(count int, pieces ...string) []string {
	all := []string{""}
	last := all
	for range count {
		var next []string
		for _, s := range last {
			for _, p := range pieces {
				next = append(next, s+p)
			}
		}
		all = append(all, next...)
		last = next
	}
	return all
}

// short are texts in which everything that counts stands beside everything else.
func short() []string {
	return texts(5, "a", " ", "\t", "\n", "\r", "\x00", "\xc3", "\xa9", "\xff")
}

// mixed tells texts of all lengths below 40, the same ones at each call.
func mixed(count int) []string {
	pieces := []string{
		"a", "b", " ", " ", "\t", "\n", "\n", "\r", "\r\n", "\x00", "\x7f", "\x80", "\xff", "\xc0", "\xc3", "\xc3\xa9", "\xe2\x82",
		"\xe2\x82\xac", "\xed\xa0\x80", "\xf0\x9f\x98", "\xf0\x9f\x98\x80", "\xf4\x90\x80\x80", "\xef\xbf\xbd", "\xc2\xa0", "\xe2\x80\xa8",
	}
	state := uint64(20261118)
	next := func(below int) int {
		state = state*6364136223846793005 + 1442695040888963407
		return int(state>>33) % below
	}
	l := make([]string, count)
	for i := range l {
		for range next(40) {
			l[i] += pieces[next(len(pieces))]
		}
	}
	return l
}

func within(b, least, greatest byte) bool { return least <= b && b <= greatest }

// seconds tells between which bytes the second one of a rune stands that begins with b, and how many bytes the rune has; 0, if none begins so.
func seconds(b byte) (least, greatest byte, count int) {
	switch {
	case within(b, 0xc2, 0xdf):
		return 0x80, 0xbf, 2
	case b == 0xe0:
		return 0xa0, 0xbf, 3
	case b == 0xed:
		return 0x80, 0x9f, 3
	case within(b, 0xe1, 0xef):
		return 0x80, 0xbf, 3
	case b == 0xf0:
		return 0x90, 0xbf, 4
	case within(b, 0xf1, 0xf3):
		return 0x80, 0xbf, 4
	case b == 0xf4:
		return 0x80, 0x8f, 4
	}
	return 0, 0, 0
}

// runeBytes tells how many bytes the rune has that s begins with; 0, if it begins with none.
func runeBytes(s string) int {
	if s[0] < 0x80 {
		return 1
	}
	least, greatest, count := seconds(s[0])
	if count == 0 || len(s) < count || !within(s[1], least, greatest) {
		return 0
	}
	for i := 2; i < count; i++ {
		if !within(s[i], 0x80, 0xbf) {
			return 0
		}
	}
	return count
}

// cleanAsked tells what the chapter asks, byte by byte.
func cleanAsked(s string) string {
	var b []byte
	for len(s) > 0 {
		n := runeBytes(s)
		switch {
		case n == 0:
			n = 1
			b = append(b, lost...)
		case s[0] == 0:
			b = append(b, lost...)
		case len(s) > 1 && s[:2] == "\r\n":
			n = 2
			b = append(b, '\n')
		case s[0] == '\r':
			b = append(b, '\n')
		default:
			b = append(b, s[:n]...)
		}
		s = s[n:]
	}
	return string(b)
}

func linesAsked(s string) []string {
	l := strings.Split(s, "\n")
	if l[len(l)-1] == "" {
		l = l[:len(l)-1]
	}
	return l
}

func blankAsked(s string) bool {
	return strings.Count(s, " ")+strings.Count(s, "\t") == len(s)
}

func trimAsked(s string) string {
	for len(s) > 0 && strings.IndexByte(" \t\n", s[0]) >= 0 {
		s = s[1:]
	}
	for len(s) > 0 && strings.IndexByte(" \t\n", s[len(s)-1]) >= 0 {
		s = s[:len(s)-1]
	}
	return s
}

func checkClean(t *testing.T, s string) {
	t.Helper()
	if c, want := source.Clean(s), cleanAsked(s); c != want {
		t.Errorf("Clean(%q) is %q, asked is %q", s, c, want)
	}
}

func checkLines(t *testing.T, s string) {
	t.Helper()
	if l, want := source.Lines(s), linesAsked(s); !slices.Equal(l, want) {
		t.Errorf("Lines(%q) is %q, asked is %q", s, l, want)
	}
}

func checkBlank(t *testing.T, s string) {
	t.Helper()
	if b, want := source.Blank(s), blankAsked(s); b != want {
		t.Errorf("Blank(%q) is %v, asked is %v", s, b, want)
	}
}

func checkTrim(t *testing.T, s string) {
	t.Helper()
	if c, want := source.Trim(s), trimAsked(s); c != want {
		t.Errorf("Trim(%q) is %q, asked is %q", s, c, want)
	}
}

// P3.1

func TestCleanRunes(t *testing.T) {
	for _, s := range []string{
		"", "a", "abc", "a b\tc\nd\n", " \t\n", "\n", "\n\n", "~", "\x01", "\x08\x0b\x0c\x1b\x1f", "\x7f",
		// Runes of two, three and four bytes, and the first and last ones of these.
		"\u00e9", "\u20ac", "\U0001f600", "a\u00e9\u20ac\U0001f600b",
		"\u0080", "\u07ff", "\u0800", "\uffff", "\U00010000", "\U0010ffff", "\ud7ff", "\ue000",
		// Runes that could be taken for something else.
		"\u0085", "\u2028", "\u2029", "\u00a0", "\ufeff", "a\ufeff", "\ufffe", "e\u0301", "\u010d", "\u010a", "\u0100",
		lost, lost + lost, "a" + lost + "b",
	} {
		if c := source.Clean(s); c != s {
			t.Errorf("Clean(%q) is %q", s, c)
		}
	}
}

func TestCleanEachRune(t *testing.T) {
	for r := rune(0); r <= utf8.MaxRune; r++ {
		if !utf8.ValidRune(r) {
			continue
		}
		s := string(r)
		want := s
		switch r {
		case 0:
			want = lost
		case '\r':
			want = "\n"
		}
		if c := source.Clean(s); c != want {
			t.Fatalf("Clean(%q) is %q, asked is %q", s, c, want)
		}
	}
}

func TestCleanBytesOfNoRune(t *testing.T) {
	for _, c := range []struct {
		s     string
		count int // of bytes that belong to none
	}{
		{"\x80", 1}, {"\xbf", 1}, {"\xfe", 1}, {"\xff", 1}, {"\xff\xfe", 2}, {"\xff\xff\xff", 3}, {"\x80\x80\x80\x80\x80", 5},
		// Cut off.
		{"\xc3", 1}, {"\xe2", 1}, {"\xe2\x82", 2}, {"\xf0", 1}, {"\xf0\x9f", 2}, {"\xf0\x9f\x98", 3}, {"\xe2\x82\xe2\x82", 4},
		// Surrogates, alone and as a pair.
		{"\xed\xa0\x80", 3}, {"\xed\xaf\xbf", 3}, {"\xed\xb0\x80", 3}, {"\xed\xbf\xbf", 3}, {"\xed\xa0\xbd\xed\xb8\x80", 6},
		// Longer than need be.
		{"\xc0\x80", 2}, {"\xc0\x8a", 2}, {"\xc0\x8d", 2}, {"\xc1\xbf", 2}, {"\xe0\x80\x80", 3}, {"\xe0\x9f\xbf", 3}, {"\xf0\x80\x80\x80", 4}, {"\xf0\x8f\xbf\xbf", 4},
		// Past the last rune.
		{"\xf4\x90\x80\x80", 4}, {"\xf5\x80\x80\x80", 4}, {"\xf7\xbf\xbf\xbf", 4}, {"\xf8\x88\x80\x80\x80", 5}, {"\xfc\x84\x80\x80\x80\x80", 6},
	} {
		want := strings.Repeat(lost, c.count)
		for _, around := range [][2]string{{"", ""}, {"a", ""}, {"", "b"}, {"a", "b"}, {"\u00e9", "\u20ac"}, {"\U0001f600", "\U0001f600"}, {"\n", "\n"}, {" ", " "}, {lost, lost}} {
			ahead, behind := around[0], around[1]
			if s := source.Clean(ahead + c.s + behind); s != ahead+want+behind {
				t.Errorf("Clean(%q) is %q, asked is %q", ahead+c.s+behind, s, ahead+want+behind)
			}
		}
	}
}

func TestCleanRuneNought(t *testing.T) {
	for _, c := range []struct{ s, want string }{
		{"\x00", lost}, {"\x00\x00", lost + lost}, {"a\x00", "a" + lost}, {"\x00a", lost + "a"}, {"a\x00b", "a" + lost + "b"},
		{"\x00\n", lost + "\n"}, {"\n\x00", "\n" + lost}, {"\x00\xff", lost + lost}, {"\xe2\x00", lost + lost}, {"0", "0"}, {"\\x00", "\\x00"}, {"\\0", "\\0"},
		{"a\x00\xffb\r\nc", "a" + lost + lost + "b\nc"},
	} {
		if s := source.Clean(c.s); s != c.want {
			t.Errorf("Clean(%q) is %q, asked is %q", c.s, s, c.want)
		}
	}
}

func TestCleanLineEnds(t *testing.T) {
	for _, c := range []struct{ s, want string }{
		{"\r\n", "\n"}, {"a\r\nb", "a\nb"}, {"a\r\n", "a\n"}, {"\r\nb", "\nb"}, {"\r\n\r\n", "\n\n"},
		{"\r", "\n"}, {"a\rb", "a\nb"}, {"a\r", "a\n"}, {"\rb", "\nb"},
		{"\r\r", "\n\n"}, {"a\r\rb", "a\n\nb"}, {"\r\r\r", "\n\n\n"},
		{"\r\r\n", "\n\n"}, {"a\r\r\nb", "a\n\nb"}, {"\r\r\n\r", "\n\n\n"}, {"\r\n\r", "\n\n"},
		{"\n\r", "\n\n"}, {"a\n\rb", "a\n\nb"}, {"\n\r\n", "\n\n"}, {"\n\n", "\n\n"}, {"\r\n\n", "\n\n"}, {"\r\n\n\r\n", "\n\n\n"},
		// What stands between keeps a CR and an LF apart.
		{"\r \n", "\n \n"}, {"\r\xff\n", "\n" + lost + "\n"}, {"\r\x00\n", "\n" + lost + "\n"}, {"\r\u00e9\n", "\n\u00e9\n"}, {"\u00e9\r\n\u00e9", "\u00e9\n\u00e9"},
		{"\xe2\r\n\x82", lost + "\n" + lost}, {"\xe2\x82\r\xac", lost + lost + "\n" + lost},
		{"\r\v", "\n\v"}, {"\r\u2028", "\n\u2028"}, {"\r\\n", "\n\\n"},
	} {
		if s := source.Clean(c.s); s != c.want {
			t.Errorf("Clean(%q) is %q, asked is %q", c.s, s, c.want)
		}
	}
}

func TestCleanBytesSideBySide(t *testing.T) {
	for a := range 256 {
		checkClean(t, string([]byte{byte(a)}))
		for b := range 256 {
			checkClean(t, string([]byte{byte(a), byte(b)}))
			checkClean(t, string([]byte{byte(a), byte(b), 0x80}))
			checkClean(t, string([]byte{byte(a), byte(b), 0xbf, 0xbf}))
			checkClean(t, string([]byte{'x', byte(a), byte(b), 'y'}))
		}
	}
}

func TestCleanMixed(t *testing.T) {
	for _, s := range append(short(), mixed(20000)...) {
		checkClean(t, s)
	}
}

func TestCleanGrows(t *testing.T) {
	const many = 1 << 20
	if c := source.Clean(strings.Repeat("\xff", many)); c != strings.Repeat(lost, many) {
		t.Error("Clean of many bytes of no rune")
	}
	if c := source.Clean(strings.Repeat("\r\n", many)); c != strings.Repeat("\n", many) {
		t.Error("Clean of many line ends")
	}
}

// P3.2

func TestLines(t *testing.T) {
	for _, c := range []struct {
		s    string
		want []string
	}{
		{"", nil},
		{"a", []string{"a"}},
		{"a\n", []string{"a"}},
		{"a\nb", []string{"a", "b"}},
		{"a\nb\n", []string{"a", "b"}},
		{"a\n\nb\n", []string{"a", "", "b"}},
		{"a\n\n\nb", []string{"a", "", "", "b"}},
		{"a\n\n", []string{"a", ""}},
		{"\n", []string{""}},
		{"\n\n", []string{"", ""}},
		{"\n\n\n", []string{"", "", ""}},
		{"\na", []string{"", "a"}},
		{"\n\na\n", []string{"", "", "a"}},
		// What isn't empty counts, if it is blank too.
		{" ", []string{" "}},
		{"\t\n ", []string{"\t", " "}},
		{"a\n ", []string{"a", " "}},
		{" \n\t\n", []string{" ", "\t"}},
		{"  a \t\n\tb  \n", []string{"  a \t", "\tb  "}},
		// LF alone ends a line, and lines are told as they are.
		{"a\rb", []string{"a\rb"}},
		{"a\r\nb\r", []string{"a\r", "b\r"}},
		{"\r", []string{"\r"}},
		{"a\vb\fc\u0085d\u2028e\u2029f", []string{"a\vb\fc\u0085d\u2028e\u2029f"}},
		{"\x00", []string{"\x00"}},
		{"\xff\n\xfe", []string{"\xff", "\xfe"}},
		{"\u00e9\n\u20ac\n\U0001f600", []string{"\u00e9", "\u20ac", "\U0001f600"}},
		{"\xe2\n\x82\n\xac", []string{"\xe2", "\x82", "\xac"}},
		{"\xe2\x82\n\xac\n", []string{"\xe2\x82", "\xac"}},
		{"a\\nb", []string{"a\\nb"}},
		{"\u010aa\u0a0a", []string{"\u010aa\u0a0a"}},
	} {
		if l := source.Lines(c.s); !slices.Equal(l, c.want) {
			t.Errorf("Lines(%q) is %q, asked is %q", c.s, l, c.want)
		}
	}
}

func TestBlank(t *testing.T) {
	for _, s := range []string{"", " ", "\t", "  ", " \t", "\t ", "\t\t", " \t \t  ", strings.Repeat(" ", 1000), strings.Repeat("\t", 1000)} {
		if !source.Blank(s) {
			t.Errorf("Blank(%q) is false", s)
		}
	}
	for _, s := range []string{
		"\n", "\r", "\r\n", "\v", "\f", "\x00", "\x1f", "\x08", "!", "a", "0", "-", "\x7f", "\x80", "\xa0", "\xff", "\xe2\x80", lost,
		"\u0085", "\u00a0", "\u2003", "\u2028", "\u200b", "\u3000", "\ufeff", "\u0120", "\u0109", "\u2009", "\u2420",
	} {
		for _, around := range []string{"", " ", "\t", " \t", "   "} {
			for _, line := range []string{s, around + s, s + around, around + s + around} {
				if source.Blank(line) {
					t.Errorf("Blank(%q) is true", line)
				}
			}
		}
	}
}

func TestTrim(t *testing.T) {
	for _, c := range []struct{ s, want string }{
		{"", ""}, {" ", ""}, {"\t", ""}, {"\n", ""}, {"  ", ""}, {" \t\n", ""}, {"\n\n", ""}, {"\n\t \n \t", ""},
		{"a", "a"}, {" a", "a"}, {"a ", "a"}, {"\ta", "a"}, {"a\t", "a"}, {"\na", "a"}, {"a\n", "a"},
		{" \t\na", "a"}, {"a \t\n", "a"}, {"\n a \t", "a"}, {"   a   ", "a"}, {"\n\n\na\n\n\n", "a"},
		// What stands inside is kept.
		{"a b", "a b"}, {" a b ", "a b"}, {"a\tb", "a\tb"}, {"a\nb\n", "a\nb"}, {"\na \t\n\n b\t", "a \t\n\n b"}, {" a  b  c ", "a  b  c"},
		// Nothing else is left out.
		{"\r", "\r"}, {"\r\n", "\r"}, {"\n\r\n", "\r"}, {" \r a \r ", "\r a \r"}, {"\v a \f", "\v a \f"}, {"\x00", "\x00"}, {" \x00 ", "\x00"},
		{"\u00a0 a \u00a0", "\u00a0 a \u00a0"}, {" \u2003 ", "\u2003"}, {"\u0085\n", "\u0085"}, {"\n\u2028\n", "\u2028"}, {"\ufeff ", "\ufeff"}, {"\u0120\u0109\u010a", "\u0120\u0109\u010a"},
		// Runes of more than one byte, and bytes of none, at either end.
		{" \u00e9 ", "\u00e9"}, {" \u20ac ", "\u20ac"}, {" \U0001f600 ", "\U0001f600"}, {"\u00e9 \u20ac \U0001f600\n", "\u00e9 \u20ac \U0001f600"},
		{lost, lost}, {" " + lost + " ", lost}, {"\xff", "\xff"}, {" \xff ", "\xff"}, {"\xff ", "\xff"}, {" \xff", "\xff"},
		{" \xe2 ", "\xe2"}, {"\n\xe2\x82\n", "\xe2\x82"}, {" \xf0\x9f\x98\t", "\xf0\x9f\x98"}, {"\xff \xfe \xff ", "\xff \xfe \xff"}, {" \x80\x80 \xed\xa0\x80 ", "\x80\x80 \xed\xa0\x80"},
	} {
		if s := source.Trim(c.s); s != c.want {
			t.Errorf("Trim(%q) is %q, asked is %q", c.s, s, c.want)
		}
	}
}

func TestLinesBlankTrimEachByte(t *testing.T) {
	for a := range 256 {
		for b := range 256 {
			s := string([]byte{byte(a), byte(b)})
			for _, s := range []string{s, s[:1], " " + s, s + " ", s + "a", "a" + s} {
				checkLines(t, s)
				checkBlank(t, s)
				checkTrim(t, s)
			}
		}
	}
}

func TestLinesBlankTrimMixed(t *testing.T) {
	for _, s := range append(short(), mixed(20000)...) {
		checkLines(t, s)
		checkBlank(t, s)
		checkTrim(t, s)
	}
}

func TestLinesAreTheText(t *testing.T) {
	for _, s := range append(short(), mixed(20000)...) {
		whole := s
		if whole != "" && !strings.HasSuffix(whole, "\n") {
			whole += "\n"
		}
		text := ""
		for _, line := range source.Lines(s) {
			text += line + "\n"
		}
		if text != whole {
			t.Errorf("Lines(%q) are the text %q", s, text)
		}
	}
}

func TestManyLines(t *testing.T) {
	const many = 1 << 20
	l := source.Lines(strings.Repeat("\n", many))
	if len(l) != many || slices.ContainsFunc(l, func(s string) bool { return s != "" }) {
		t.Errorf("Lines of many LFs are %d", len(l))
	}
	l = source.Lines(strings.Repeat("ab\n", many) + "c")
	if len(l) != many+1 || l[0] != "ab" || l[many-1] != "ab" || l[many] != "c" {
		t.Errorf("Lines of many lines are %d", len(l))
	}
	blanks := strings.Repeat(" \t", many)
	if !source.Blank(blanks) || source.Blank(blanks+"a") || source.Trim(blanks+"a b"+blanks) != "a b" || source.Trim(blanks) != "" {
		t.Error("many blanks")
	}
}

// P3.3

func TestWhatIsCleanedIsClean(t *testing.T) {
	for _, s := range append(short(), mixed(20000)...) {
		c := source.Clean(s)
		if again := source.Clean(c); again != c {
			t.Errorf("Clean(%q) is %q, and cleaned again %q", s, c, again)
		}
		if !utf8.ValidString(c) || strings.ContainsAny(c, "\x00\r") {
			t.Errorf("Clean(%q) is %q", s, c)
		}
		text := strings.Join(source.Lines(c), "\n")
		if source.Clean(text) != text || source.Clean(source.Trim(c)) != source.Trim(c) {
			t.Errorf("parts of Clean(%q) aren't clean", s)
		}
	}
}

// The rules that hold everywhere: an answer shares no memory with an argument.

func shares(a, b string) bool {
	if a == "" || b == "" {
		return false
	}
	from, other := uintptr(unsafe.Pointer(unsafe.StringData(a))), uintptr(unsafe.Pointer(unsafe.StringData(b)))
	return from < other+uintptr(len(b)) && other < from+uintptr(len(a))
}

func TestAnswersAreNewMemory(t *testing.T) {
	for _, s := range []string{"a", "abc", "a\nb\n", " a ", "\n\n a b \n", "\u20ac\n\u20ac", " \xff "} {
		if shares(source.Clean(s), s) {
			t.Errorf("Clean(%q) shares memory with it", s)
		}
		if shares(source.Trim(s), s) {
			t.Errorf("Trim(%q) shares memory with it", s)
		}
		for _, line := range source.Lines(s) {
			if shares(line, s) {
				t.Errorf("Lines(%q) share memory with it", s)
			}
		}
	}
	if s := "abc"; !shares(s[1:], s) || shares(s, strings.Clone(s)) {
		t.Error("shares doesn't tell what shares memory")
	}
}

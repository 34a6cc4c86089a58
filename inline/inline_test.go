package inline_test

import (
	"reflect"
	"slices"
	"strconv"
	"strings"
	"sync"
	"testing"
	"time"
	"unsafe"

	"compositor/api"
	"compositor/inline"
	"compositor/named"
)

const (
	tick = "`"
	many = 1 << 16
	long = 1 << 20
)

// refs are the definitions of most tests; two have one label.
func refs() []api.Ref {
	return []api.Ref{
		{Label: "r", Dest: "/r", Title: "R"},
		{Label: "a", Dest: "/a"},
		{Label: "r", Dest: "/other", Title: "other"},
		{Label: "a b", Dest: "/ab"},
		{Label: "*b*", Dest: "/star"},
		{Label: `\]`, Dest: "/hidden"},
		{Label: "\u00e9", Dest: "/e"},
		{Label: "\ufffd", Dest: "/lost"},
		{Label: "none"},
	}
}

// Spans as texts.

// example is a text, and what shown tells of its spans.
type example struct{ s, want string }

func shown(l []api.Span) string {
	var parts []string
	for _, x := range l {
		parts = append(parts, spanShown(x))
	}
	return strings.Join(parts, " ")
}

func spanShown(x api.Span) string {
	switch x.Kind {
	case api.SpanText:
		return strconv.Quote(x.Text)
	case api.SpanSoft:
		return "soft"
	case api.SpanHard:
		return "hard"
	case api.SpanCode:
		return "code" + strconv.Quote(x.Text)
	case api.SpanEmph:
		return "em(" + shown(x.Kids) + ")"
	case api.SpanStrong:
		return "strong(" + shown(x.Kids) + ")"
	case api.SpanLink:
		return "link" + leadShown(x) + "(" + shown(x.Kids) + ")"
	case api.SpanImage:
		return "image" + leadShown(x) + "(" + shown(x.Kids) + ")"
	case api.SpanHtml:
		return "html" + strconv.Quote(x.Text)
	}
	return "?"
}

func leadShown(x api.Span) string {
	if x.Title == "" {
		return "<" + x.Dest + ">"
	}
	return "<" + x.Dest + " " + strconv.Quote(x.Title) + ">"
}

// clip tells the beginning of s, which may be long.
func clip(s string) string {
	const most = 1000
	if len(s) > most {
		return s[:most] + " .."
	}
	return s
}

// check holds each example against Parse, and against the model.
func check(t *testing.T, l []example) {
	t.Helper()
	for _, x := range l {
		same(t, x.s, x.want, refs())
	}
}

func same(t *testing.T, s, want string, refs []api.Ref) {
	t.Helper()
	if got := shown(inline.Parse(s, refs)); got != want {
		t.Errorf("Parse(%q):\n%s, not\n%s", clip(s), clip(got), clip(want))
	}
	if got := shown(asked(s, refs)); got != want {
		t.Errorf("of %q the model tells\n%s, not\n%s", clip(s), clip(got), clip(want))
	}
	held(t, s, refs)
}

// held holds Parse of s against the model, field by field, and against P14.2.
func held(t *testing.T, s string, refs []api.Ref) {
	t.Helper()
	l, want := inline.Parse(s, refs), asked(s, refs)
	if !alike(l, want) {
		t.Errorf("Parse(%q):\n%s, not\n%s", clip(s), clip(shown(l)), clip(shown(want)))
	}
	if why := unsound(l); why != "" {
		t.Errorf("Parse(%q): %s", clip(s), why)
	}
	if !strings.Contains(s, "<") && linkInLink(l, false) {
		t.Errorf("Parse(%q): a link in a link", clip(s))
	}
}

// alike tells whether both lists have the same spans; an empty list and a nil one are alike.
func alike(l, m []api.Span) bool {
	return slices.EqualFunc(l, m, func(x, y api.Span) bool {
		return x.Kind == y.Kind && x.Text == y.Text && x.Dest == y.Dest && x.Title == y.Title && alike(x.Kids, y.Kids)
	})
}

// unsound tells what in l may not be.
func unsound(l []api.Span) string {
	text := false
	for _, x := range l {
		bare := api.Span{Kind: x.Kind}
		switch x.Kind {
		case api.SpanText:
			bare.Text = x.Text
			if x.Text == "" {
				return "an empty text"
			}
			if text {
				return "texts side by side"
			}
		case api.SpanSoft, api.SpanHard:
		case api.SpanCode, api.SpanHtml:
			bare.Text = x.Text
			if x.Text == "" {
				return "empty code, or empty HTML"
			}
		case api.SpanEmph, api.SpanStrong:
			bare.Kids = x.Kids
			if len(x.Kids) == 0 {
				return "emphasis of nothing"
			}
		case api.SpanLink, api.SpanImage:
			bare.Dest, bare.Title, bare.Kids = x.Dest, x.Title, x.Kids
		default:
			return "a span of no kind"
		}
		if !reflect.DeepEqual(x, bare) {
			return "a field without a meaning"
		}
		if why := unsound(x.Kids); why != "" {
			return why
		}
		text = x.Kind == api.SpanText
	}
	return ""
}

func linkInLink(l []api.Span, in bool) bool {
	for _, x := range l {
		link := x.Kind == api.SpanLink
		if link && in || linkInLink(x.Kids, in || link) {
			return true
		}
	}
	return false
}

// Texts.

// texts hands on all texts of at most so many of these pieces.
func texts(count int, pieces []string, do func(s string)) {
	var from func(s string, left int)
	from = func(s string, left int) {
		do(s)
		if left == 0 {
			return
		}
		for _, p := range pieces {
			from(s+p, left-1)
		}
	}
	from("", count)
}

// chance tells numbers below others, the same ones at each run.
type chance uint64

func (c *chance) below(n int) int {
	*c = *c*6364136223846793005 + 1442695040888963407
	return int(uint64(*c)>>33) % n
}

func (c *chance) of(l []string) string {
	return l[c.below(len(l))]
}

// sets are pieces of texts; a mixed text has those of one set.
func sets() [][]string {
	return [][]string{
		{"*", "*", "**", "***", "****", "_", "__", "___", "a", "b", " ", " ", ".", "\u00e9", "\u00a0", "\u2014"},
		{"*", "_", "a", " ", "!", "(", ")", "\"", "\n"},
		{"[", "]", "[", "]", "![", "](u)", "](<v> 't')", "](", ")", "[r]", "[]", "[n]", "r", "a", " ", "*", "**", "(w (x))", "]["},
		{"[", "]", "![", "[r]", "[a  B]", "[*b*]", `[\]]`, "[]", "\\", "*", "_", tick, "<b>", "<ab:c>", "(u)", "r", "]"},
		{tick, tick + tick, tick + tick + tick, "a", " ", "\\", "*", "\n", "[", "](u)"},
		{" ", "  ", "\n", "\n", "\\", "\\\n", "\t", "a", "*", "_", tick, "&#32;", "&#10;", "<b>", "](u)", "["},
		{"<", ">", "a", "ab:", "@", ".c", "!--", "-->", "?", "![CDATA[", "]]>", "/", " ", "=", "'", "\"", "*", "\n", tick},
		{"&", "amp", ";", "&amp;", "&#42;", "&#91;", "#", "x", "5", "*", "a", "[", "]", "(u)", "\\", "&lt;", "&nope;", "\xff", "\x00", "\u20ac"},
		{"*", "**", "_", "__", "[", "]", "![", "](u)", "](u 't')", "[r]", "[]", "r", "a", " ", "\n", "  \n", "\\", "\\\n", tick, tick + tick, "<b>", "<ab:c>", "<a@b>", "<!-- ", " -->", "&amp;", "&", "<", ">", "!", "\"", "(", ")", "\u00e9", "\xff"},
	}
}

func (c *chance) mixed(most int) string {
	all := sets()
	set := all[c.below(len(all))]
	var b strings.Builder
	for range 1 + c.below(most) {
		b.WriteString(c.of(set))
	}
	return b.String()
}

// The promises.

// TestExamples holds P14.1 to the chapter's example.
func TestExamples(t *testing.T) {
	check(t, []example{
		{"a *b **c***", `"a " em("b " strong("c"))`},
	})
}

// TestNumbers holds P14.1 to the numbers of the kinds.
func TestNumbers(t *testing.T) {
	l := inline.Parse("a\nb\\\n"+tick+"c"+tick+"*d***e**[f](g 'h')![i](j)<k>", nil)
	want := []api.Span{
		{Kind: 1, Text: "a"}, {Kind: 2}, {Kind: 1, Text: "b"}, {Kind: 3}, {Kind: 4, Text: "c"},
		{Kind: 5, Kids: []api.Span{{Kind: 1, Text: "d"}}}, {Kind: 6, Kids: []api.Span{{Kind: 1, Text: "e"}}},
		{Kind: 7, Dest: "g", Title: "h", Kids: []api.Span{{Kind: 1, Text: "f"}}}, {Kind: 8, Dest: "j", Kids: []api.Span{{Kind: 1, Text: "i"}}},
		{Kind: 9, Text: "<k>"},
	}
	if !alike(l, want) {
		t.Error(shown(l))
	}
}

// TestAll holds P14.1 and P14.2 to all texts of a few pieces.
func TestAll(t *testing.T) {
	for _, x := range []struct {
		count  int
		pieces []string
	}{
		{9, []string{"*", "a", " "}},
		{7, []string{"*", "_", "a", " "}},
		{8, []string{"_", "a", "."}},
		{7, []string{"**", "*a", "a*", " "}},
		{6, []string{"*", "***", "a", " ", "."}},
		{6, []string{"[", "]", "(u)", "a", "!", "*"}},
		{6, []string{"[", "]", "r", "[]", "![", "(u)"}},
		{6, []string{"[", "]", "[r]", "n", "\\", tick}},
		{6, []string{"[", "]", "<ab:>", "](u)", "![", "*a*"}},
		{6, []string{tick, tick + tick, "a", "\\", "\n", "*"}},
		{6, []string{" ", "\n", "a", "\\", "\t", "&#32;"}},
		{5, []string{"  \n", "*a*", "&#32;", tick + "a" + tick, " ", "<b>", "["}},
		{6, []string{"<", ">", "a", "!", "--", "?"}},
		{6, []string{"<", ">", "ab:", "@", "*", "\\"}},
		{6, []string{"&", "amp", ";", "#", "42", "\\"}},
		{5, []string{"_", "a", "\u00e9", "\u00a0", "*", "\xff", "\x00"}},
	} {
		texts(x.count, x.pieces, func(s string) { held(t, s, refs()) })
	}
}

// TestMixed holds P14.1 and P14.2 to texts of pieces of many kinds.
func TestMixed(t *testing.T) {
	c := chance(20261119)
	for range 200000 {
		held(t, c.mixed(12), refs())
	}
	for range 4000 {
		held(t, c.mixed(120), refs())
	}
}

// TestEachByte holds P14.1 to each byte alone, and beside and between signs.
func TestEachByte(t *testing.T) {
	for i := range 256 {
		c := string([]byte{byte(i)})
		for _, s := range []string{
			c, c + "a", "a" + c, "a" + c + "b", c + c, c + c + c, "\\" + c, "\\\\" + c, "a\\" + c + "b", c + "\n", "  " + c + "\n", c + "  \n" + c, "\n" + c + "a", "\\\n" + c + "a",
			"*" + c + "*", "*a" + c + "*", "*" + c + "a*", c + "*a*" + c, "a*" + c + "a*", "*a*" + c + "*b*", "_a_" + c + "_b_", c + "_a_" + c, "_" + c + "_", "**" + c + "a**" + c, "a" + c + "_b_", "_a_" + c + "b",
			tick + c + tick, tick + c, tick + tick + c + tick + tick, tick + "a" + tick + c, c + tick + "a" + tick,
			"&" + c, "&" + c + ";", "&amp" + c, "&#" + c + ";", "&#4" + c, "<" + c, "<" + c + ">", "<a" + c + ">", "<ab:" + c + ">", "<a@b" + c + ">", "<!" + c + ">", "<!--" + c + "-->", "<?" + c + "?>", "</a" + c + ">",
			"[" + c, "!" + c + "a](u)", "[" + c + "](u)", "[a" + c + "](u)", "[a]" + c + "(u)", "[a](" + c + ")", "[a](u" + c + ")", "[a](u " + c + "b" + c + ")", "[r]" + c, "[r]" + c + "a]", "[r][" + c, "[r][" + c + "]", "[" + c + "r]", "[a][r" + c + "]", c + "[r]", c + "![r]", "![" + c + "r]", "[" + c + "]", "[" + c + "][]", "[a][" + c + "]",
		} {
			held(t, s, refs())
		}
	}
}

// TestHiddenAll holds P14.1 and P14.2 to texts without an LF, of which each sign of punctuation is hidden: they are what they are.
func TestHiddenAll(t *testing.T) {
	c := chance(20261120)
	for range 20000 {
		s := strings.ReplaceAll(c.mixed(20), "\n", " ")
		hidden := ""
		for i := range len(s) {
			if named.Sign(s[i]) {
				hidden += "\\"
			}
			hidden += s[i : i+1]
		}
		same(t, hidden, strconv.Quote(s), refs())
	}
}

// TestDefinitions holds P14.1 to no definitions, nil ones, raw ones, and two of one label.
func TestDefinitions(t *testing.T) {
	raw := []api.Ref{{Dest: "/x", Title: "x"}, {Label: " ", Dest: "/x"}, {Label: "A", Dest: "/x"}, {Label: " a", Dest: "/x"}, {Label: "[a]", Dest: "/x"}, {Label: "[]", Dest: "/x"}, {Label: "a\x00", Dest: "/x"}, {Label: "\xff", Dest: "/x"}}
	for _, given := range [][]api.Ref{nil, {}, {{}}, raw} {
		for _, s := range []string{"[a]", "[A]", "[ a]", "[a][]", "![a]", "[b][a]", "[a][b]", "[b] [a]", "[]", "[][]", "![]", "[ ]", "[\t][]", "[a][ ]", "[[]]", "[][][]", "[\xff]"} {
			same(t, s, strconv.Quote(s), given)
		}
		same(t, "[a](u) <ab:> [b]", `link<u>("a") " " link<ab:>("ab:") " [b]"`, given)
	}
	for _, x := range []struct {
		s, want string
		given   []api.Ref
	}{
		{"[a]", `link</1 "one">("a")`, []api.Ref{{Label: "a", Dest: "/1", Title: "one"}, {Label: "a", Dest: "/2", Title: "two"}}},
		{"[b][A]", `link</1>("b")`, []api.Ref{{Label: "A", Dest: "/0"}, {Label: "a", Dest: "/1"}, {Label: "a", Dest: "/2", Title: "two"}}},
		{"![a]", "image<>(\"a\")", []api.Ref{{Label: "a"}, {Label: "a", Dest: "/2", Title: "two"}}},
		{"[a][b]", `link</2>("a")`, []api.Ref{{Label: "a", Dest: "/1"}, {Label: "b", Dest: "/2"}}},
		{"[a]", `link<a b)<&amp;\* "\"*&amp;\n">("a")`, []api.Ref{{Label: "a", Dest: `a b)<&amp;\*`, Title: "\"*&amp;\n"}}},
		{"[*a*]", `link<*b*>(em("a"))`, []api.Ref{{Label: "*a*", Dest: "*b*"}}},
	} {
		same(t, x.s, x.want, x.given)
	}
}

// TestManyDefinitions holds P14.1 to many labels in one text, defined ones and others.
func TestManyDefinitions(t *testing.T) {
	const count = 200
	var given []api.Ref
	s, want := "", ""
	for i := range count {
		n := strconv.Itoa(i)
		given = append(given, api.Ref{Label: "a" + n, Dest: "/" + n, Title: "t" + n})
		s += "[A" + n + "] ![x][ a" + n + "\t] [a" + n + "][] [x][n" + n + "] [x][B] [][] "
		lead := "</" + n + ` "t` + n + `">`
		want += "link" + lead + `("A` + n + `") " " image` + lead + `("x") " " link` + lead + `("a` + n + `") " [x][n` + n + `] [x][B] [][] " `
	}
	for i := range count {
		given = append(given, api.Ref{Label: "a" + strconv.Itoa(i), Dest: "/again"})
	}
	given = append(given, api.Ref{Dest: "/nothing"}, api.Ref{Label: "B", Dest: "/great"})
	same(t, s, strings.TrimSuffix(want, " "), given)
	same(t, s, strconv.Quote(s), nil)
}

// What spans are made of, as Markdown that has but one meaning.

// made is Markdown, and its spans.
type made struct {
	s string
	l []api.Span
}

func (m *made) text(s, text string) {
	m.s += s
	if n := len(m.l); n > 0 && m.l[n-1].Kind == api.SpanText {
		m.l[n-1].Text += text
		return
	}
	m.l = append(m.l, api.Span{Kind: api.SpanText, Text: text})
}

func (m *made) span(s string, x api.Span) {
	m.s += s
	m.l = append(m.l, x)
}

// word puts a word that changes the meaning of no sign beside it.
func (c *chance) word(m *made) {
	for range 1 + c.below(3) {
		switch c.below(9) {
		case 0:
			m.text("\\*\\_\\[", "*_[")
		case 1:
			m.text("&amp;", "&")
		case 2:
			m.text("&#42;", "*")
		case 3:
			m.text("a_b", "a_b")
		default:
			w := c.of([]string{"a", "bc", "d", "\u00e9", "x1"})
			m.text(w, w)
		}
	}
	m.text("z", "z")
}

// list makes words, and between them what else there is, up to so deep in one another.
func (c *chance) list(deep int, inLink bool) *made {
	m := &made{}
	m.text("q", "q")
	c.word(m)
	for range c.below(4) {
		switch c.below(4) {
		case 0:
			c.lineEnd(m)
		default:
			m.text(" ", " ")
			c.thing(m, deep, inLink)
			m.text(" ", " ")
		}
		m.text("q", "q")
		c.word(m)
	}
	return m
}

func (c *chance) lineEnd(m *made) {
	switch c.below(4) {
	case 0:
		m.span("  \n", api.Span{Kind: api.SpanHard})
	case 1:
		m.span("    \n \t", api.Span{Kind: api.SpanHard})
	case 2:
		m.span("\\\n  ", api.Span{Kind: api.SpanHard})
	default:
		m.span(" \n  ", api.Span{Kind: api.SpanSoft})
	}
}

func (c *chance) thing(m *made, deep int, inLink bool) {
	kind := c.below(8)
	if deep == 0 {
		kind = c.below(3)
	}
	switch {
	case kind == 0:
		m.span(tick+tick+" a *b* "+tick+" \\ [c](d) "+tick+tick, api.Span{Kind: api.SpanCode, Text: "a *b* " + tick + " \\ [c](d)"})
	case kind == 1:
		m.span("<b c='*d*'>", api.Span{Kind: api.SpanHtml, Text: "<b c='*d*'>"})
	case kind == 2:
		// It may be in a link.
		m.span("<ab:*c*>", api.Span{Kind: api.SpanLink, Dest: "ab:*c*", Kids: []api.Span{{Kind: api.SpanText, Text: "ab:*c*"}}})
	case kind <= 4:
		sign := c.of([]string{"*", "_"})
		in := c.list(deep-1, inLink)
		m.span(sign+in.s+sign, api.Span{Kind: api.SpanEmph, Kids: in.l})
	case kind == 5:
		sign := c.of([]string{"**", "__"})
		in := c.list(deep-1, inLink)
		m.span(sign+in.s+sign, api.Span{Kind: api.SpanStrong, Kids: in.l})
	default:
		c.lead(m, deep, inLink)
	}
}

func (c *chance) lead(m *made, deep int, inLink bool) {
	sign, x := "![", api.Span{Kind: api.SpanImage}
	if !inLink && c.below(2) == 0 {
		sign, x.Kind = "[", api.SpanLink
	}
	in := c.list(deep-1, inLink || x.Kind == api.SpanLink)
	x.Kids = in.l
	end := ""
	switch c.below(3) {
	case 0:
		end, x.Dest = "](/u_(v)_*)", "/u_(v)_*"
	case 1:
		end, x.Dest, x.Title = "]( <a b>\n'c*' )", "a b", "c*"
	case 2:
		end, x.Dest, x.Title = "][R]", "/r", "R"
	}
	m.span(sign+in.s+end, x)
}

// TestMade holds P14.3: what is written with signs is told as what they mean.
func TestMade(t *testing.T) {
	c := chance(20261121)
	for range 30000 {
		m := c.list(4, false)
		if l := inline.Parse(m.s, refs()); !alike(l, m.l) {
			t.Errorf("Parse(%q):\n%s, not\n%s", m.s, shown(l), shown(m.l))
		}
		held(t, m.s, refs())
	}
}

// TestWords holds P14.3 to a word between signs, with all kinds of others ahead of it and behind it.
func TestWords(t *testing.T) {
	for _, ahead := range []example{{"", ""}, {"a ", `"a " `}, {"(", `"(" `}, {"\u2014", "\"\u2014\" "}, {"\u00a0", `"\u00a0" `}, {"[r] ", `link</r "R">("r") " " `}, {"\n", "soft "}, {"*a*. ", `em("a") ". " `}} {
		for _, behind := range []example{{"", ""}, {" b", ` " b"`}, {")", ` ")"`}, {", c", ` ", c"`}, {"\u2026", " \"\u2026\""}, {"\u00a0d", ` "\u00a0d"`}, {"  \ne", ` hard "e"`}, {" *f*", ` " " em("f")`}} {
			for _, x := range []example{
				{"*w*", `em("w")`}, {"_w_", `em("w")`}, {"**w**", `strong("w")`}, {"__w__", `strong("w")`}, {"***w***", `em(strong("w"))`}, {"___w___", `em(strong("w"))`},
				{"****w****", `strong(strong("w"))`}, {"*_w_*", `em(em("w"))`}, {"**_w_**", `strong(em("w"))`}, {"_**w**_", `em(strong("w"))`}, {"*w x*", `em("w x")`}, {"*(w)*", `em("(w)")`},
				{"[w](/u)", `link</u>("w")`}, {"![w](/u 't')", `image</u "t">("w")`}, {"[*w*](/u)", `link</u>(em("w"))`}, {"*[w](/u)*", `em(link</u>("w"))`}, {"[![w](/u)](/v)", `link</v>(image</u>("w"))`}, {"[w][r]", `link</r "R">("w")`},
				{tick + "*w*" + tick, `code"*w*"`}, {"<w>", `html"<w>"`}, {"<ww:*x*>", `link<ww:*x*>("ww:*x*")`}, {"<w@x>", `link<mailto:w@x>("w@x")`},
			} {
				same(t, ahead.s+x.s+behind.s, ahead.want+x.want+behind.want, refs())
			}
		}
	}
}

// The rules.

// TestNewMemory holds rule 3: answers share nothing with what is handed in, nor one list with another.
func TestNewMemory(t *testing.T) {
	s := strings.Clone("a *b **c*** " + tick + "d" + tick + " <e> <ff:g> <h@i>\n[j](k 'l') ![m](n) [r] \\* &amp; o  \n[p **q** ![s](t) u](v)*")
	given := refs()
	l := inline.Parse(s, given)
	var look func(l []api.Span)
	look = func(l []api.Span) {
		for _, x := range l {
			if shares(x.Text, s) || shares(x.Dest, s) || shares(x.Title, s) {
				t.Errorf("%s shares a text with the argument", spanShown(x))
			}
			look(x.Kids)
		}
	}
	look(l)
	look(inline.Parse(s[:1], nil))
	look(inline.Parse(s[12:15], nil))
	want := shown(l)
	spoil(inline.Parse(s, given))
	if got := shown(inline.Parse(s, given)); got != want || shown(l) != want {
		t.Error("what is done to one answer is seen in another one")
	}
	if !slices.Equal(given, refs()) {
		t.Error("the definitions are changed")
	}
	apart(t, l)
}

// apart holds all lists of l against each other: what is put behind one is in no other one.
func apart(t *testing.T, l []api.Span) {
	t.Helper()
	var lists [][]api.Span
	var gather func(l []api.Span)
	gather = func(l []api.Span) {
		if cap(l) > 0 {
			lists = append(lists, l[:cap(l)])
		}
		for _, x := range l {
			gather(x.Kids)
		}
	}
	gather(l)
	size := unsafe.Sizeof(api.Span{})
	for i, a := range lists {
		for _, b := range lists[i+1:] {
			from, other := uintptr(unsafe.Pointer(&a[0])), uintptr(unsafe.Pointer(&b[0]))
			if from < other+uintptr(len(b))*size && other < from+uintptr(len(a))*size {
				t.Errorf("%s and %s share memory", shown(a), shown(b))
			}
		}
	}
}

// spoil changes each list in l, its spare room too.
func spoil(l []api.Span) {
	for _, x := range l {
		spoil(x.Kids)
	}
	clear(l[:cap(l)])
}

func shares(part, whole string) bool {
	if part == "" || whole == "" {
		return false
	}
	a, b := uintptr(unsafe.Pointer(unsafe.StringData(part))), uintptr(unsafe.Pointer(unsafe.StringData(whole)))
	return a < b+uintptr(len(whole)) && b < a+uintptr(len(part))
}

// TestAtOnce holds rule 4: what a call answers hangs on its arguments alone.
func TestAtOnce(t *testing.T) {
	c := chance(20261122)
	l := make([]string, 400)
	want := make([]string, len(l))
	given := refs()
	for i := range l {
		l[i] = c.mixed(60)
		want[i] = shown(inline.Parse(l[i], given))
	}
	var w sync.WaitGroup
	for range 4 {
		w.Go(func() {
			for i, s := range l {
				if got := shown(inline.Parse(s, given)); got != want[i] {
					t.Errorf("Parse(%q) told another answer", s)
				}
			}
		})
	}
	w.Wait()
}

// P1.

// soon tells how many spans s has. They must be told soon: no part of a long text may be gone through again and again.
func soon(t *testing.T, s string, refs []api.Ref) int {
	t.Helper()
	begin := time.Now()
	l := inline.Parse(s, refs)
	if took := time.Since(begin); took > time.Minute {
		t.Errorf("it takes %v to parse %q", took, clip(s))
	}
	return len(l)
}

// TestLong holds P1 to long texts of one piece.
func TestLong(t *testing.T) {
	const all = -1 // as many spans as pieces; -2 twice as many
	for _, x := range []struct {
		piece string
		want  int
	}{
		{"a", 1}, {" ", 1}, {"\x00", 1}, {"\xff", 1}, {"\u20ac", 1}, {"a ", 1}, {"!", 1}, {"&", 1}, {"&a", 1}, {"&amp;", 1}, {"&#", 1}, {"&#1", 1}, {"\\", 1}, {"\\a", 1}, {"\\*", 1},
		{"\n", all}, {"a\n", 2 * all}, {" \n", all}, {"  \n", all}, {"a  \n", 2 * all}, {"\n \t", all}, {"\\\n", all}, {"\\\n ", all},
		{"*", 1}, {"_", 1}, {"*a", all}, {"*a ", 1}, {"a* ", 1}, {" *", 1}, {"* ", 1}, {"**a", all}, {"a_", 1}, {"_a ", 1}, {"_a_", 1}, {"_a_ ", 2 * all}, {"*a_ ", 1}, {"_a *b ", 1}, {"a_ b* ", 1}, {"*a** ", 2 * all}, {"*a _b* ", 2 * all}, {"**a *b ", 1}, {"*.a ", 1}, {"a.* ", 1},
		{"[", 1}, {"]", 1}, {"[]", 1}, {"[x", 1}, {"[x]", 1}, {"[x][", 1}, {"[x][y]", 1}, {"[x][]", 1}, {"[\\[", 1}, {"[\\]", 1}, {"![", 1}, {"![x", 1}, {"![]", 1}, {"[r][]", all}, {"[x][r]", all}, {"[r] ", 2 * all}, {"[x](u)", all}, {"![x](u)", all}, {"[[x](u)", 2 * all}, {"![[x](u)", 2 * all}, {"[x](u)]", 2 * all}, {"[*x](u)*", all},
		{"[](", 1}, {"[](<", 1}, {"[](x \"", 1}, {"[](x '", 1}, {"[](x (", 1}, {"[](x '[](y \"", 1}, {"[](\\", 1}, {"](", 1},
		{tick, 1}, {tick + "a", all}, {tick + "a" + tick + " ", 2 * all}, {"\\" + tick + tick + "a", 1},
		{"<", 1}, {">", 1}, {"<a", 1}, {"<a ", 1}, {"<a b='", 1}, {"<a b=\"<a b='", 1}, {"<a b=\" ", 1}, {"<a>", all}, {"</a", 1}, {"<ab:", 1}, {"<ab:c>", all}, {"<a@b", 1}, {"<a@b>", all},
		{"<!--", 1}, {"<!-->", all}, {"<!-- -->", all}, {"<?", 1}, {"<??>", all}, {"<![CDATA[", 1}, {"<![CDATA[]]>", all}, {"<!a", 1}, {"<!a>", all}, {"<!1", 1}, {"<!1>", 1}, {"<!", 1},
	} {
		want := x.want
		if want < 0 {
			want *= -many
		}
		if n := soon(t, strings.Repeat(x.piece, many), refs()); n != want {
			t.Errorf("many %q are %d spans, not %d", x.piece, n, want)
		}
	}
}

// TestHopeless holds P1 to long texts in which much begins that nothing ends, or ends that nothing began.
func TestHopeless(t *testing.T) {
	for _, x := range []struct{ ahead, behind string }{
		{"\\" + tick + tick + "a", ""}, {"<!--", "-- >"}, {"<?", " >"}, {"<![CDATA[", "]>"}, {"<!a", "<"},
	} {
		if n := soon(t, strings.Repeat(x.ahead, 4*long/len(x.ahead))+x.behind, nil); n != 1 {
			t.Errorf("many %q and %q are %d spans", x.ahead, x.behind, n)
		}
	}
	for _, x := range []struct{ ahead, behind string }{
		{"a* ", "_"}, {"_a *b ", "c__"}, {"*a***b ", "c_ "}, {"[x", "]"}, {"[](x \"", "'"},
	} {
		if n := soon(t, strings.Repeat(x.ahead, long/len(x.ahead))+x.behind, refs()); n == 0 {
			t.Errorf("many %q and %q are nothing", x.ahead, x.behind)
		}
	}
	for _, x := range []struct{ ahead, behind string }{
		{"![", "[x](u)"}, {"[", "[x](u)"}, {"[![", "[x](u)"}, {"*a ", "b_ "}, {"*a ", "b** "}, {"_a ", "b* "}, {"**a ", "b* "}, {"*a **b ", "c***d "}, {"*a ", "[x*](u)"}, {"_a*b ", "[x*](u)"}, {"[", "]"}, {"![", "](u)"},
	} {
		s := strings.Repeat(x.ahead, long/2/len(x.ahead)) + strings.Repeat(x.behind, long/2/len(x.behind))
		if n := soon(t, s, refs()); n == 0 {
			t.Errorf("many %q and many %q are nothing", x.ahead, x.behind)
		}
	}
	var unlike strings.Builder
	for i := 1; unlike.Len() < long; i++ {
		unlike.WriteString(strings.Repeat(tick, i) + "a")
	}
	if n := soon(t, unlike.String(), nil); n != 1 {
		t.Errorf("stretches of unlike lengths are %d spans", n)
	}
}

// TestManyLabels holds P1 to as many labels as definitions.
func TestManyLabels(t *testing.T) {
	const count = 4 * many
	var given []api.Ref
	var defined, others strings.Builder
	for i := range count {
		given = append(given, api.Ref{Label: strconv.Itoa(count + i)})
		defined.WriteString("[" + strconv.Itoa(2*count-1-i) + "][]")
		others.WriteString("[" + strconv.Itoa(i) + "][]")
	}
	if n := soon(t, defined.String(), given); n != count {
		t.Errorf("many labels are %d spans", n)
	}
	if n := soon(t, others.String(), given); n != 1 {
		t.Errorf("many labels that aren't defined are %d spans", n)
	}
}

// TestDeep holds P1 to as many parts in one another as may be.
func TestDeep(t *testing.T) {
	const deep = 1 << 16
	for _, x := range []struct {
		ahead, middle, behind string
		want                  int // how deep the spans are
	}{
		{"*a ", "b", " c*", deep}, {"**a ", "b", " c**", deep}, {"_a ", "b", "_", deep}, {"**", "a", "**", deep}, {"*", "a", "*", deep / 2}, {"*a _b ", "c", " d_ e*", 2 * deep},
		{"![", "x", "](u)", deep}, {"![", "x", "][r]", deep}, {"[![", "x", "](u)]", deep}, {"![*x ", "y", "*](u)", 2 * deep}, {"[", "x", "](u)", 1}, {"[", "x", "]", 0}, {"[", "r", "]", 1},
	} {
		s := strings.Repeat(x.ahead, deep) + x.middle + strings.Repeat(x.behind, deep)
		if n := depth(inline.Parse(s, refs())); n != x.want {
			t.Errorf("many %q, %q and many %q are %d deep, not %d", x.ahead, x.middle, x.behind, n, x.want)
		}
	}
}

// depth tells how many spans that hold others are in one another, where each list has one such span at most.
func depth(l []api.Span) int {
	for n := 0; ; n++ {
		at := slices.IndexFunc(l, func(x api.Span) bool { return len(x.Kids) > 0 })
		if at < 0 {
			return n
		}
		l = l[at].Kids
	}
}

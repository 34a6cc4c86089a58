package tree_test

import (
	"reflect"
	"strings"
	"sync"
	"testing"
	"unsafe"

	"compositor/api"
	"compositor/inline"
	"compositor/source"
	"compositor/tree"
)

// TestExample holds the chapter's example.
func TestExample(t *testing.T) {
	s := "# *a*\n> b"
	check(t, []example{{s, `doc(h1(em("a")) quote(p("b")))`}})
	b, _ := tree.Parse(s)
	if n, l := tree.Depth(b), tree.Leaves(b); n != 3 || len(l) != 2 {
		t.Errorf("depth %d, %d leaves", n, len(l))
	}
}

// TestBlocks holds P15.1 to paragraphs and headings everywhere, which have spans, and to other leaves, which keep their texts.
func TestBlocks(t *testing.T) {
	check(t, []example{
		{"", `doc()`},
		{"a", `doc(p("a"))`},
		{"*a*", `doc(p(em("a")))`},
		{"a *b\nc*  \nd\\\ne", `doc(p("a " em("b" soft "c") hard "d" hard "e"))`},
		{"# a *b*\n###### **c** ######", `doc(h1("a " em("b")) h6(strong("c")))`},
		{"#\n##\n", `doc(h1() h2())`},
		{"a *b\nc*\n===\nd\n---", `doc(h1("a " em("b" soft "c")) h2("d"))`},
		{"> *a*\n> # *b*\n> *c*\n> --", `doc(quote(p(em("a")) h1(em("b")) h2(em("c"))))`},
		{"> > *a*\n> > # b", `doc(quote(quote(p(em("a")) h1("b"))))`},
		{"- *a*\n- # *b*\n\n  c\n  ==", `doc(list-(item(p(em("a"))) item(h1(em("b")) h1("c"))))`},
		{"1. a\n   - *b*\n2. `c`", `doc(list.(item(p("a") list-(item(p(em("b"))))) item(p(code"c"))))`},
		{"> - *a*\n> - # *b*\n>\n>   c\n>   --", `doc(quote(list-(item(p(em("a"))) item(h1(em("b")) h2("c")))))`},
		{"- > *a*\n  > # *b*", `doc(list-(item(quote(p(em("a")) h1(em("b"))))))`},
		{"> - > *a*", `doc(quote(list-(item(quote(p(em("a")))))))`},
		{"> *a\nb*", `doc(quote(p(em("a" soft "b"))))`},
		{"    *a*\n    # b", `doc(code"*a*\n# b\n")`},
		{"~~~ go *x*\n*a* &amp;\n~~~", `doc(codego *x*"*a* &amp;\n")`},
		{"```", `doc(code"")`},
		{"<div>\n*a* &amp;\n\n*b*", `doc(html"<div>\n*a* &amp;\n" p(em("b")))`},
		{"***\n* * *\n---", `doc(rule rule rule)`},
		{"> ***\n> - ***\n>       *a*\n> - <b>\n", `doc(quote(rule list-(item(rule code"*a*\n") item(html"<b>\n"))))`},
		{"*a*\n\n    *b*\n# *c*\n***\n<d>\n\n*e*", `doc(p(em("a")) code"*b*\n" h1(em("c")) rule html"<d>\n" p(em("e")))`},
		{"a <b> &lt; <http://c> ![d](e 'f') [g](h)", `doc(p("a " html"<b>" " < " link<http://c>("http://c") " " image<e f>("d") " " link<h>("g")))`},
		{"-\n>\n", `doc(list-(item()) quote())`},
	})
}

// TestDefinitions holds P15.1 to definitions in one block that are meant in another.
func TestDefinitions(t *testing.T) {
	const link = `link</u>("a")`
	most := strings.Repeat("b", api.MaxLabel)
	check(t, []example{
		{"[a]", `doc(p("[a]"))`},
		{"[a]: /u", `doc()`},
		{"[a]: /u\n\n[a]", `doc(p(` + link + `))`},
		{"[a]\n\n[a]: /u", `doc(p(` + link + `))`},
		{"[a]: /u\n[a]", `doc(p(` + link + `))`},
		{"[a]: /u\n[a]\n===", `doc(h1(` + link + `))`},
		{"# [a]\n[a]: /u\n# [a]", `doc(h1(` + link + `) h1(` + link + `))`},
		{"[a]: /u 't'\n\n[a]", `doc(p(link</u t>("a")))`},
		{"[a]: </u>\n't\nt'\n\n![a]", "doc(p(image</u t\nt>(\"a\")))"},
		{"> [a]: /u\n\n[a]", `doc(quote() p(` + link + `))`},
		{"[a]\n\n> [a]: /u", `doc(p(` + link + `) quote())`},
		{"- [a]: /u\n\n[a]", `doc(list-(item()) p(` + link + `))`},
		{"# [a]\n\n- > 1. [a]: /u", `doc(h1(` + link + `) list-(item(quote(list.(item())))))`},
		{"> - [a]\n> - [a]: /u\n> - # [a]", `doc(quote(list-(item(p(` + link + `)) item() item(h1(` + link + `)))))`},
		{"> [a]\n\n- # *[a]*\n\n[a]: /u", `doc(quote(p(` + link + `)) list-(item(h1(em(` + link + `)))))`},
		{"> [a]:\n/u\n\n[a]", `doc(quote() p(` + link + `))`},
		{"[a]: /u\n\n[a]: /v\n\n[a]", `doc(p(` + link + `))`},
		{"[a]: /u\n[a]: /v\n\n[a]", `doc(p(` + link + `))`},
		{"[a]\n\n- [A]: /u\n\n[a]: /v", `doc(p(` + link + `) list-(item()))`},
		{"> [a]: /v\n> - [a]: /u\n\n[a]", `doc(quote(list-(item())) p(link</v>("a")))`},
		{"[b]: /v\n[a]: /u\n[c]: /w\n\n[a] [c] [b] [d] [a]", `doc(p(` + link + ` " " link</w>("c") " " link</v>("b") " [d] " ` + link + `))`},
		{"[a]: /u\n\n[x][a] [x][a\n] [a][] ![x][ A ] [a][b] [b][a]", `doc(p(link</u>("x") " " link</u>("x") " " link</u>("a") " " image</u>("x") " [a][b] " link</u>("b")))`},
		{"[a b]: /u\n\n[a\nb] [A \t B]", `doc(p(link</u>("a" soft "b") " " link</u>("A ` + `\t` + ` B")))`},
		{"[*a*]: /u\n\n[*a*]", `doc(p(link</u>(em("a"))))`},
		{"[a]: /u\n\n\\[a] \\\\[a] \\![a] !\\[a] [a\\] \\\\\\[a]", `doc(p("[a] \\" ` + link + ` " !" ` + link + ` " ![a] [a] \\[a]"))`},
		{"[\\[]: /u\n[\\]]: /v\n[\\\\]: /w\n\n[\\[] [\\]] [\\\\] [\\]", `doc(p(link</u>("[") " " link</v>("]") " " link</w>("\\") " []"))`},
		{"[a]: /u\n\n`[a]` `\\`[a] <b c='[a]'> ![[a]] [[a]]", `doc(p(code"[a]" " " code"\\" ` + link + ` " " html"<b c='[a]'>" " ![" ` + link + ` "] [" ` + link + ` "]"))`},
		{"[a]: /u\n\n    [a]\n\n```\n[a]\n```\n<div>[a]", `doc(code"[a]\n" code"[a]\n" html"<div>[a]\n")`},
		{"    [a]: /u\n\n```\n[a]: /u\n```\n<!--\n[a]: /u -->\n[a]", `doc(code"[a]: /u\n" code"[a]: /u\n" html"<!--\n[a]: /u -->\n" p("[a]"))`},
		{"[a]: /u b\n\n[a]", `doc(p("[a]: /u b") p("[a]"))`},
		{"[a]:\n\n[a]", `doc(p("[a]:") p("[a]"))`},
		{"[\xc4]: /u\n\n[\u00e4] [\xff] [\u00c4] [\ufffd]", `doc(p("[` + "\u00e4" + `] " link</u>("` + "\ufffd" + `") " [` + "\u00c4" + `] " link</u>("` + "\ufffd" + `")))`},
		{"[\u00c4]: /u\n\n[\u00e4] [\u00c4]", `doc(p(link</u>("` + "\u00e4" + `") " " link</u>("` + "\u00c4" + `")))`},
		{"[" + most + "]: /u\n\n[x][" + most + "]", `doc(p(link</u>("x")))`},
		{"[" + most + "b]: /u\n\n[x][" + most + "b]", `doc(p("[` + most + `b]: /u") p("[x][` + most + `b]"))`},
	})
}

// TestClean holds P15.1 to bytes that are turned, dropped or left, and to LFs at the end.
func TestClean(t *testing.T) {
	check(t, []example{
		{"\x00", `doc(p("` + "\ufffd" + `"))`},
		{"\xff\xfe", `doc(p("` + "\ufffd\ufffd" + `"))`},
		{"a\xc3", `doc(p("a` + "\ufffd" + `"))`},
		{"\xed\xa0\x80", `doc(p("` + "\ufffd\ufffd\ufffd" + `"))`},
		{"\u00e9\u4e00", `doc(p("` + "\u00e9\u4e00" + `"))`},
		{"\r", `doc()`},
		{"a\rb", `doc(p("a" soft "b"))`},
		{"a\r\nb", `doc(p("a" soft "b"))`},
		{"a\r\rb", `doc(p("a") p("b"))`},
		{"a\r\r\nb", `doc(p("a") p("b"))`},
		{"a\n\rb", `doc(p("a") p("b"))`},
		{"# a\r\n> b\r\n\r\n    c\r\n~~~\r\nd\r\n~~~\r\n", `doc(h1("a") quote(p("b")) code"c\n" code"d\n")`},
		{"# a\r> b\x00\r\r    c\x00\r<div>\xff\r", `doc(h1("a") quote(p("b` + "\ufffd" + `")) code"c` + "\ufffd" + `\n" html"<div>` + "\ufffd" + `\n")`},
		{"~~~ \x00\n\xff", `doc(code` + "\ufffd" + `"` + "\ufffd" + `\n")`},
		{"[\x00]: /\xff\r\n\r[\ufffd]", `doc(p(link</` + "\ufffd" + `>("` + "\ufffd" + `")))`},
		{"a", `doc(p("a"))`},
		{"a\n", `doc(p("a"))`},
		{"a\n\n\n", `doc(p("a"))`},
		{"\n\na", `doc(p("a"))`},
		{"\n", `doc()`},
		{"\n\n\n", `doc()`},
		{" \t\n", `doc()`},
		{"    a", `doc(code"a\n")`},
		{"    a\n\n\n", `doc(code"a\n")`},
		{"~~~\na", `doc(code"a\n")`},
		{"~~~\na\n", `doc(code"a\n")`},
		{"~~~\na\n\n\n", `doc(code"a\n\n\n")`},
		{"<a>\n\n", `doc(html"<a>\n")`},
		{"***\n\n", `doc(rule)`},
	})
}

// TestSameCleaned holds P15.3.
func TestSameCleaned(t *testing.T) {
	equal := func(s string) {
		b, e := tree.Parse(s)
		b2, e2 := tree.Parse(source.Clean(s))
		if e != e2 || !reflect.DeepEqual(b, b2) {
			t.Errorf("Parse(%q):\n%s, and cleaned\n%s", s, show(b, e), show(b2, e2))
		}
	}
	texts(5, []string{"\r", "\n", "\x00", "\xff", "a", "\xe4\xb8", "> "}, equal)
	texts(4, []string{"\r\n", "\r", "    a", "# ", "~~~", "- ", "\x00", "\xc3"}, equal)
	c := chance(20261121)
	for range 5000 {
		equal(c.mixed(10))
	}
	equal(strings.Repeat(">", 100) + "\x00\r\n")
}

// TestLarge holds P15.1 to texts of as many bytes as may be, and of one more.
func TestLarge(t *testing.T) {
	for _, x := range []struct {
		piece string
		n     int
		want  api.Errno
	}{
		{"a", 1 << 24, api.OK},
		{"a", 1<<24 + 1, api.ErrLarge},
		{"a", 1 << 25, api.ErrLarge},
		{"\xff", 1 << 24, api.OK}, // cleaned it has three times as many
		{"\xff", 1<<24 + 1, api.ErrLarge},
		{"\r\n", 1 << 24, api.OK},
		{"\r\n", 1<<24 + 2, api.ErrLarge}, // cleaned it has half as many
		{"\x00", 1<<24 + 1, api.ErrLarge},
		{">", 1 << 24, api.ErrDeep},
		{">", 1<<24 + 1, api.ErrLarge}, // ahead of anything else
	} {
		b, e := tree.Parse(strings.Repeat(x.piece, x.n/len(x.piece)))
		if e != x.want {
			t.Errorf("%d bytes of %q: error %d, not %d", x.n, x.piece, e, x.want)
		}
		if e != api.OK && !reflect.DeepEqual(b, api.Block{}) {
			t.Errorf("%d bytes of %q: something beside an error", x.n, x.piece)
		}
	}
	s := strings.Repeat("\xff", 1<<24)
	b, _ := tree.Parse(s)
	if len(b.Kids) != 1 || len(b.Kids[0].Spans) != 1 || b.Kids[0].Spans[0].Text != strings.Repeat("\ufffd", len(s)) {
		t.Errorf("as many bytes as may be, none of them a rune's, aren't as many fffd")
	}
}

// TestDeep holds P15.1 to blocks in so many others as may be, and in one more.
func TestDeep(t *testing.T) {
	quotes := strings.Repeat(">", 98)
	lists := strings.Repeat("- + ", 24) + "- " // signs of two kinds: they are no rule
	for _, x := range []struct {
		s    string
		want api.Errno
		deep int
	}{
		{quotes, api.OK, 99},
		{quotes + ">*a*", api.OK, 101},
		{quotes + "># *a*", api.OK, 101},
		{quotes + ">>", api.OK, 101},
		{quotes + ">>a", api.ErrDeep, 0},
		{quotes + ">># a", api.ErrDeep, 0},
		{quotes + ">>>", api.ErrDeep, 0},
		{"a\n\n" + quotes + ">>a", api.ErrDeep, 0},
		{quotes + ">>a\n\na", api.ErrDeep, 0},
		{quotes + ">> ***\n[b]: /c", api.ErrDeep, 0},
		{lists + "*a*", api.OK, 100},
		{lists + "> *a*", api.OK, 101},
		{lists + "- a", api.ErrDeep, 0},
		{strings.Repeat("> - ", 33) + "*a*", api.OK, 101},
		{strings.Repeat("> - ", 33) + "> *a*", api.ErrDeep, 0},
		{"    " + quotes + ">>>a", api.OK, 2},
	} {
		b, e := tree.Parse(x.s)
		if e != x.want {
			t.Errorf("Parse(%q): error %d, not %d", x.s, e, x.want)
		}
		if e != api.OK && !reflect.DeepEqual(b, api.Block{}) {
			t.Errorf("Parse(%q): something beside an error", x.s)
		}
		if d := tree.Depth(b); e == api.OK && d != x.deep {
			t.Errorf("Parse(%q): depth %d, not %d", x.s, d, x.deep)
		}
		held(t, x.s)
	}
	check(t, []example{
		{quotes + ">*a*", "doc(" + strings.Repeat("quote(", 99) + `p(em("a"))` + strings.Repeat(")", 100)},
		{quotes + ">[a]\n\n[a]: /u", "doc(" + strings.Repeat("quote(", 99) + `p(link</u>("a"))` + strings.Repeat(")", 100)},
		{"[a]\n\n" + quotes + ">[a]: /u", `doc(p(link</u>("a")) ` + strings.Repeat("quote(", 99) + strings.Repeat(")", 100)},
	})
}

// TestAll holds P15.1 to all texts of a few pieces, with definitions behind them that such texts may mean.
func TestAll(t *testing.T) {
	const behind = "\n\n[a]: /a\n[b]: /b\n[\\[]: /o\n[\\]]: /c\n[\\\\]: /h\n[a\\[b]: /i\n[`]: /t\n[!]: /n\n[a\\\\]: /j\n[[]: /k\n[b]: /l\n"
	for _, pieces := range [][]string{
		{"[", "]", "a", "\\", "!"},
		{"[a", "]", "\\", "`", "["},
		{"[a]", "[", "]", "b", "\\["},
		{"[a]", "[b]", "\\", "(", ")"},
		{"<", "[a]", ">", "\\", "'"},
		{"[a]", "*", "\n", "> ", "# "},
	} {
		texts(6, pieces, func(s string) { parsed(t, s+behind) })
	}
	for _, pieces := range [][]string{
		{"> ", "- ", "[a]", "\n", "  ", "# "},
		{"[a]\n", "[a]: /u\n", "[a]: /v\n", "> ", "- ", "\n"},
		{"    ", "<b>\n", "~~~\n", "*a*\n", "\n", "1. "},
	} {
		texts(5, pieces, func(s string) { held(t, s) })
	}
}

// TestMixed holds P15.1 and P15.2 to texts of lines of all kinds.
func TestMixed(t *testing.T) {
	c := chance(20261120)
	for range 20000 {
		held(t, c.mixed(6))
	}
	for range 2000 {
		held(t, c.mixed(60))
	}
}

// TestEachByte holds P15.1 to each byte.
func TestEachByte(t *testing.T) {
	for i := range 256 {
		c := string([]byte{byte(i)})
		for _, s := range []string{c, c + "a", "a" + c, "a\n" + c, c + "\nb", "# " + c, "> " + c, "- a" + c + "b", "    a" + c, "[" + c + "]: /u\n\n[" + c + "]", "[a]: /u\n\n" + c + "[a]" + c, "[a]: /u\n\n[" + c + "a]", "[a" + c + "]: /u\n\n[b][a" + c + "]"} {
			held(t, s)
		}
	}
}

// TestLabelsApart holds P15.1 to a text with as many labels as there are definitions: each leads where its own one says.
func TestLabelsApart(t *testing.T) {
	for _, count := range []int{1, 63, 64, 65, 66, 200, 2000} {
		var uses, defs strings.Builder
		for i := range count {
			uses.WriteString("[" + number(i*7919%count) + "]\n")
			defs.WriteString("[" + number(i) + "]: /" + number(i) + "\n")
			defs.WriteString("[" + number(i) + "]: /other\n")
		}
		for _, s := range []string{uses.String() + "\n" + defs.String(), defs.String() + "\n" + uses.String(), defs.String() + "# " + strings.ReplaceAll(uses.String(), "\n", "\n# ")} {
			links := 0
			b, _ := tree.Parse(s)
			for _, leaf := range tree.Leaves(b) {
				for _, x := range leaf.Spans {
					if x.Kind != api.SpanLink {
						continue
					}
					links++
					if x.Dest != "/"+x.Kids[0].Text {
						t.Fatalf("of %d labels %s leads to %s", count, x.Kids[0].Text, x.Dest)
					}
				}
			}
			if links != count {
				t.Errorf("of %d labels %d are links", count, links)
			}
		}
	}
}

// number tells i in letters.
func number(i int) string {
	s := "n"
	for ; i > 0; i /= 20 {
		s += string(rune('a' + i%20))
	}
	return s
}

// TestNewMemory holds rule 3: an answer shares nothing with what is handed in, nor one list in it with another, nor with another answer.
func TestNewMemory(t *testing.T) {
	s := strings.Clone("# a *b*\nc [d] `e` <f>\n\n    g\n\n~~~ h\ni\n~~~\n<j>\n\n> - k\n> - l **m *n***\n\n[d]: /o 'p'\n\n[q][d]\n===\n")
	b, _ := tree.Parse(s)
	want, _ := asked(s)
	apart(t, b, s)
	other, _ := tree.Parse(s)
	spoil(&other)
	third, _ := tree.Parse(s)
	if !reflect.DeepEqual(b, want) || !reflect.DeepEqual(third, want) {
		t.Error("what is done to one answer is seen in another one")
	}
}

// apart tells of texts in b that share memory with s, and of lists in it that share memory with each other.
func apart(t *testing.T, b api.Block, s string) {
	t.Helper()
	type part struct{ begin, end uintptr }
	var parts []part
	list := func(begin unsafe.Pointer, bytes uintptr) {
		p := part{uintptr(begin), uintptr(begin) + bytes}
		for _, q := range parts {
			if bytes > 0 && p.begin < q.end && q.begin < p.end {
				t.Error("two lists share memory")
			}
		}
		parts = append(parts, p)
	}
	text := func(x string) {
		if shares(x, s) {
			t.Errorf("%q shares memory with the argument", x)
		}
	}
	var ofSpans func(l []api.Span)
	ofSpans = func(l []api.Span) {
		list(unsafe.Pointer(unsafe.SliceData(l)), uintptr(cap(l))*unsafe.Sizeof(api.Span{}))
		for _, x := range l {
			text(x.Text)
			text(x.Dest)
			text(x.Title)
			ofSpans(x.Kids)
		}
	}
	for _, x := range askedWalk(b) {
		list(unsafe.Pointer(unsafe.SliceData(x.Kids)), uintptr(cap(x.Kids))*unsafe.Sizeof(api.Block{}))
		text(x.Text)
		text(x.Info)
		ofSpans(x.Spans)
	}
}

func shares(part, whole string) bool {
	if part == "" || whole == "" {
		return false
	}
	a, b := uintptr(unsafe.Pointer(unsafe.StringData(part))), uintptr(unsafe.Pointer(unsafe.StringData(whole)))
	return a < b+uintptr(len(whole)) && b < a+uintptr(len(part))
}

// spoil changes each list in b, its spare room too.
func spoil(b *api.Block) {
	for i := range b.Kids {
		spoil(&b.Kids[i])
	}
	clear(b.Kids[:cap(b.Kids)])
	spoilSpans(b.Spans)
}

func spoilSpans(l []api.Span) {
	for _, x := range l {
		spoilSpans(x.Kids)
	}
	clear(l[:cap(l)])
}

// TestAtOnce holds rule 4: what a call answers hangs on its argument alone.
func TestAtOnce(t *testing.T) {
	c := chance(20261122)
	l := make([]string, 200)
	want := make([]string, len(l))
	for i := range l {
		l[i] = c.mixed(20)
		want[i] = show(tree.Parse(l[i]))
	}
	var w sync.WaitGroup
	for range 4 {
		w.Go(func() {
			for i, s := range l {
				if got := show(tree.Parse(s)); got != want[i] {
					t.Errorf("Parse(%q) told another answer", s)
				}
			}
		})
	}
	w.Wait()
}

// TestTextsApart holds P15.1 to each text by itself: a paragraph's spans are those that its text has alone.
func TestTextsApart(t *testing.T) {
	c := chance(20261123)
	refs := []api.Ref{{Label: "a", Dest: "/a"}, {Label: "b", Dest: "/b", Title: "t"}}
	pieces := []string{"a", "*b*", "[a]", "[c][b]", "![b][]", "[c]", "`d`", "&lt;", "\\*", "_e_"}
	for range 2000 {
		s := ""
		var want [][]api.Span
		for i := range 1 + c.below(6) {
			text := "x"
			for range c.below(5) {
				text += c.of(pieces)
			}
			want = append(want, inline.Parse(text, refs))
			s += []string{"# ", "> ", "- ", "1. ", ""}[(i+c.below(2))%5] + text + "\n\n"
		}
		b, _ := tree.Parse(s + "[a]: /a\n[b]: /b 't'\n")
		leaves := tree.Leaves(b)
		if len(leaves) != len(want) {
			t.Fatalf("Parse(%q): %d leaves, not %d", s, len(leaves), len(want))
		}
		for i, leaf := range leaves {
			if !reflect.DeepEqual(leaf.Spans, want[i]) || leaf.Text != "" {
				t.Errorf("Parse(%q): leaf %d is %s", s, i, shown(leaf))
			}
		}
	}
}

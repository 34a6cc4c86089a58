package plain_test

import (
	"strconv"
	"strings"
	"testing"
	"unicode"

	"compositor/api"
	"compositor/plain"
)

// TestSlug holds P16.2 to texts of all kinds.
func TestSlug(t *testing.T) {
	for _, x := range []struct{ s, want string }{
		{"", ""},
		{"a", "a"},
		{"A", "a"},
		{"abcxyzABCXYZ", "abcxyzabcxyz"},
		{"0123456789", "0123456789"},
		{"A b_c-\u00e4!", "a-b_c-"},
		{"-", "-"},
		{"_", "_"},
		{"--__", "--__"},
		{" ", "-"},
		{"   ", "---"},
		{"a b", "a-b"},
		{"a  b", "a--b"},
		{"a   B", "a---b"},
		{" a ", "-a-"},
		{"  a  ", "--a--"},
		{"a - b", "a---b"},
		{"a\tb", "ab"},
		{"a\nb", "ab"},
		{"a\r\nb", "ab"},
		{"\u00a0", ""}, // a blank that doesn't break is no blank
		{"a\u2003b", "ab"},
		{"!\"#$%&'()*+,./:;<=>?@[\\]^`{|}~", ""},
		{"a.b", "ab"},
		{"@A[`a{", "aa"}, // what stands right beside the letters
		{"/0:", "0"},     // and the digits
		{",-.", "-"},
		{"^_`", "_"},
		{"\x1f !", "-"},
		{"\u00c4\u00e4\u00df\u00b2", ""},
		{"\u4e00a\u0410", "a"},
		{"\u0131\u212a\u017f", ""}, // runes that have A to Z in small or great
		{"\uff21\uff41\u0661", ""}, // letters and digits elsewhere
		{"\x00", ""},
		{"\xff\xfea\xc3", "a"},
		{"\xe4\xb8A", "a"},
		{"\ufffd", ""},
		{"Crab: a Life, 2nd ed.", "crab-a-life-2nd-ed"},
	} {
		if got := plain.Slug(x.s); got != x.want {
			t.Errorf("Slug(%q) is %q, not %q", x.s, got, x.want)
		}
		if got := askedSlug(x.s); got != x.want {
			t.Errorf("the model tells %q of %q, not %q", got, x.s, x.want)
		}
	}
}

// TestSlugBytes holds P16.2 to each byte, by itself and beside others.
func TestSlugBytes(t *testing.T) {
	for i := range 256 {
		want := ""
		switch {
		case i >= 'A' && i <= 'Z':
			want = string(rune(i - 'A' + 'a'))
		case i >= 'a' && i <= 'z', i >= '0' && i <= '9', i == '-', i == '_':
			want = string(rune(i))
		case i == ' ':
			want = "-"
		}
		c := string([]byte{byte(i)})
		for _, x := range []struct{ s, want string }{
			{c, want},
			{c + c, want + want},
			{"b" + c, "b" + want},
			{c + "b", want + "b"},
			{"B" + c + " " + c + "1", "b" + want + "-" + want + "1"},
			{"\u00e4" + c + "\xc3" + c, want + want},
		} {
			if got := plain.Slug(x.s); got != x.want {
				t.Errorf("Slug(%q) is %q, not %q", x.s, got, x.want)
			}
		}
	}
}

// TestSlugRunes holds P16.2 to each rune: none of more than a byte is in a name.
func TestSlugRunes(t *testing.T) {
	for r := rune(128); r <= unicode.MaxRune; r++ {
		if s := string(r); plain.Slug(s) != "" {
			t.Errorf("Slug(%q) is %q", s, plain.Slug(s))
		}
	}
}

// TestSlugAll holds P16.2 to all texts of a few pieces.
func TestSlugAll(t *testing.T) {
	for _, pieces := range [][]string{
		{"a", "Z", " ", "-", "_", "9"},
		{"A", " ", "\u00e4", "\xff", "!", "\t"},
	} {
		texts(6, pieces, func(s string) {
			if got, want := plain.Slug(s), askedSlug(s); got != want {
				t.Errorf("Slug(%q) is %q, not %q", s, got, want)
			}
		})
	}
}

// checkHeads holds what headsShown tells of s.
func checkHeads(t *testing.T, s, want string) {
	t.Helper()
	b := document(t, s)
	if got := headsShown(plain.Heads(b)); got != want {
		t.Errorf("the headings of %q are\n%s\nnot\n%s", s, got, want)
	}
	held(t, b)
}

// TestHeads holds P16.1 to headings of documents.
func TestHeads(t *testing.T) {
	for _, x := range []struct{ s, want string }{
		{"", ""},
		{"a\n\n- b\n> c\n\n    # d\n~~~\n# e\n~~~\n<div>\n# f\n", ""},
		{"# a", "1 a -1 a"},
		{"###### a", "6 a -1 a"},
		{"a\n===\nb\n---", "1 a -1 a\n2 b 0 b"},
		{"a\nb\n===", "1 a-b -1 a b"},
		{"a  \nb\\\nc\n===", "1 a-b-c -1 a b c"},
		{"# *A* `b C` <d> ![e](f) [g](h 'i')", "1 a-b-c-d-e-g -1 A b C <d> e g"},
		{"# &amp; \\*", "1 - -1 & *"},
		{"a\n\n# b\n\nc\n\n## d\n\n- e", "1 b -1 b\n2 d 0 d"},
		{"> # a\n> ## b\n\n- # c\n- ## d\n\n  e\n  ---\n", "1 a -1 a\n2 b 0 b\n1 c -1 c\n2 d 2 d\n2 e 2 e"},
		{"- > 1. # a", "1 a -1 a"},
		{"# [a](#a)\n\n[b]: c\n# [b]", "1 a -1 a\n1 b -1 b"},
		{"# \xff\x00", "1  -1 \ufffd\ufffd"},
	} {
		checkHeads(t, x.s, x.want)
	}
}

// headsOf tells a document of headings of level 1 with these texts.
func headsOf(l ...string) api.Block {
	b := api.Block{Kind: api.BlockDoc}
	for _, s := range l {
		b.Kids = append(b.Kids, api.Block{Kind: api.BlockHeading, Level: 1, Spans: []api.Span{text(s)}})
	}
	return b
}

// TestNames holds P16.1 and P16.3 to headings with equal names, and with such as numbers make.
func TestNames(t *testing.T) {
	for _, x := range []struct{ titles, want []string }{
		{nil, nil},
		{[]string{"a"}, []string{"a"}},
		{[]string{"a", "b"}, []string{"a", "b"}},
		{[]string{"a", "a"}, []string{"a", "a-1"}},
		{[]string{"a", "A", "a", "\u00e4a!"}, []string{"a", "a-1", "a-2", "a-3"}},
		{[]string{"a", "b", "a", "b", "b", "a"}, []string{"a", "b", "a-1", "b-1", "b-2", "a-2"}},
		{[]string{"a b", "a-b", "A B"}, []string{"a-b", "a-b-1", "a-b-2"}},
		// A name that ends in what a number would be set behind it.
		{[]string{"a-1", "a", "a"}, []string{"a-1", "a", "a-2"}},
		{[]string{"a 1", "a", "a", "a"}, []string{"a-1", "a", "a-2", "a-3"}},
		{[]string{"a", "a-1", "a"}, []string{"a", "a-1", "a-2"}},
		{[]string{"a-2", "a", "a", "a"}, []string{"a-2", "a", "a-1", "a-3"}},
		{[]string{"a-3", "a-1", "a", "a", "a"}, []string{"a-3", "a-1", "a", "a-2", "a-4"}},
		{[]string{"a-1", "a-2", "a-3", "a", "a"}, []string{"a-1", "a-2", "a-3", "a", "a-4"}},
		{[]string{"a-01", "a-0", "a", "a", "a-1"}, []string{"a-01", "a-0", "a", "a-1", "a-1-1"}},
		{[]string{"a-1", "a-1", "a", "a"}, []string{"a-1", "a-1-1", "a", "a-2"}},
		{[]string{"a1", "a_1", "a--1", "a", "a"}, []string{"a1", "a_1", "a--1", "a", "a-1"}},
		// A name that an elder heading got by its number.
		{[]string{"a", "a", "a-1"}, []string{"a", "a-1", "a-1-1"}},
		{[]string{"a", "a", "a-1", "a-1"}, []string{"a", "a-1", "a-1-1", "a-1-2"}},
		{[]string{"a", "a", "a-1", "a", "a-2", "a"}, []string{"a", "a-1", "a-1-1", "a-2", "a-2-1", "a-3"}},
		{[]string{"a", "a", "a", "a-2", "a-1", "a-1-1", "a-1"}, []string{"a", "a-1", "a-2", "a-2-1", "a-1-1", "a-1-1-1", "a-1-2"}},
		{[]string{"a", "a-1-1", "a", "a-1"}, []string{"a", "a-1-1", "a-1", "a-1-2"}},
		// A name that a number behind a name makes that ends in a number itself.
		{[]string{"a-1", "a", "a", "a-1", "a-1-1", "a"}, []string{"a-1", "a", "a-2", "a-1-1", "a-1-1-1", "a-3"}},
		// No name.
		{[]string{""}, []string{""}},
		{[]string{"", ""}, []string{"", "-1"}},
		{[]string{"", "!", "\u4e00", "\xff"}, []string{"", "-1", "-2", "-3"}},
		{[]string{"-1", "", ""}, []string{"-1", "", "-2"}},
		{[]string{"", "", "-1", " 1", ""}, []string{"", "-1", "-1-1", "-1-2", "-2"}},
		{[]string{"-", "", "-", "", " "}, []string{"-", "", "--1", "-1", "--2"}},
		{[]string{"", "-", "--", "---", ""}, []string{"", "-", "--", "---", "-1"}},
		{[]string{"--1", "-", "-"}, []string{"--1", "-", "--2"}},
	} {
		b := headsOf(x.titles...)
		heads := plain.Heads(b)
		var got []string
		for i, h := range heads {
			got = append(got, h.Slug)
			if h.Title != x.titles[i] {
				t.Errorf("of %q the title of heading %d is %q", x.titles, i, h.Title)
			}
		}
		if strings.Join(got, "|") != strings.Join(x.want, "|") || len(got) != len(x.want) {
			t.Errorf("the names of %q are %q, not %q", x.titles, got, x.want)
		}
		held(t, b)
	}
}

// TestNamesAll holds P16.1 and P16.3 to all documents of a few headings.
func TestNamesAll(t *testing.T) {
	for _, pieces := range [][]string{
		{"a|", "a-1|", "a-1-1|", "a-2|", "A|"},
		{"|", "-1|", "-|", "--1|", "-1-1|"},
		{"a|", "a-1|", "|", "-1|"},
	} {
		texts(6, pieces, func(s string) { held(t, headsOf(strings.Split(s, "|")...)) })
	}
}

// TestManyNumbers holds P16.1 to numbers of more than one digit.
func TestManyNumbers(t *testing.T) {
	var titles []string
	for i := range 1200 {
		titles = append(titles, "a")
		if i == 3 {
			titles = append(titles, "a-10", "a-99", "a-1000")
		}
	}
	heads := plain.Heads(headsOf(titles...))
	if s := heads[len(heads)-1].Slug; len(heads) != 1203 || s != "a-1202" {
		t.Errorf("of %d headings the last one's name is %s", len(heads), s)
	}
	held(t, headsOf(titles...))
}

// ups tells Up of headings of these levels.
func ups(levels ...int) string {
	b := api.Block{Kind: api.BlockDoc}
	for _, n := range levels {
		b.Kids = append(b.Kids, api.Block{Kind: api.BlockHeading, Level: n})
	}
	var l []string
	for _, h := range plain.Heads(b) {
		l = append(l, strconv.Itoa(h.Up))
	}
	return strings.Join(l, " ")
}

// TestUp holds P16.1 to levels that go up, down and stay.
func TestUp(t *testing.T) {
	for _, x := range []struct {
		levels []int
		want   string
	}{
		{nil, ""},
		{[]int{1}, "-1"},
		{[]int{6}, "-1"},
		{[]int{1, 1, 1}, "-1 -1 -1"},
		{[]int{3, 3, 3}, "-1 -1 -1"},
		{[]int{1, 2, 3, 4, 5, 6}, "-1 0 1 2 3 4"},
		{[]int{6, 5, 4, 3, 2, 1}, "-1 -1 -1 -1 -1 -1"},
		{[]int{1, 2, 2, 2}, "-1 0 0 0"},
		{[]int{1, 2, 3, 2, 3, 1, 2}, "-1 0 1 0 3 -1 5"},
		{[]int{1, 6, 3, 2, 6}, "-1 0 0 0 3"},
		{[]int{1, 3, 2, 3}, "-1 0 0 2"},
		{[]int{2, 3, 1, 3, 2}, "-1 0 -1 2 2"},
		{[]int{3, 1, 2, 3, 3, 2, 1, 4}, "-1 -1 1 2 2 1 -1 6"},
		{[]int{2, 4, 6, 5, 3, 4, 2, 1, 6}, "-1 0 1 1 0 4 -1 -1 7"},
		{[]int{1, 2, 4, 6, 6, 5, 3}, "-1 0 1 2 2 2 1"},
		// Levels that no document has.
		{[]int{0, 1, 0, -1, 7, 6, 8}, "-1 0 -1 -1 3 3 5"},
		{[]int{0, 0}, "-1 -1"},
		{[]int{1<<63 - 1, -1 << 63, 1<<63 - 1, -1 << 63, -1<<63 + 1}, "-1 -1 1 -1 3"},
	} {
		if got := ups(x.levels...); got != x.want {
			t.Errorf("headings of the levels %v stand under %s, not %s", x.levels, got, x.want)
		}
	}
}

// TestUpAll holds P16.1 to all levels of a few headings.
func TestUpAll(t *testing.T) {
	texts(7, []string{"1", "2", "3", "6"}, func(s string) {
		b := api.Block{Kind: api.BlockDoc}
		for _, c := range s {
			b.Kids = append(b.Kids, api.Block{Kind: api.BlockHeading, Level: int(c - '0')})
		}
		held(t, b)
	})
}

// TestHeadsKinds holds P16.1 to blocks of each kind: leaves of a heading's kind alone are headings, whatever else a block has.
func TestHeadsKinds(t *testing.T) {
	head := api.Block{Kind: api.BlockHeading, Level: 3, Text: "t", Spans: []api.Span{text("a")}, Kids: headsOf("b").Kids}
	for _, kind := range kinds() {
		b := api.Block{Kind: kind, Level: 2, Text: "t", Spans: []api.Span{text("c")}, Kids: []api.Block{head, head}}
		want := ""
		switch {
		case kind == api.BlockHeading:
			want = "2 c -1 c"
		case kind < api.BlockPara:
			want = "3 a -1 a\n3 a-1 -1 a"
		}
		if got := headsShown(plain.Heads(b)); got != want {
			t.Errorf("the headings of a block of kind %d are\n%s\nnot\n%s", kind, got, want)
		}
		held(t, b)
	}
	if l := plain.Heads(api.Block{}); len(l) != 0 {
		t.Errorf("a block of zero value has %d headings", len(l))
	}
	if got := headsShown(plain.Heads(api.Block{Kind: api.BlockHeading})); got != "0  -1 " {
		t.Errorf("a heading of nothing is %q", got)
	}
}

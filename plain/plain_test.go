package plain_test

import (
	"strings"
	"testing"

	"compositor/api"
	"compositor/inline"
	"compositor/plain"
)

// TestExample holds the chapter's example.
func TestExample(t *testing.T) {
	checkHeads(t, "# A *b*\n## A b\n", "1 a-b -1 A b\n2 a-b-1 0 A b")
}

// Short forms of spans.

func text(s string) api.Span { return api.Span{Kind: api.SpanText, Text: s} }

func of(kind int, kids ...api.Span) api.Span { return api.Span{Kind: kind, Kids: kids} }

// TestSpans holds P16.1 to the text of each kind of span, by itself, beside others, and in others.
func TestSpans(t *testing.T) {
	soft, hard := of(api.SpanSoft), of(api.SpanHard)
	code, html := api.Span{Kind: api.SpanCode, Text: "c *d*"}, api.Span{Kind: api.SpanHtml, Text: "<e>"}
	link := api.Span{Kind: api.SpanLink, Dest: "/f", Title: "g", Kids: []api.Span{text("h")}}
	image := api.Span{Kind: api.SpanImage, Dest: "/i", Title: "j", Kids: []api.Span{text("k")}}
	for _, x := range []struct {
		l    []api.Span
		want string
	}{
		{nil, ""},
		{[]api.Span{}, ""},
		{[]api.Span{{}}, ""},
		{[]api.Span{{}, text("a"), {}}, "a"},
		{[]api.Span{text("")}, ""},
		{[]api.Span{text("a")}, "a"},
		{[]api.Span{text("a"), text("b")}, "ab"},
		{[]api.Span{text(" a\n\tb ")}, " a\n\tb "},
		{[]api.Span{text("\x00\xff\u00e4\u4e00\xc3")}, "\x00\xff\u00e4\u4e00\xc3"},
		{[]api.Span{soft}, " "},
		{[]api.Span{hard}, " "},
		{[]api.Span{soft, hard, soft}, "   "},
		{[]api.Span{text("a"), soft, text("b"), hard, text("c")}, "a b c"},
		{[]api.Span{code}, "c *d*"},
		{[]api.Span{html}, "<e>"},
		{[]api.Span{of(api.SpanEmph, text("a"))}, "a"},
		{[]api.Span{of(api.SpanStrong, text("a"))}, "a"},
		{[]api.Span{of(api.SpanEmph)}, ""},
		{[]api.Span{of(api.SpanLink)}, ""},
		{[]api.Span{link}, "h"},
		{[]api.Span{image}, "k"},
		{[]api.Span{link, code, soft, image, html, hard, text("a")}, "hc *d* k<e> a"},
		{[]api.Span{of(api.SpanEmph, text("a"), soft, code, hard, html), text("b")}, "a c *d* <e>b"},
		{[]api.Span{of(api.SpanStrong, text("a"), of(api.SpanEmph, text("b"), link, text("c")), text("d"))}, "abhcd"},
		{[]api.Span{of(api.SpanLink, of(api.SpanStrong, image, of(api.SpanLink, text("a"))), of(api.SpanImage, link, soft, of(api.SpanEmph, code)))}, "kah c *d*"},
		{[]api.Span{of(api.SpanImage, of(api.SpanImage, of(api.SpanImage, text("a"), text("b")), text("c")), text("d"))}, "abcd"},
		// What no document has: spans of one kind with what another kind has.
		{[]api.Span{{Kind: api.SpanText, Text: "a", Dest: "b", Title: "c", Kids: []api.Span{text("d")}}}, "a"},
		{[]api.Span{{Kind: api.SpanCode, Text: "a", Dest: "b", Title: "c", Kids: []api.Span{text("d")}}}, "a"},
		{[]api.Span{{Kind: api.SpanHtml, Text: "a", Dest: "b", Title: "c", Kids: []api.Span{text("d")}}}, "a"},
		{[]api.Span{{Kind: api.SpanSoft, Text: "a", Dest: "b", Title: "c", Kids: []api.Span{text("d")}}}, " "},
		{[]api.Span{{Kind: api.SpanHard, Text: "a", Dest: "b", Title: "c", Kids: []api.Span{text("d")}}}, " "},
		{[]api.Span{{Kind: api.SpanEmph, Text: "a", Dest: "b", Title: "c", Kids: []api.Span{text("d")}}}, "d"},
		{[]api.Span{{Kind: api.SpanStrong, Text: "a", Dest: "b", Title: "c", Kids: []api.Span{text("d")}}}, "d"},
		{[]api.Span{{Kind: api.SpanLink, Text: "a", Dest: "b", Title: "c", Kids: []api.Span{text("d")}}}, "d"},
		{[]api.Span{{Kind: api.SpanImage, Text: "a", Dest: "b", Title: "c", Kids: []api.Span{text("d")}}}, "d"},
		{[]api.Span{{Text: "a", Dest: "b", Title: "c", Kids: []api.Span{text("d")}}}, "d"},
		{[]api.Span{{Kind: -1, Text: "a", Kids: []api.Span{text("d")}}, {Kind: 10, Text: "a", Kids: []api.Span{text("e")}}}, "de"},
	} {
		if got := plain.Spans(x.l); got != x.want {
			t.Errorf("Spans(%+v) is %q, not %q", x.l, got, x.want)
		}
		held(t, api.Block{Kind: api.BlockPara, Spans: x.l})
	}
}

// TestSpansKinds holds P16.1 to spans of each kind in each other: a span of no kind counts by what it holds.
func TestSpansKinds(t *testing.T) {
	for _, kind := range kinds() {
		for _, in := range kinds() {
			l := []api.Span{{Kind: kind, Text: "a", Kids: []api.Span{{Kind: in, Text: "b", Kids: []api.Span{text("c")}}, text("d")}}, {Kind: in, Text: "e"}}
			if got, want := plain.Spans(l), askedSpans(l); got != want {
				t.Errorf("Spans of kind %d in kind %d is %q, not %q", in, kind, got, want)
			}
		}
		want := "d"
		switch kind {
		case api.SpanText, api.SpanCode, api.SpanHtml:
			want = "a"
		case api.SpanSoft, api.SpanHard:
			want = " "
		}
		if got := plain.Spans([]api.Span{{Kind: kind, Text: "a", Kids: []api.Span{text("d")}}}); got != want {
			t.Errorf("Spans of kind %d is %q, not %q", kind, got, want)
		}
	}
}

// TestSpansTold holds P16.1 to the spans of texts.
func TestSpansTold(t *testing.T) {
	for _, x := range []struct{ s, want string }{
		{"", ""},
		{"a", "a"},
		{"a *b **c***", "a b c"},
		{"a\nb  \nc\\\nd", "a b c d"},
		{"`a  b` <c d='e'> <!-- f -->", "a  b <c d='e'> <!-- f -->"},
		{"[a *b*](/c 'd') ![e `f`](/g) <http://h>", "a b e f http://h"},
		{"![a [b](c) d](e)", "a b d"},
		{"\\* &amp; &lt;", "* & <"},
		{"*a", "*a"},
		{"\xff\xc3", "\xff\xc3"},
	} {
		if got := plain.Spans(inline.Parse(x.s, nil)); got != x.want {
			t.Errorf("Spans of %q is %q, not %q", x.s, got, x.want)
		}
	}
}

// TestMarker holds P16.2 to numbers from end to end, to each sign, and to lists without numbers.
func TestMarker(t *testing.T) {
	ordered := func(start int, mark byte) api.Block {
		return api.Block{Kind: api.BlockList, Ordered: true, Start: start, Mark: mark}
	}
	for _, x := range []struct {
		b    api.Block
		i    int
		want string
	}{
		{ordered(0, '.'), 0, "0."},
		{ordered(0, ')'), 0, "0)"},
		{ordered(0, '.'), 1, "1."},
		{ordered(1, '.'), 0, "1."},
		{ordered(1, '.'), 9, "10."},
		{ordered(7, ')'), 2, "9)"},
		{ordered(7, ')'), 3, "10)"},
		{ordered(99, '.'), 1, "100."},
		{ordered(999999998, '.'), 1, "999999999."},
		{ordered(999999999, '.'), 0, "999999999."},
		{ordered(999999999, ')'), 1, "1000000000)"},
		{ordered(999999999, ')'), 1 << 23, "1008388607)"},
		{ordered(1<<31-1, '.'), 1, "2147483648."},
		{ordered(1<<60, '.'), 0, "1152921504606846976."},
		{ordered(1<<60, '.'), 1 << 60, "2305843009213693952."},
		{ordered(1<<60, '.'), -1 << 60, "0."},
		{ordered(-1<<60, '.'), 1 << 60, "0."},
		{ordered(-1<<60, '.'), 0, "-1152921504606846976."},
		{ordered(-1<<60, ')'), -1 << 60, "-2305843009213693952)"},
		{ordered(-1, '.'), 0, "-1."},
		{ordered(-1, '.'), 1, "0."},
		{ordered(1, '.'), -2, "-1."},
		{ordered(1, 0), 0, "1\x00"},
		{ordered(1, 0xff), 0, "1\xff"},
		{api.Block{Ordered: true}, 0, "0\x00"},
		// Whether a list has numbers is what counts, not its kind, nor its sign.
		{api.Block{Ordered: true, Start: 3, Mark: '-'}, 1, "4-"},
		{api.Block{Kind: api.BlockPara, Ordered: true, Start: 3, Mark: '.'}, 1, "4."},
		{api.Block{}, 0, "\u2022"},
		{api.Block{}, 3, "\u2022"},
		{api.Block{Kind: api.BlockList, Mark: '-'}, 0, "\u2022"},
		{api.Block{Kind: api.BlockList, Mark: '+'}, 1, "\u2022"},
		{api.Block{Kind: api.BlockList, Mark: '*'}, 1 << 60, "\u2022"},
		{api.Block{Kind: api.BlockList, Start: 7, Mark: '.'}, -1, "\u2022"},
	} {
		if got := plain.Marker(x.b, x.i); got != x.want {
			t.Errorf("Marker(%+v, %d) is %q, not %q", x.b, x.i, got, x.want)
		}
	}
	for mark := range 256 {
		b := ordered(4, byte(mark))
		if got, want := plain.Marker(b, 1), askedMarker(b, 1); got != want {
			t.Errorf("Marker(%+v, 1) is %q, not %q", b, got, want)
		}
		b.Ordered = false
		if got := plain.Marker(b, 1); got != "\u2022" {
			t.Errorf("Marker(%+v, 1) is %q", b, got)
		}
	}
}

// TestMarkerEnds holds P1 to numbers for which Marker isn't asked.
func TestMarkerEnds(t *testing.T) {
	ends := []int{-1 << 63, -1<<63 + 1, -1 << 61, 1 << 61, 1<<63 - 2, 1<<63 - 1}
	for _, start := range ends {
		for _, i := range ends {
			b := api.Block{Kind: api.BlockList, Start: start}
			if got := plain.Marker(b, i); got != "\u2022" {
				t.Errorf("Marker(%+v, %d) is %q", b, i, got)
			}
			b.Ordered = true
			plain.Marker(b, i)
		}
	}
}

// TestText holds P16.1 to the text of each kind of block, by itself, beside others, and in others.
func TestText(t *testing.T) {
	for _, x := range []struct{ s, want string }{
		{"", ""},
		{"\n\n", ""},
		{"a", "a\n"},
		{"a\n\nb", "a\nb\n"},
		{"a\nb  \nc\\\nd", "a b c d\n"},
		{"*a* `b` <c> ![d](e) [f](g)", "a b <c> d f\n"},
		{"# a *b*", "a b\n"},
		{"#", "\n"},
		{"# a\n## b\nc\nd\n===", "a\nb\nc d\n"},
		{"~~~ a\nb *c*\n\n  d\n~~~", "b *c*\n\n  d\n"},
		{"~~~\n~~~", ""},
		{"    a\n\n      b", "a\n\n  b\n"},
		{"<div>\n*a*\n</div>", "<div>\n*a*\n</div>\n"},
		{"***", ""},
		{"a\n***\nb", "a\nb\n"},
		{">", ""},
		{"> a", "a\n"},
		{"> a\n> > # b\n> c", "a\nb\nc\n"},
		{"> a\n\n> b", "a\nb\n"},
		{"- a", "\u2022\na\n"},
		{"- a\n- b", "\u2022\na\n\u2022\nb\n"},
		{"-", "\u2022\n"},
		{"-\n-\n- a", "\u2022\n\u2022\n\u2022\na\n"},
		{"- a\n\n  b\n- c", "\u2022\na\nb\n\u2022\nc\n"},
		{"- a\n+ b\n* c", "\u2022\na\n\u2022\nb\n\u2022\nc\n"},
		{"1. a", "1.\na\n"},
		{"0) a\n0) b", "0)\na\n1)\nb\n"},
		{"7. a\n3. b\n1. c\n1. d", "7.\na\n8.\nb\n9.\nc\n10.\nd\n"},
		{"999999999) a\n999999999) b", "999999999)\na\n1000000000)\nb\n"},
		{"1. a\n1) b", "1.\na\n1)\nb\n"},
		{"3. a\n   - b\n     1) c\n     2) d\n   - e\n4. f", "3.\na\n\u2022\nb\n1)\nc\n2)\nd\n\u2022\ne\n4.\nf\n"},
		{"- - a", "\u2022\n\u2022\na\n"},
		{"1. ~~~\n   b\n   ~~~\n2.     c\n3. <b>\n4. ***\n5. # e\n6. > f", "1.\nb\n2.\nc\n3.\n<b>\n4.\n5.\ne\n6.\nf\n"},
		{"> 1. a\n> 2. > - b\n>\n>    c", "1.\na\n2.\n\u2022\nb\nc\n"},
		{"[a]: /b\n\n[a]", "a\n"},
		{"[a]: /b", ""},
		{"a\x00b\xff\r\n\r\n    c\xc3", "a\ufffdb\ufffd\nc\ufffd\n"},
	} {
		b := document(t, x.s)
		if got := plain.Text(b); got != x.want {
			t.Errorf("Text of %q is %q, not %q", x.s, got, x.want)
		}
		held(t, b)
	}
}

// TestTextParts holds P16.1 to blocks in a document, each by itself.
func TestTextParts(t *testing.T) {
	b := document(t, "> a\n\n7. # b\n8. c\n\n   ~~~\n   d\n   ~~~\n<e>\n\n***\n")
	list := b.Kids[1]
	for _, x := range []struct {
		b    api.Block
		want string
	}{
		{b, "a\n7.\nb\n8.\nc\nd\n<e>\n"},
		{b.Kids[0], "a\n"},
		{b.Kids[0].Kids[0], "a\n"},
		{list, "7.\nb\n8.\nc\nd\n"},
		{list.Kids[0], "b\n"},
		{list.Kids[1], "c\nd\n"},
		{list.Kids[1].Kids[1], "d\n"},
		{b.Kids[2], "<e>\n"},
		{b.Kids[3], ""},
	} {
		if got := plain.Text(x.b); got != x.want {
			t.Errorf("Text is %q, not %q, of %+v", got, x.want, x.b)
		}
		held(t, x.b)
	}
}

// TestTextKinds holds P16.1 to blocks of each kind in each other, with all that any kind has.
func TestTextKinds(t *testing.T) {
	full := func(kind int, name string, kids ...api.Block) api.Block {
		return api.Block{Kind: kind, Level: 2, Ordered: true, Start: 4, Mark: ')', Info: "i" + name, Text: "t" + name, Kids: kids, Spans: []api.Span{text("s" + name), of(api.SpanSoft)}}
	}
	for _, kind := range kinds() {
		b := full(kind, "1", full(api.BlockPara, "2"), full(api.BlockHtml, "3"))
		want := "s2 \nt3"
		switch kind {
		case api.BlockPara, api.BlockHeading:
			want = "s1 \n"
		case api.BlockCode, api.BlockHtml:
			want = "t1"
		case api.BlockList:
			want = "4)\ns2 \n5)\nt3"
		}
		if got := plain.Text(b); got != want {
			t.Errorf("Text of a block of kind %d is %q, not %q", kind, got, want)
		}
		held(t, b)
		held(t, api.Block{Kind: kind})
		held(t, api.Block{Kind: kind, Kids: []api.Block{}, Spans: []api.Span{}})
		for _, in := range kinds() {
			held(t, full(kind, "1", full(in, "2", full(kind, "3"), full(in, "4")), full(in, "5")))
		}
	}
}

// TestAny holds P16.1 and P16.3 to blocks of all kinds in one another, with spans of all kinds in one another.
func TestAny(t *testing.T) {
	c := chance(20261125)
	for range 20000 {
		held(t, c.block(1+c.below(6)))
	}
}

// TestMixed holds P16.1 and P16.3 to documents of lines of all kinds.
func TestMixed(t *testing.T) {
	c := chance(20261126)
	for range 5000 {
		held(t, document(t, c.mixed(8)))
	}
	for range 500 {
		held(t, document(t, c.mixed(80)))
	}
}

// TestEachByte holds P16.1 to each byte, in each kind of text.
func TestEachByte(t *testing.T) {
	for i := range 256 {
		c := string([]byte{byte(i)})
		for _, kind := range kinds() {
			held(t, api.Block{Kind: kind, Text: c, Info: c, Kids: []api.Block{{Kind: api.BlockCode, Text: c + c}}})
			s := api.Span{Kind: kind, Text: c + "a" + c, Dest: c + "b", Kids: []api.Span{text(c)}}
			held(t, api.Block{Kind: api.BlockHeading, Spans: []api.Span{s, text("x"), s}})
		}
		held(t, document(t, strings.ReplaceAll("# a@b\n## @\n# @\n> a@b [@](@) *@*\n\n- @\n", "@", c)))
	}
}

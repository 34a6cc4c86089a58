package plain_test

import (
	"slices"
	"strings"
	"testing"

	"compositor/api"
	"compositor/plain"
)

// TestLinks holds P16.1 to links of documents: in emphasis, in links, in images, in blocks of all kinds, and to none.
func TestLinks(t *testing.T) {
	for _, x := range []struct{ s, want string }{
		{"", ""},
		{"a *b* `[c](d)` <e> [f]", ""},
		{"[a](b)", "b"},
		{"[a](b) [a](b)", "b b"},
		{"[a](#b 'c') <http://d> <e@f.g>", "#b http://d mailto:e@f.g"},
		{"[a](b)\n[c](d)  \n[e](f)", "b d f"},
		{"*[a](b)*", "b"},
		{"**[a](b)**", "b"},
		{"***[a](b)* [c](d)** [e](f)", "b d f"},
		{"*a **b [c](d) ***e [f](g)***** [h](i)", "d g i"},
		{"[*a* **b**](c)", "c"},
		{"[a <http://b> c](d)", "d http://b"},
		{"[*a **<http://b>***](c) <http://d>", "c http://b http://d"},
		{"[a [b](c) d](e)", "c"},
		{"![a](b)", ""},
		{"![[a](b)](c)", ""},
		{"![<http://a> *[b](c)*](d) [e](f)", "f"},
		{"[![a](b)](c)", "c"},
		{"[![<http://a>](b) <http://c>](d)", "d http://c"},
		{"*![[a](b)](c) [d](e)*", "e"},
		{"[a]\n\n[a]: /b", "/b"},
		{"[a][b] [b][] ![b]\n\n[b]: <>", "| |"},
		{"# [a](b)\n[c](d)\n===\n[e](f)\n---", "b d f"},
		{"[a](b)\n\n> [c](d)\n>\n> - [e](f)\n>   1. # [g](h)\n>\n> [i](j)\n\n[k](l)", "b d f h j l"},
		{"- [a](b)\n- > [c](d)\n\n  [e](f)", "b d f"},
		{"    [a](b)\n~~~ [c](d)\n[e](f)\n~~~\n<div>\n[g](h)\n", ""},
		{"***\n[a](b)", "b"},
		{"[\x00](\xff)", "\ufffd"},
	} {
		b := document(t, x.s)
		// A destination of no byte is shown as a bar.
		var got []string
		for _, dest := range plain.Links(b) {
			if dest == "" {
				dest = "|"
			}
			got = append(got, dest)
		}
		if strings.Join(got, " ") != x.want {
			t.Errorf("the links of %q are %q, not %s", x.s, got, x.want)
		}
		held(t, b)
	}
}

// TestLinksRaw holds P16.1 to spans that no text makes: links in links, spans of one kind with what another kind has, and of no kind.
func TestLinksRaw(t *testing.T) {
	link := func(dest string, kids ...api.Span) api.Span {
		return api.Span{Kind: api.SpanLink, Dest: dest, Kids: kids}
	}
	for _, x := range []struct {
		l    []api.Span
		want []string
	}{
		{nil, nil},
		{[]api.Span{}, nil},
		{[]api.Span{{}}, nil},
		{[]api.Span{{Dest: "a"}}, nil},
		{[]api.Span{link("")}, []string{""}},
		{[]api.Span{link("a"), link(""), link("b")}, []string{"a", "", "b"}},
		{[]api.Span{link("a", link("b", link("c")), link("d")), link("e")}, []string{"a", "b", "c", "d", "e"}},
		{[]api.Span{link("a", of(api.SpanEmph, link("b", of(api.SpanStrong, link("c")))))}, []string{"a", "b", "c"}},
		{[]api.Span{link("a", of(api.SpanImage, link("b")), link("c"))}, []string{"a", "c"}},
		{[]api.Span{of(api.SpanImage, of(api.SpanEmph, link("a", link("b"))))}, nil},
		{[]api.Span{{Kind: api.SpanImage, Dest: "a", Kids: []api.Span{link("b")}}}, nil},
		{[]api.Span{{Kind: api.SpanEmph, Dest: "a", Text: "b", Kids: []api.Span{link("c")}}}, []string{"c"}},
		{[]api.Span{{Kind: api.SpanLink, Dest: "\xff\x00", Text: "b", Title: "c"}}, []string{"\xff\x00"}},
	} {
		b := api.Block{Kind: api.BlockPara, Spans: x.l}
		if got := plain.Links(b); !slices.Equal(got, x.want) {
			t.Errorf("the links of %+v are %q, not %q", x.l, got, x.want)
		}
		held(t, b)
	}
	for _, kind := range kinds() {
		b := api.Block{Kind: api.BlockHeading, Spans: []api.Span{link("a"), {Kind: kind, Dest: "b", Kids: []api.Span{link("c")}}, link("d")}}
		want := []string{"a", "d"}
		switch kind {
		case api.SpanLink:
			want = []string{"a", "b", "c", "d"}
		case api.SpanEmph, api.SpanStrong:
			want = []string{"a", "c", "d"}
		}
		if got := plain.Links(b); !slices.Equal(got, want) {
			t.Errorf("the links with a span of kind %d are %q, not %q", kind, got, want)
		}
	}
}

// TestLinksKinds holds P16.1 to blocks of each kind: a leaf tells those of its own spans, any other block those of its leaves.
func TestLinksKinds(t *testing.T) {
	spans := func(dest string) []api.Span { return []api.Span{{Kind: api.SpanLink, Dest: dest}} }
	for _, kind := range kinds() {
		b := api.Block{Kind: kind, Spans: spans("a"), Kids: []api.Block{
			{Kind: api.BlockPara, Spans: spans("b"), Kids: []api.Block{{Kind: api.BlockPara, Spans: spans("c")}}},
			{Kind: api.BlockHeading, Spans: spans("d")},
			{Kind: api.BlockItem, Spans: spans("e")},
		}}
		want := []string{"b", "d"}
		if kind >= api.BlockPara {
			want = []string{"a"}
		}
		if got := plain.Links(b); !slices.Equal(got, want) {
			t.Errorf("the links of a block of kind %d are %q, not %q", kind, got, want)
		}
		held(t, b)
	}
	if l := plain.Links(api.Block{}); len(l) != 0 {
		t.Errorf("a block of zero value has the links %q", l)
	}
}

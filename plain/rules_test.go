package plain_test

import (
	"reflect"
	"slices"
	"strconv"
	"strings"
	"sync"
	"testing"
	"time"

	"compositor/api"
	"compositor/plain"
	"compositor/tree"
)

// called are the calls of the layer, each with all that it tells of b.
func called() map[string]func(b api.Block) any {
	return map[string]func(b api.Block) any{
		"Spans":  func(b api.Block) any { return plain.Spans(b.Spans) },
		"Marker": func(b api.Block) any { return plain.Marker(b, 3) },
		"Text":   func(b api.Block) any { return plain.Text(b) },
		"Slug":   func(b api.Block) any { return plain.Slug(b.Text) },
		"Heads":  func(b api.Block) any { return plain.Heads(b) },
		"Links":  func(b api.Block) any { return plain.Links(b) },
	}
}

// roomy tells b again, in lists that have spare room.
func roomy(b api.Block) api.Block {
	kids := make([]api.Block, 0, len(b.Kids)+3)
	for _, k := range b.Kids {
		kids = append(kids, roomy(k))
	}
	b.Kids, b.Spans = kids, roomySpans(b.Spans)
	return b
}

func roomySpans(l []api.Span) []api.Span {
	spans := make([]api.Span, 0, len(l)+3)
	for _, x := range l {
		x.Kids = roomySpans(x.Kids)
		spans = append(spans, x)
	}
	return spans
}

// empty tells whether the spare room in b is as it was made.
func empty(b api.Block) bool {
	for _, k := range b.Kids {
		if !empty(k) {
			return false
		}
	}
	spare := b.Kids[len(b.Kids):cap(b.Kids)]
	return emptySpans(b.Spans) && reflect.DeepEqual(spare, make([]api.Block, len(spare)))
}

func emptySpans(l []api.Span) bool {
	for _, x := range l {
		if !emptySpans(x.Kids) {
			return false
		}
	}
	spare := l[len(l):cap(l)]
	return reflect.DeepEqual(spare, make([]api.Span, len(spare)))
}

// TestUntouched holds rule 3: what is handed in is not changed, its spare room neither, and lists that are told are new ones.
func TestUntouched(t *testing.T) {
	c := chance(20261127)
	for range 500 {
		b := roomy(c.block(4))
		want := roomy(b)
		for name, call := range called() {
			first := call(b)
			if !reflect.DeepEqual(b, want) || !empty(b) {
				t.Fatalf("%s changes its argument", name)
			}
			if heads, ok := first.([]api.Head); ok {
				clear(heads[:cap(heads)])
			}
			if links, ok := first.([]string); ok {
				clear(links[:cap(links)])
			}
			if !reflect.DeepEqual(b, want) || !empty(b) {
				t.Fatalf("a change of what %s told changes its argument", name)
			}
		}
		held(t, b)
	}
}

// TestAtOnce holds rule 4: what a call answers hangs on its arguments alone.
func TestAtOnce(t *testing.T) {
	c := chance(20261128)
	l := make([]api.Block, 100)
	want := make([]map[string]any, len(l))
	for i := range l {
		l[i] = c.block(5)
		if i%2 == 0 {
			l[i] = document(t, c.mixed(20))
		}
		want[i] = map[string]any{}
		for name, call := range called() {
			want[i][name] = call(l[i])
		}
	}
	var w sync.WaitGroup
	for range 4 {
		w.Go(func() {
			for i, b := range l {
				for name, call := range called() {
					if got := call(b); !reflect.DeepEqual(got, want[i][name]) {
						t.Errorf("%s told another answer", name)
					}
				}
			}
		})
	}
	w.Wait()
}

// soon tells of what takes too long: no part of what is long may be gone through again and again.
func soon(t *testing.T, what string, do func()) {
	t.Helper()
	begin := time.Now()
	do()
	if took := time.Since(begin); took > time.Minute {
		t.Errorf("%s takes %v", what, took)
	}
}

// TestDeepSpans holds P1 and P16.1 to as many spans in one another as may be.
func TestDeepSpans(t *testing.T) {
	const deep = 1 << 16
	for _, kind := range []int{-1, api.SpanEmph, api.SpanStrong, api.SpanLink, api.SpanImage, 10} {
		l := []api.Span{text("a")}
		for i := range deep {
			l = []api.Span{text("b"), {Kind: kind, Dest: strconv.Itoa(deep - i), Kids: l}}
		}
		b := api.Block{Kind: api.BlockHeading, Spans: l}
		want := strings.Repeat("b", deep) + "a"
		soon(t, "a deep span", func() {
			heads := plain.Heads(b)
			if plain.Spans(l) != want || plain.Text(b) != want+"\n" || len(heads) != 1 || heads[0].Title != want || heads[0].Slug != want {
				t.Errorf("the text of deep spans of kind %d isn't theirs", kind)
			}
			links := plain.Links(b)
			if kind != api.SpanLink && len(links) != 0 || kind == api.SpanLink && (len(links) != deep || links[0] != "1" || links[deep-1] != strconv.Itoa(deep)) {
				t.Errorf("deep spans of kind %d have %d links", kind, len(links))
			}
		})
	}
}

// TestDeepBlocks holds P1 and P16.1 to as many blocks in one another as may be.
func TestDeepBlocks(t *testing.T) {
	const deep = 1 << 16
	for _, kind := range []int{-1, api.BlockDoc, api.BlockQuote, api.BlockList, api.BlockItem} {
		leaf := api.Block{Kind: api.BlockHeading, Level: 1, Spans: []api.Span{{Kind: api.SpanLink, Dest: "b", Kids: []api.Span{text("a")}}}}
		b := leaf
		for range deep {
			b = api.Block{Kind: kind, Kids: []api.Block{b, leaf}}
		}
		want := "a\n" + strings.Repeat("a\n", deep)
		if kind == api.BlockList {
			want = strings.Repeat("\u2022\n", deep) + "a\n" + strings.Repeat("\u2022\na\n", deep)
		}
		soon(t, "a deep block", func() {
			heads := plain.Heads(b)
			if plain.Text(b) != want || len(heads) != deep+1 || heads[deep].Slug != "a-"+strconv.Itoa(deep) || len(plain.Links(b)) != deep+1 {
				t.Errorf("what is told of deep blocks of kind %d isn't theirs", kind)
			}
		})
	}
}

// TestDeepDocument holds P16.1 to blocks in as many others as a document may have.
func TestDeepDocument(t *testing.T) {
	s := strings.Repeat("> ", 99) + "# [a](b)"
	b := document(t, s)
	if plain.Text(b) != "a\n" || headsShown(plain.Heads(b)) != "1 a -1 a" || !slices.Equal(plain.Links(b), []string{"b"}) {
		t.Errorf("what is told of %q isn't its own", s)
	}
	s = strings.Repeat("- + ", 24) + "- # [a](b)"
	b = document(t, s)
	if plain.Text(b) != strings.Repeat("\u2022\n", 49)+"a\n" {
		t.Errorf("Text of %q is %q", s, plain.Text(b))
	}
	held(t, b)
}

// TestManyHeads holds P1, P16.1 and P16.3 to many headings: of one name, of names that numbers make, of names of their own, and of levels that go up and down.
func TestManyHeads(t *testing.T) {
	const count = 1 << 18
	for _, x := range []struct {
		what  string
		title func(i int) string
		level func(i int) int
		last  string // the last one's name, and which one it is under
	}{
		{"one name", func(int) string { return "a" }, func(int) int { return 1 }, "a-262143 -1"},
		{"no name", func(int) string { return "" }, func(i int) int { return i }, "-262143 262142"},
		{"names of their own", strconv.Itoa, func(i int) int { return count - i }, "262143 -1"},
		{"names with numbers, and then the name", func(i int) string {
			if i < count/2 {
				return "a-" + strconv.Itoa(i+1)
			}
			return "a"
		}, func(i int) int { return i % 1000 }, "a-262143 262142"},
		{"two names by turns", func(i int) string { return "a-1"[:1+i%2*2] }, func(i int) int { return 1 + i%2 }, "a-1-131071 262142"},
		{"a slope, and then the least but one", strconv.Itoa, func(i int) int { return min(i, count-i) }, "262143 0"},
	} {
		b := api.Block{Kind: api.BlockDoc, Kids: make([]api.Block, count)}
		for i := range b.Kids {
			b.Kids[i] = api.Block{Kind: api.BlockHeading, Level: x.level(i), Spans: []api.Span{text(x.title(i))}}
		}
		soon(t, "telling the headings of "+x.what, func() {
			heads := plain.Heads(b)
			apart(t, heads)
			last := heads[len(heads)-1]
			if got := last.Slug + " " + strconv.Itoa(last.Up); len(heads) != count || got != x.last {
				t.Errorf("of %s there are %d headings, the last one %s, not %s", x.what, len(heads), got, x.last)
			}
		})
	}
}

// TestLong holds P1 to long documents of one piece.
func TestLong(t *testing.T) {
	const bytes = 1 << 20
	for _, x := range []struct {
		piece, text string
		heads       int // of each piece
		links       int
	}{
		{"a\n\n", "a\n", 0, 0},
		{"# a\n", "a\n", 1, 0},
		{"#\n", "\n", 1, 0},
		{"- [a](b)\n", "\u2022\na\n", 0, 1},
		{"> # <http://a>\n\n", "http://a\n", 1, 1},
		{"*[a](b)*\n===\n## c\n", "a\nc\n", 2, 1},
		{"- 1. > a\n", "\u2022\n1.\na\n", 0, 0},
	} {
		count := bytes / len(x.piece)
		b, e := tree.Parse(strings.Repeat(x.piece, count))
		if e != api.OK {
			t.Errorf("many %q are no document: error %d", x.piece, e)
		}
		soon(t, "a document of "+strconv.Quote(x.piece), func() {
			if plain.Text(b) != strings.Repeat(x.text, count) {
				t.Errorf("Text of many %q isn't as many %q", x.piece, x.text)
			}
			heads, links := plain.Heads(b), plain.Links(b)
			if len(heads) != x.heads*count || len(links) != x.links*count {
				t.Errorf("of %d %q there are %d headings and %d links", count, x.piece, len(heads), len(links))
			}
			apart(t, heads)
		})
	}
	s := strings.Repeat("aB c\xff", bytes)
	soon(t, "a long name", func() {
		if plain.Slug(s) != strings.Repeat("ab-c", bytes) {
			t.Error("a long name isn't its text's")
		}
	})
}

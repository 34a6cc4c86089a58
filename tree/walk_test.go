package tree_test

import (
	"iter"
	"reflect"
	"slices"
	"strconv"
	"strings"
	"sync"
	"testing"
	"time"
	"unsafe"

	"compositor/api"
	"compositor/tree"
)

// leaf and holder tell a block with a number, by which it is known.
func leaf(number int) api.Block {
	return api.Block{Kind: api.BlockPara, Start: number}
}

func holder(number int, kids ...api.Block) api.Block {
	return api.Block{Kind: api.BlockQuote, Start: number, Kids: kids}
}

// sample holds twelve blocks, numbered in order.
func sample() api.Block {
	return holder(0,
		holder(1, leaf(2), holder(3, leaf(4), leaf(5)), holder(6)),
		leaf(7),
		holder(8, holder(9, holder(10, leaf(11)))),
	)
}

// numbers tells the numbers of l as a text.
func numbers(l []api.Block) string {
	var parts []string
	for _, x := range l {
		parts = append(parts, strconv.Itoa(x.Start))
	}
	return strings.Join(parts, " ")
}

// TestWalk holds P15.2: Walk goes over a block and all in it, each ahead of those in it, in order.
func TestWalk(t *testing.T) {
	for _, x := range []struct {
		b    api.Block
		want string
	}{
		{api.Block{}, "0"},
		{leaf(7), "7"},
		{holder(7), "7"},
		{api.Block{Start: 7, Kids: []api.Block{}}, "7"},
		{holder(1, leaf(2)), "1 2"},
		{holder(1, leaf(2), leaf(3), leaf(4)), "1 2 3 4"},
		{holder(1, holder(2, leaf(3)), leaf(4)), "1 2 3 4"},
		{holder(1, leaf(2), holder(3, leaf(4))), "1 2 3 4"},
		{chain(3, 2, leaf(4)), "0 0 0 4"},
		{sample(), "0 1 2 3 4 5 6 7 8 9 10 11"},
		{holder(0, leaf(1), sample(), leaf(2), sample()), "0 1 0 1 2 3 4 5 6 7 8 9 10 11 2 0 1 2 3 4 5 6 7 8 9 10 11"},
	} {
		if got := numbers(walked(x.b)); got != x.want {
			t.Errorf("Walk goes over %s, not %s", got, x.want)
		}
		gone(t, x.b)
	}
}

// TestWalkKinds holds P15.2 to blocks of each kind: Walk goes over what they hold, whatever they are.
func TestWalkKinds(t *testing.T) {
	for _, kind := range kinds() {
		for _, in := range kinds() {
			b := api.Block{Kind: kind, Start: 1, Kids: []api.Block{{Kind: in, Start: 2, Kids: []api.Block{leaf(3), holder(4)}}, {Kind: in, Start: 5}}}
			if got := numbers(walked(b)); got != "1 2 3 4 5" {
				t.Errorf("with blocks of kind %d in kind %d Walk goes over %s", in, kind, got)
			}
			if n := tree.Depth(b); n != 3 {
				t.Errorf("with blocks of kind %d in kind %d Depth is %d", in, kind, n)
			}
			gone(t, b)
		}
	}
}

// TestWalkWhole holds P15.2: the blocks that Walk tells are those that there are, with all that they have.
func TestWalkWhole(t *testing.T) {
	b, _ := tree.Parse("# *a*\n~~~ b\nc\n~~~\n7) d\n\n   > e\n8) f\n\n***\n<div>\n")
	l := walked(b)
	if len(l) != 12 || !reflect.DeepEqual(l[0], b) || !reflect.DeepEqual(l[3], b.Kids[2]) || !reflect.DeepEqual(l[6], b.Kids[2].Kids[0].Kids[1]) {
		t.Errorf("Walk goes over %d blocks, or they aren't whole", len(l))
	}
	full := api.Block{Kind: 1, Level: 2, Ordered: true, Start: 3, Mark: 4, Tight: true, Info: "5", Text: "6", Kids: []api.Block{{Kind: 7}}, Spans: []api.Span{{Kind: 8, Text: "9", Dest: "10", Title: "11", Kids: []api.Span{{Kind: 12}}}}}
	if l := walked(holder(0, full, full)); len(l) != 5 || !reflect.DeepEqual(l[1], full) || !reflect.DeepEqual(l[3], full) {
		t.Error("a block that Walk tells isn't whole")
	}
}

// TestLeft holds P15.2 to walks that are left at each place, the first block and the last one too: they end there.
func TestLeft(t *testing.T) {
	for _, b := range []api.Block{{}, leaf(0), holder(0, leaf(1)), sample(), holder(0, sample(), leaf(1), sample()), chain(5, 2, sample())} {
		all := askedWalk(b)
		walk := tree.Walk(b)
		for n := 1; n <= len(all)+1; n++ {
			var l []api.Block
			for x := range walk {
				l = append(l, x)
				if len(l) == n {
					break
				}
			}
			if want := all[:min(n, len(all))]; !same(l, want) {
				t.Errorf("a walk that is left at block %d goes over %s, not %s", n, numbers(l), numbers(want))
			}
			calls := 0
			walk(func(api.Block) bool {
				calls++
				return calls < n
			})
			if calls != min(n, len(all)) {
				t.Errorf("a walk that is to end at block %d goes over %d", n, calls)
			}
		}
		if l := slices.Collect(walk); !same(l, all) {
			t.Errorf("behind walks that were left one goes over %s, not %s", numbers(l), numbers(all))
		}
	}
}

// TestLeftOtherwise holds P15.2 to walks that are left by a return, a panic, or a label.
func TestLeftOtherwise(t *testing.T) {
	walk := tree.Walk(sample())
	until := func(n int) api.Block {
		for x := range walk {
			if x.Start == n {
				return x
			}
		}
		return api.Block{Start: -1}
	}
	for n := range 12 {
		if x := until(n); x.Start != n {
			t.Errorf("left at %d, not %d", x.Start, n)
		}
	}
	if x := until(12); x.Start != -1 {
		t.Errorf("left at %d, which isn't there", x.Start)
	}
	thrown := func() (what any) {
		defer func() { what = recover() }()
		for x := range walk {
			if x.Start == 5 {
				panic("five")
			}
		}
		return nil
	}
	if what := thrown(); what != "five" {
		t.Errorf("a loop's panic comes as %v", what)
	}
	count := 0
outer:
	for x := range walk {
		for y := range walk {
			count++
			if y.Start > x.Start {
				continue outer
			}
			if x.Start == 10 {
				break outer
			}
		}
	}
	// Of the walks of 0 to 9 so many blocks and two more each, and one of 10.
	if count != 45+20+1 {
		t.Errorf("walks in a walk go over %d blocks", count)
	}
	if got := numbers(slices.Collect(walk)); got != "0 1 2 3 4 5 6 7 8 9 10 11" {
		t.Errorf("at last Walk goes over %s", got)
	}
}

// TestWalkTwice holds P15.2 to a walk that is done again: behind itself, in itself and beside itself.
func TestWalkTwice(t *testing.T) {
	b := sample()
	walk := tree.Walk(b)
	all := askedWalk(b)
	for range 3 {
		if l := slices.Collect(walk); !same(l, all) {
			t.Errorf("done again Walk goes over %s", numbers(l))
		}
	}
	for x := range walk {
		if l := slices.Collect(walk); !same(l, all) {
			t.Errorf("done within itself, at %d, Walk goes over %s", x.Start, numbers(l))
		}
	}
	one, stop := iter.Pull(walk)
	other, stopOther := iter.Pull(walk)
	for i, want := range all {
		if x, ok := one(); !ok || x.Start != want.Start {
			t.Errorf("a walk beside another one comes to %d, not %d", x.Start, want.Start)
		}
		const left = 5 // so many blocks of the other one
		if x, ok := other(); ok != (i < left) || ok && x.Start != want.Start {
			t.Errorf("the other walk comes to %d, %t, not %d", x.Start, ok, want.Start)
		}
		if i == left-1 {
			stopOther()
		}
	}
	if _, ok := one(); ok {
		t.Error("a walk goes on behind its last block")
	}
	stop()
}

// TestWalkAtOnce holds P15.2 to walks that are done at once, some of them left: each is by itself.
func TestWalkAtOnce(t *testing.T) {
	b := holder(0, sample(), sample(), sample())
	walk := tree.Walk(b)
	all := askedWalk(b)
	var w sync.WaitGroup
	for begin := range 8 {
		w.Go(func() {
			for n := range 4000 {
				want := all[:1+(begin+n)%len(all)]
				at := 0
				for x := range walk {
					if x.Start != want[at].Start {
						t.Errorf("done at once a walk comes to %d, not %d", x.Start, want[at].Start)
					}
					at++
					if at == len(want) {
						break
					}
				}
				if at != len(want) {
					t.Errorf("done at once a walk goes over %d blocks, not %d", at, len(want))
				}
			}
		})
	}
	w.Wait()
}

// TestDepth holds P15.2: 1 and the greatest depth of a block that it holds.
func TestDepth(t *testing.T) {
	for _, x := range []struct {
		b    api.Block
		want int
	}{
		{api.Block{}, 1},
		{api.Block{Kids: []api.Block{}}, 1},
		{leaf(0), 1},
		{holder(0), 1},
		{api.Block{Kids: []api.Block{{}}}, 2},
		{holder(0, leaf(1), leaf(2), leaf(3)), 2},
		{holder(0, leaf(1), holder(2, leaf(3))), 3},
		{holder(0, holder(2, leaf(3)), leaf(1)), 3},
		{holder(0, leaf(1), holder(2, leaf(3)), leaf(4)), 3},
		{holder(0, chain(5, 2, leaf(1)), chain(3, 2, leaf(1)), chain(4, 2, leaf(1))), 7},
		{holder(0, chain(3, 2, leaf(1)), chain(5, 2, leaf(1)), chain(4, 2, leaf(1))), 7},
		{holder(0, chain(3, 2, leaf(1)), chain(4, 2, leaf(1)), chain(5, 2, leaf(1))), 7},
		{sample(), 5},
		{api.Block{Kind: api.BlockPara, Kids: []api.Block{{Kind: api.BlockRule, Kids: []api.Block{{}}}}}, 3},
		{api.Block{Kind: -1, Kids: []api.Block{{Kind: 99}}}, 2},
		{api.Block{Spans: []api.Span{{Kids: []api.Span{{}}}}}, 1},
	} {
		if n := tree.Depth(x.b); n != x.want {
			t.Errorf("Depth of %s is %d, not %d", numbers(walked(x.b)), n, x.want)
		}
		gone(t, x.b)
	}
	for _, x := range []struct {
		s    string
		want int
	}{{"", 1}, {"a", 2}, {"# a\n\n***", 2}, {"> a", 3}, {"- a", 4}, {"- a\n- > b\n\nc", 5}, {">\n- -\n\n> a", 5}} {
		b, _ := tree.Parse(x.s)
		if n := tree.Depth(b); n != x.want {
			t.Errorf("Depth of %q is %d, not %d", x.s, n, x.want)
		}
	}
}

// TestLeaves holds P15.2 to documents: Leaves tells the leaves in them.
func TestLeaves(t *testing.T) {
	for _, x := range []struct{ s, want string }{
		{"", ``},
		{"\n\n", ``},
		{">\n\n- 1.\n", ``},
		{"[a]: /b", ``},
		{"a", `p("a")`},
		{"# a\nb\n\n    c\n***\n<div>", `h1("a") p("b") code"c\n" rule html"<div>\n"`},
		{"> a\n> > # b\n> c", `p("a") h1("b") p("c")`},
		{"a\n- b\n  - c\n    > d\n  - e\n- ***\n\nf", `p("a") p("b") p("c") p("d") p("e") rule p("f")`},
		{"a\n\na\n\na", `p("a") p("a") p("a")`},
	} {
		b, _ := tree.Parse(x.s)
		var parts []string
		for _, k := range tree.Leaves(b) {
			parts = append(parts, shown(k))
		}
		if got := strings.Join(parts, " "); got != x.want {
			t.Errorf("Leaves of %q are %s, not %s", x.s, got, x.want)
		}
		for _, k := range askedWalk(b) {
			gone(t, k)
		}
	}
}

// TestLeavesKinds holds P15.2 to any block: those of the kind of a paragraph, and of 6 or more, are leaves; what they hold doesn't count.
func TestLeavesKinds(t *testing.T) {
	for _, kind := range kinds() {
		b := api.Block{Kind: kind, Start: 1, Kids: []api.Block{leaf(2), holder(3, leaf(4)), {Kind: api.BlockRule, Start: 5, Kids: []api.Block{leaf(6)}}}}
		want := "2 4 5"
		if kind >= 5 {
			want = "1"
		}
		l := tree.Leaves(b)
		if got := numbers(l); got != want {
			t.Errorf("Leaves of a block of kind %d are %s, not %s", kind, got, want)
		}
		if kind >= 5 && (len(l) != 1 || !reflect.DeepEqual(l[0], b)) {
			t.Errorf("the leaf of kind %d isn't whole", kind)
		}
		for _, b := range []api.Block{{Kind: kind, Start: 1}, {Kind: kind, Start: 1, Kids: []api.Block{}}} {
			if got := numbers(tree.Leaves(b)); (kind >= 5) != (got == "1") || kind < 5 && got != "" {
				t.Errorf("Leaves of a block of kind %d that holds none are %q", kind, got)
			}
		}
		for _, in := range kinds() {
			gone(t, api.Block{Kind: kind, Start: 1, Kids: []api.Block{{Kind: in, Start: 2, Kids: []api.Block{leaf(3), {Kind: kind, Start: 4}}}, {Kind: in, Start: 5}}})
		}
	}
	if got := numbers(tree.Leaves(sample())); got != "2 4 5 7 11" {
		t.Errorf("Leaves are %s", got)
	}
}

// TestAny holds P15.2 to blocks of all kinds in one another.
func TestAny(t *testing.T) {
	c := chance(20261124)
	for range 20000 {
		number := 0
		gone(t, c.block(&number, 1+c.below(6)))
	}
}

// TestUntouched holds rule 3: what is handed in is not changed, its spare room neither, and Leaves tells a list of its own.
func TestUntouched(t *testing.T) {
	room := func(b api.Block) api.Block {
		for i := range b.Kids {
			b.Kids[i].Kids = append(make([]api.Block, 0, 10), b.Kids[i].Kids...)
		}
		b.Kids = append(make([]api.Block, 0, 10), b.Kids...)
		return b
	}
	b, want := room(sample()), room(sample())
	untouched := func(what string) {
		t.Helper()
		if !reflect.DeepEqual(b, want) {
			t.Errorf("%s changes its argument", what)
		}
		for _, x := range append([]api.Block{b}, b.Kids...) {
			for _, k := range x.Kids[len(x.Kids):cap(x.Kids)] {
				if !reflect.DeepEqual(k, api.Block{}) {
					t.Errorf("%s changes the spare room of its argument", what)
				}
			}
		}
	}
	for x := range tree.Walk(b) {
		x.Kind, x.Kids = 99, nil
	}
	untouched("Walk")
	tree.Depth(b)
	untouched("Depth")
	l := tree.Leaves(b)
	untouched("Leaves")
	clear(append(l[:cap(l)], api.Block{Kind: 99}))
	clear(l[:cap(l)])
	untouched("a change of what Leaves told")
	flat := holder(0, leaf(1), leaf(2), leaf(3))
	l = tree.Leaves(flat)
	kids, told := uintptr(unsafe.Pointer(unsafe.SliceData(flat.Kids))), uintptr(unsafe.Pointer(unsafe.SliceData(l)))
	size := unsafe.Sizeof(api.Block{})
	if told < kids+uintptr(cap(flat.Kids))*size && kids < told+uintptr(cap(l))*size {
		t.Error("Leaves shares its list with its argument")
	}
}

// P1.

// soon tells of what takes too long: no part of a long text may be gone through again and again.
func soon(t *testing.T, what string, do func()) {
	t.Helper()
	begin := time.Now()
	do()
	if took := time.Since(begin); took > time.Minute {
		t.Errorf("%s takes %v", what, took)
	}
}

// TestDeepBlocks holds P1 to as many blocks in one another as may be.
func TestDeepBlocks(t *testing.T) {
	const deep = 1 << 16
	for _, kind := range []int{-1, 1, 4, 5, 6, 99} {
		b := chain(deep, kind, leaf(7))
		soon(t, "a deep block", func() {
			n, last := 0, 0
			for x := range tree.Walk(b) {
				n++
				last = x.Start
			}
			if n != deep+1 || last != 7 {
				t.Errorf("Walk goes over %d blocks, and ends at %d", n, last)
			}
			if n := tree.Depth(b); n != deep+1 {
				t.Errorf("Depth is %d", n)
			}
			l := tree.Leaves(b)
			if len(l) != 1 || (l[0].Start == 7) != (kind < 5) {
				t.Errorf("%d leaves, the first one %d", len(l), l[0].Start)
			}
		})
		n := 0
		for range tree.Walk(b) {
			n++
			if n == deep {
				break
			}
		}
		if n != deep {
			t.Errorf("a walk that is left far down goes over %d blocks", n)
		}
	}
}

// TestManyInDeep holds P1 to many blocks that are in many others.
func TestManyInDeep(t *testing.T) {
	const deep, many = 1 << 14, 1 << 18
	b := chain(deep, api.BlockQuote, api.Block{Kids: make([]api.Block, many)})
	for i := range 100 {
		b = holder(i, leaf(i), b, leaf(i))
	}
	soon(t, "a walk over many blocks that are in many others", func() {
		n := 0
		for range tree.Walk(b) {
			n++
		}
		if n != deep+many+301 || tree.Depth(b) != deep+102 || len(tree.Leaves(b)) != 200 {
			t.Errorf("%d blocks, depth %d, %d leaves", n, tree.Depth(b), len(tree.Leaves(b)))
		}
	})
}

// TestLong holds P1 to long documents of one piece.
func TestLong(t *testing.T) {
	const bytes = 1 << 19
	for _, x := range []struct {
		piece  string
		leaves int // of so many pieces one is a leaf; 0: all of them are one
	}{
		{"a", 0}, {"a\n", 0}, {"a\n\n", 1}, {"# *a*\n", 1}, {"> a\n\n", 1}, {"- a\n", 1}, {"***\n", 1}, {"- > # a\n", 1}, {"~~~\n", 2}, {"<!-- -->\n", 1}, {"    a\n", 0},
		{"[", 0}, {"[a", 0}, {"\\[", 0}, {"[\\[", 0}, {"\\", 0}, {"[a]\n\n", 1}, {"[a][", 0}, {"![a](", 0}, {strings.Repeat(">", 99) + "a\n\n", 1}, {strings.Repeat("- + ", 24) + "a\n\n", 1},
	} {
		pieces := bytes / len(x.piece)
		s := strings.Repeat(x.piece, pieces)
		soon(t, "a document of "+strconv.Quote(x.piece), func() {
			b, e := tree.Parse(s)
			want := 1
			if x.leaves > 0 {
				want = (pieces + x.leaves - 1) / x.leaves
			}
			if n := len(tree.Leaves(b)); e != api.OK || n != want {
				t.Errorf("a document of %q: error %d, %d leaves, not %d", x.piece, e, n, want)
			}
		})
	}
}

// TestManyDefinitions holds P1 to as many definitions as texts that have labels.
func TestManyDefinitions(t *testing.T) {
	const count = 1 << 18
	var defs, uses, other strings.Builder
	for i := range count {
		defs.WriteString("[" + number(i) + "]: /u\n")
		uses.WriteString("[" + number(count-1-i) + "]\n\n")
		other.WriteString("# [x" + number(i) + "]\n")
	}
	soon(t, "a document of many definitions", func() {
		b, _ := tree.Parse(uses.String() + other.String() + defs.String())
		n, links := 0, 0
		for _, x := range tree.Leaves(b) {
			n++
			if len(x.Spans) == 1 && x.Spans[0].Kind == api.SpanLink {
				links++
			}
		}
		if n != 2*count || links != count {
			t.Errorf("%d leaves, %d links", n, links)
		}
	})
}

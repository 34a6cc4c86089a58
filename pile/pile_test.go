package pile_test

import (
	"iter"
	"math"
	"slices"
	"strconv"
	"testing"

	"compositor/pile"
)

// outside tells places at which a pile of so many has nothing.
func outside(count int) []int {
	return []int{math.MinInt, math.MinInt + 1, -count - 1, -count, -2, -1, count, count + 1, 2*count + 1, math.MaxInt - 1, math.MaxInt}
}

func filled[T any](things ...T) *pile.Pile[T] {
	p := new(pile.Pile[T])
	for _, x := range things {
		p.Push(x)
	}
	return p
}

// holds asks for the whole state of a pile, by every call that only tells.
func holds[T comparable](t *testing.T, what string, p *pile.Pile[T], want []T) {
	t.Helper()
	if n := p.Len(); n != len(want) {
		t.Errorf("%s: Len is %d, asked is %d", what, n, len(want))
	}
	for i, x := range want {
		if y, ok := p.At(i); !ok || y != x {
			t.Errorf("%s: At(%d) is %v, %v, asked is %v", what, i, y, ok, x)
		}
	}
	var zero T
	for _, i := range outside(len(want)) {
		// A pile of none has its ends at 0, on both sides.
		if 0 <= i && i < len(want) {
			continue
		}
		if y, ok := p.At(i); ok || y != zero {
			t.Errorf("%s: At(%d) is %v, %v, asked is none", what, i, y, ok)
		}
	}
	if l := p.List(); !slices.Equal(l, want) {
		t.Errorf("%s: List is %v, asked is %v", what, l, want)
	}
	walks(t, what, p, want)
}

func walks[T comparable](t *testing.T, what string, p *pile.Pile[T], want []T) {
	t.Helper()
	var up, down []T
	for i, x := range p.All() {
		if i != len(up) {
			t.Errorf("%s: All tells place %d, asked is %d", what, i, len(up))
		}
		up = append(up, x)
	}
	for x := range p.Down() {
		down = append(down, x)
	}
	if !slices.Equal(up, want) {
		t.Errorf("%s: All is %v, asked is %v", what, up, want)
	}
	slices.Reverse(down)
	if !slices.Equal(down, want) {
		t.Errorf("%s: Down, turned round, is %v, asked is %v", what, down, want)
	}
}

func popped[T comparable](t *testing.T, p *pile.Pile[T], want T) {
	t.Helper()
	if x, ok := p.Pop(); !ok || x != want {
		t.Errorf("Pop is %v, %v, asked is %v", x, ok, want)
	}
}

func poppedNone[T comparable](t *testing.T, p *pile.Pile[T]) {
	t.Helper()
	var zero T
	if x, ok := p.Pop(); ok || x != zero {
		t.Errorf("Pop is %v, %v, asked is none", x, ok)
	}
}

// P2.1

func TestSteps(t *testing.T) {
	var p pile.Pile[string]
	p.Push("a")
	holds(t, "one", &p, []string{"a"})
	p.Push("b")
	holds(t, "two", &p, []string{"a", "b"})
	popped(t, &p, "b")
	holds(t, "one left", &p, []string{"a"})
	p.Push("c")
	p.Push("d")
	holds(t, "three", &p, []string{"a", "c", "d"})
	popped(t, &p, "d")
	popped(t, &p, "c")
	popped(t, &p, "a")
	holds(t, "none left", &p, nil)
	poppedNone(t, &p)
	poppedNone(t, &p)
	p.Push("e")
	holds(t, "one again", &p, []string{"e"})
	popped(t, &p, "e")
	poppedNone(t, &p)
}

func TestNumbers(t *testing.T) {
	want := []int{7, -7, 0, math.MaxInt, math.MinInt, 7}
	p := filled(want...)
	holds(t, "numbers", p, want)
	for len(want) > 0 {
		popped(t, p, want[len(want)-1])
		want = want[:len(want)-1]
		holds(t, "numbers", p, want)
	}
	poppedNone(t, p)
}

// What is zero is there too, and is told with true.
func TestZeroThings(t *testing.T) {
	p := filled("", "", "")
	holds(t, "texts", p, []string{"", "", ""})
	popped(t, p, "")
	holds(t, "texts", p, []string{"", ""})
	q := filled(0)
	popped(t, q, 0)
	poppedNone(t, q)
}

func TestEmpty(t *testing.T) {
	var p pile.Pile[int]
	holds(t, "empty", &p, nil)
	poppedNone(t, &p)
	for _, n := range outside(0) {
		p.Cut(n)
		holds(t, "empty, cut", &p, nil)
	}
	p.Push(5)
	holds(t, "one", &p, []int{5})
}

func TestNil(t *testing.T) {
	var p *pile.Pile[string]
	holds(t, "nil", p, nil)
	p.Push("a")
	holds(t, "nil, pushed", p, nil)
	poppedNone(t, p)
	for _, n := range append(outside(0), 0) {
		p.Cut(n)
		holds(t, "nil, cut", p, nil)
	}
	if p != nil {
		t.Error("a nil pile is no longer nil")
	}
}

func TestCut(t *testing.T) {
	all := []string{"a", "b", "c", "d", "e"}
	for n := 0; n <= len(all); n++ {
		p := filled(all...)
		p.Cut(n)
		holds(t, "cut at "+strconv.Itoa(n), p, all[:n])
		// What comes next stands at the place of what has gone.
		p.Push("x")
		p.Push("y")
		holds(t, "pushed behind a cut at "+strconv.Itoa(n), p, append(slices.Clone(all[:n]), "x", "y"))
	}
	for _, n := range outside(len(all)) {
		p := filled(all...)
		p.Cut(n)
		holds(t, "cut at "+strconv.Itoa(n), p, all)
		popped(t, p, "e")
	}
}

func TestCutTwice(t *testing.T) {
	p := filled(1, 2, 3, 4)
	p.Cut(2)
	// There is room for these in memory, but they have gone.
	p.Cut(3)
	p.Cut(4)
	holds(t, "cut", p, []int{1, 2})
	p.Cut(0)
	p.Cut(1)
	holds(t, "cut to none", p, nil)
	poppedNone(t, p)
}

func TestManyAndBack(t *testing.T) {
	const many = 100000
	var p pile.Pile[int]
	for i := range many {
		p.Push(i * 3)
	}
	if p.Len() != many {
		t.Fatalf("Len is %d", p.Len())
	}
	for i := range many {
		if x, ok := p.At(i); !ok || x != i*3 {
			t.Fatalf("At(%d) is %d, %v", i, x, ok)
		}
	}
	for i := many - 1; i >= 0; i-- {
		if x, ok := p.Pop(); !ok || x != i*3 || p.Len() != i {
			t.Fatalf("Pop is %d, %v, and Len %d, at %d", x, ok, p.Len(), i)
		}
	}
	poppedNone(t, &p)
}

func TestPilesAreApart(t *testing.T) {
	p, q := filled(1, 2), filled(3)
	p.Push(4)
	popped(t, q, 3)
	q.Push(5)
	q.Push(6)
	holds(t, "one", p, []int{1, 2, 4})
	holds(t, "the other", q, []int{5, 6})
	p.Cut(0)
	holds(t, "the other", q, []int{5, 6})
}

func TestThingsOfOtherTypes(t *testing.T) {
	type pair struct {
		name string
		at   [2]int
	}
	holds(t, "structs", filled(pair{"a", [2]int{1, 2}}, pair{}), []pair{{"a", [2]int{1, 2}}, {}})
	holds(t, "nothings", filled(struct{}{}, struct{}{}), make([]struct{}, 2))
	holds(t, "any", filled[any](nil, 1, "a", nil), []any{nil, 1, "a", nil})
	n := 5
	holds(t, "addresses", filled(&n, nil, &n), []*int{&n, nil, &n})
	lists := filled([]int{1}, nil)
	if x, ok := lists.Pop(); x != nil || !ok {
		t.Error("a nil list isn't told as one that is there")
	}
	if x, ok := lists.At(0); !ok || !slices.Equal(x, []int{1}) {
		t.Error("a list isn't told")
	}
	piles := filled(filled("a"), filled("b", "c"))
	if x, ok := piles.Pop(); !ok || x.Len() != 2 {
		t.Error("a pile of piles")
	}
	steps := filled(func() int { return 7 })
	if f, ok := steps.At(0); !ok || f() != 7 {
		t.Error("a function isn't told")
	}
	if f, ok := steps.At(1); ok || f != nil {
		t.Error("a function is told where there is none")
	}
}

// What a program does at random, held against a plain list.
func TestMixed(t *testing.T) {
	state := uint64(20261118)
	next := func(below int) int {
		state = state*6364136223846793005 + 1442695040888963407
		return int(state>>33) % below
	}
	var p pile.Pile[int]
	var want []int
	for step := range 20000 {
		switch k := next(16); {
		case k < 9:
			p.Push(step)
			want = append(want, step)
		case k < 15 && len(want) > 0:
			popped(t, &p, want[len(want)-1])
			want = want[:len(want)-1]
		case k < 15:
			poppedNone(t, &p)
		default:
			n := next(len(want)+20) - 5
			p.Cut(n)
			if 0 <= n && n < len(want) {
				want = want[:n]
			}
		}
		if step%8 == 0 {
			holds(t, "step "+strconv.Itoa(step), &p, want)
		}
		if t.Failed() {
			return
		}
	}
}

// P2.2

func TestWalks(t *testing.T) {
	s := ""
	p := filled("a", "b", "c")
	for i, x := range p.All() {
		s += strconv.Itoa(i) + x
	}
	for x := range p.Down() {
		s += x
	}
	if s != "0a1b2ccba" {
		t.Errorf("the walks tell %q", s)
	}
	q := filled(1, 20, 300)
	var l []int
	for i, x := range q.All() {
		l = append(l, i, x)
	}
	for x := range q.Down() {
		l = append(l, x)
	}
	if !slices.Equal(l, []int{0, 1, 1, 20, 2, 300, 300, 20, 1}) {
		t.Errorf("the walks tell %v", l)
	}
}

// A walk that is left at some thing tells none of those behind it.
func TestWalksLeftEarly(t *testing.T) {
	all := []int{10, 20, 30, 40}
	p := filled(all...)
	for stop := range all {
		var places, up, down []int
		p.All()(func(i, x int) bool {
			places, up = append(places, i), append(up, x)
			return len(up) <= stop
		})
		p.Down()(func(x int) bool {
			down = append(down, x)
			return len(down) <= stop
		})
		if !slices.Equal(places, []int{0, 1, 2, 3}[:stop+1]) || !slices.Equal(up, all[:stop+1]) {
			t.Errorf("All, left at %d, tells %v, %v", stop, places, up)
		}
		if !slices.Equal(down, []int{40, 30, 20, 10}[:stop+1]) {
			t.Errorf("Down, left at %d, tells %v", stop, down)
		}
	}
	holds(t, "after the walks", p, all)
}

func TestWalksLeftByBreak(t *testing.T) {
	p := filled("a", "b", "c")
	s := ""
	for i, x := range p.All() {
		if i == 2 {
			break
		}
		s += x
	}
	for x := range p.Down() {
		if x == "a" {
			break
		}
		s += x
	}
	if s != "abcb" {
		t.Errorf("the walks tell %q", s)
	}
}

// An iterator can be gone through again, from its beginning on, also where it was left.
func TestWalksAgain(t *testing.T) {
	p := filled(1, 2, 3)
	up, down := p.All(), p.Down()
	for range 3 {
		for range up {
			break
		}
		for range down {
			break
		}
		var l []int
		for _, x := range up {
			l = append(l, x)
		}
		l = slices.AppendSeq(l, down)
		if !slices.Equal(l, []int{1, 2, 3, 3, 2, 1}) {
			t.Errorf("the walks tell %v", l)
		}
	}
}

func TestWalksInOneAnother(t *testing.T) {
	p := filled("a", "b")
	s := ""
	for _, x := range p.All() {
		for y := range p.Down() {
			for i, z := range p.All() {
				s += x + y + strconv.Itoa(i) + z + " "
			}
		}
	}
	if s != "ab0a ab1b aa0a aa1b bb0a bb1b ba0a ba1b " {
		t.Errorf("the walks tell %q", s)
	}
}

func TestWalksOfNothing(t *testing.T) {
	gone := filled(1, 2)
	gone.Cut(0)
	for what, p := range map[string]*pile.Pile[int]{"nil": nil, "empty": {}, "cut": gone} {
		var up iter.Seq2[int, int] = p.All()
		var down iter.Seq[int] = p.Down()
		if up == nil || down == nil {
			t.Fatalf("%s: a walk is nil", what)
		}
		for i, x := range up {
			t.Errorf("%s: All tells %d, %d", what, i, x)
		}
		for x := range down {
			t.Errorf("%s: Down tells %d", what, x)
		}
		if l := p.List(); len(l) != 0 {
			t.Errorf("%s: List is %v", what, l)
		}
	}
}

// What these tell isn't promised, but that they end is.
func TestWalksWhilePushedAndCut(t *testing.T) {
	const enough = 100
	for k, change := range []func(p *pile.Pile[int]){
		func(p *pile.Pile[int]) { p.Push(1) },
		func(p *pile.Pile[int]) { p.Pop() },
		func(p *pile.Pile[int]) { p.Cut(0) },
		func(p *pile.Pile[int]) { p.Cut(1); p.Push(2); p.Push(3) },
	} {
		steps := 0
		p := filled(4, 5, 6, 7)
		for range p.All() {
			change(p)
			if steps++; steps > enough {
				t.Fatalf("All doesn't end, change %d", k)
			}
		}
		q := filled(4, 5, 6, 7)
		for range q.Down() {
			change(q)
			if steps++; steps > 2*enough {
				t.Fatalf("Down doesn't end, change %d", k)
			}
		}
	}
}

func TestList(t *testing.T) {
	if l := filled("a", "b", "c").List(); !slices.Equal(l, []string{"a", "b", "c"}) {
		t.Errorf("List is %v", l)
	}
	if l := filled(3, 1, 2).List(); !slices.Equal(l, []int{3, 1, 2}) {
		t.Errorf("List is %v", l)
	}
}

// Changed lists change neither the pile nor another list.
func TestListIsNew(t *testing.T) {
	for count := 1; count <= 9; count++ {
		p := new(pile.Pile[int])
		for i := range count {
			p.Push(i)
		}
		want := p.List()
		one, two := p.List(), p.List()
		for i := range one {
			one[i] = -1
		}
		whole := two[:cap(two)]
		for i := len(two); i < len(whole); i++ {
			whole[i] = -1
		}
		holds(t, "a list was changed", p, want)
		if !slices.Equal(two, want) {
			t.Errorf("of %d: the other list is %v", count, two)
		}
		// Spare room of a list isn't the pile's.
		two = append(two, -2)
		p.Push(count)
		if two[count] != -2 {
			t.Errorf("of %d: a list is changed by a push", count)
		}
		holds(t, "a list got longer", p, append(slices.Clone(want), count))
	}
}

// A changed pile doesn't change the lists it told.
func TestListStays(t *testing.T) {
	want := []string{"a", "b", "c", "d"}
	p := filled(want...)
	l := p.List()
	p.Pop()
	p.Push("x")
	p.Cut(1)
	p.Push("y")
	p.Push("z")
	if !slices.Equal(l, want) {
		t.Errorf("the list has become %v", l)
	}
	p.Cut(0)
	if !slices.Equal(l, want) {
		t.Errorf("the list has become %v", l)
	}
	holds(t, "cut", p, nil)
}

// Things pushed from a list leave the list alone.
func TestPushedFromAList(t *testing.T) {
	list := []int{1, 2, 3, 4}
	p := filled(list...)
	p.Cut(2)
	p.Push(9)
	if !slices.Equal(list, []int{1, 2, 3, 4}) {
		t.Errorf("the list has become %v", list)
	}
	list[0] = 7
	holds(t, "the list was changed", p, []int{1, 2, 9})
}

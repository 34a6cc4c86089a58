package pile

import "testing"

// keepsNoMore asks that nothing is left in the spare room.
func keepsNoMore(t *testing.T, what string, p *Pile[*int]) {
	t.Helper()
	whole := p.things[:cap(p.things)]
	for i := p.Len(); i < len(whole); i++ {
		if whole[i] != nil {
			t.Errorf("%s: what has gone is kept at %d", what, i)
		}
	}
}

func TestWhatHasGoneIsNotKept(t *testing.T) {
	var p Pile[*int]
	for range 10 {
		p.Push(new(int))
	}
	p.Pop()
	keepsNoMore(t, "Pop", &p)
	p.Cut(4)
	keepsNoMore(t, "Cut", &p)
	p.Cut(0)
	keepsNoMore(t, "Cut to none", &p)
}

package inline

import (
	"slices"
	"strings"

	"compositor/api"
	"compositor/label"
	"compositor/target"
)

// fewFinds is how many labels are looked for one by one; for more of them a map of all definitions is made.
const fewFinds = 64

// bracket is a [, or ! with [.
type bracket struct {
	place int // in the parser's list
	at    int // of its [ in the text
	image bool
}

// takeBracket takes a bracket.
func (p *parser) takeBracket() {
	sign := "["
	image := p.s[p.at] == '!'
	if image {
		sign = "!["
	}
	if !strings.HasPrefix(p.s[p.at:], sign) {
		p.takeByte()
		return
	}
	at := p.at + len(sign) - len("[")
	p.brackets = append(p.brackets, bracket{place: len(p.list), at: at, image: image})
	p.put(textOf(sign), len(sign))
}

// takeEnd takes a ], and what it makes with the last bracket.
func (p *parser) takeEnd() {
	b, ok := p.lastBracket()
	if !ok {
		p.takeByte()
		return
	}
	dest, title, n := p.leads(b)
	if n == 0 {
		p.takeByte()
		return
	}
	span := api.Span{Kind: api.SpanImage, Dest: dest, Title: title, Kids: spans(emphasized(p.list[b.place+1:]))}
	if !b.image {
		span.Kind = api.SpanLink
		p.dead = len(p.brackets)
	}
	p.list = slices.Replace(p.list, b.place, len(p.list), piece{Span: span})
	p.at += n
}

// lastBracket takes the last bracket away, and tells it, and whether it is there and not dead.
func (p *parser) lastBracket() (bracket, bool) {
	last := len(p.brackets) - 1
	if last < 0 {
		return bracket{}, false
	}
	b := p.brackets[last]
	alive := b.image || last >= p.dead
	p.brackets = p.brackets[:last]
	p.dead = min(p.dead, last)
	return b, alive
}

// leads tells where what b and the ] at the place make leads, its title, and how many bytes it has from the ] on; 0, if nothing is found.
func (p *parser) leads(b bracket) (string, string, int) {
	end := p.at + len("]")
	behind := p.s[end:]
	if dest, title, n := target.Inline(behind); n > 0 {
		return dest, title, len("]") + n
	}
	name, n := label.Label(behind)
	if n == 0 {
		name = p.between(b.at, end)
		n = len(behind) - len(strings.TrimPrefix(behind, "[]"))
	}
	ref, ok := p.find(name)
	if !ok {
		return "", "", 0
	}
	return ref.Dest, ref.Title, len("]") + n
}

// between tells the label that begins at begin and ends at end; nothing, if there is none. Whether another bracket stood in it needs no look: no label has one.
func (p *parser) between(begin, end int) string {
	name, n := label.Label(p.s[begin:])
	if begin+n != end {
		return ""
	}
	return name
}

// find tells the definition of the label name, and true; false, if there is none, or name is nothing.
func (p *parser) find(name string) (api.Ref, bool) {
	if name == "" {
		return api.Ref{}, false
	}
	p.finds++
	if p.finds <= fewFinds {
		return label.Find(p.refs, name)
	}
	if p.places == nil {
		p.places = placesOf(p.refs)
	}
	at, ok := p.places[label.Normal(name)]
	if !ok {
		return api.Ref{}, false
	}
	return p.refs[at], true
}

// placesOf tells of each label where its first definition stands.
func placesOf(refs []api.Ref) map[string]int {
	places := make(map[string]int, len(refs))
	for at, ref := range slices.Backward(refs) {
		places[ref.Label] = at
	}
	return places
}

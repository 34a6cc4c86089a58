package block

import (
	"compositor/api"
	"compositor/mark"
	"compositor/raw"
	"compositor/source"
)

// Kinds of HTML that end ahead of a blank line; the kinds below have an end of their own.
const (
	element    = 6
	anyElement = 7
)

// What begins in a line.
const (
	nothing = iota
	holder  // a quote or an item: more may begin within it
	lines   // code or HTML: what is left belongs to it
	whole   // a heading or its like: nothing is left
)

// begun has all begin that the line begins, from the matched block at on, and tells the last block of these, and what it is.
func (p *parser) begun(at int) (int, int) {
	switch p.list[at].Kind {
	case api.BlockCode, api.BlockHtml:
		return at, lines
	}
	for {
		what := p.begin(at)
		if what == nothing {
			return at, nothing
		}
		at = p.tip
		if what != holder || p.deep {
			return at, what
		}
	}
}

// begin has the one thing begin that the line begins in the block at, and tells what it is.
func (p *parser) begin(at int) int {
	switch {
	case p.line.blank():
		return nothing
	case p.line.indent >= codeIndent:
		return p.beginCode(at)
	case p.beginQuote(at):
		return holder
	case p.beginHeading(at), p.beginFence(at):
		return whole
	case p.beginHtml(at):
		return lines
	case p.beginUnder(at), p.beginRule(at):
		return whole
	case p.beginItem(at):
		return holder
	}
	return nothing
}

// addIn adds b, with nothing open any more within the block at.
func (p *parser) addIn(at int, b api.Block) *node {
	p.closeWithin(at)
	// In one expression Go would leave open whether the list is read ahead of what add does to it, or behind that.
	added := p.add(b)
	return &p.list[added]
}

func (p *parser) beginCode(at int) int {
	if p.tipIs(api.BlockPara) {
		return nothing
	}
	p.line.skip(codeIndent)
	p.addIn(at, api.Block{Kind: api.BlockCode})
	return lines
}

func (p *parser) beginQuote(at int) bool {
	if !p.line.pastQuote() {
		return false
	}
	p.addIn(at, api.Block{Kind: api.BlockQuote})
	return true
}

func (p *parser) beginHeading(at int) bool {
	level, text := mark.Heading(p.line.next)
	if level == 0 {
		return false
	}
	b := p.addIn(at, api.Block{Kind: api.BlockHeading, Level: level})
	b.text = []byte(text)
	return true
}

func (p *parser) beginFence(at int) bool {
	sign, count, info := mark.Fence(p.line.next)
	if count == 0 {
		return false
	}
	b := p.addIn(at, api.Block{Kind: api.BlockCode, Info: info})
	b.fence, b.count, b.indent = sign, count, p.line.indent
	return true
}

func (p *parser) beginHtml(at int) bool {
	kind := mark.Html(p.line.next)
	// A paragraph that might go on with this line has it.
	if kind == 0 && !p.tipIs(api.BlockPara) && isElement(p.line.next) {
		kind = anyElement
	}
	if kind == 0 {
		return false
	}
	p.addIn(at, api.Block{Kind: api.BlockHtml}).html = kind
	return true
}

// isElement tells whether s is the beginning or the end of one element alone.
func isElement(s string) bool {
	n := raw.Tag(s)
	return n > 0 && source.Blank(s[n:])
}

// beginUnder makes a heading of the paragraph at, if the line is one under it, and something is left besides its definitions.
func (p *parser) beginUnder(at int) bool {
	b := &p.list[at]
	level := mark.Under(p.line.next)
	if level == 0 || b.Kind != api.BlockPara {
		return false
	}
	p.define(b)
	if len(b.text) == 0 {
		return false
	}
	b.Kind, b.Level = api.BlockHeading, level
	return true
}

func (p *parser) beginRule(at int) bool {
	if !mark.Rule(p.line.next) {
		return false
	}
	p.addIn(at, api.Block{Kind: api.BlockRule})
	return true
}

func (p *parser) beginItem(at int) bool {
	sign, ok := mark.List(p.line.next)
	if !ok || p.list[at].Kind == api.BlockPara && !interrupts(sign, p.line.next[sign.Width:]) {
		return false
	}
	p.closeWithin(at)
	if !p.tipTakes(sign) {
		p.add(api.Block{Kind: api.BlockList, Ordered: sign.Ordered, Start: sign.Start, Mark: sign.Mark})
	}
	item := p.add(api.Block{Kind: api.BlockItem})
	p.list[item].indent = p.line.pastMark(sign.Width)
	return true
}

// interrupts tells whether an item of that mark, with behind behind it, may begin within a paragraph.
func interrupts(sign api.Sign, behind string) bool {
	return !source.Blank(behind) && (!sign.Ordered || sign.Start == 1)
}

// tipTakes tells whether the tip is a list of that mark's kind.
func (p *parser) tipTakes(sign api.Sign) bool {
	b := &p.list[p.tip]
	return b.Kind == api.BlockList && b.Ordered == sign.Ordered && b.Mark == sign.Mark
}

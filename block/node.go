package block

import (
	"slices"
	"strings"

	"compositor/api"
	"compositor/label"
	"compositor/source"
)

// Places in a parser's list.
const (
	none     = -1
	document = 0
)

// node is a block in the making. Its Text and its Kids come at last.
type node struct {
	api.Block
	up       int // the block that it is in
	last     int // the last block in it
	ahead    int // the block right ahead of it within the same one
	depth    int // how many blocks it is in
	text     []byte
	indent   int  // of an item: the columns that its lines are indented by; of fenced code: its fence's
	fence    byte // of fenced code: the sign; 0 of indented code
	count    int  // of fenced code: how many of the sign
	html     int  // of HTML: its kind
	blankEnd bool // whether it ends blank
}

// fenced tells whether the block is fenced code.
func (b *node) fenced() bool {
	return b.fence != 0
}

// holds tells whether blocks of the kind outer may hold such of the kind inner.
func holds(outer, inner int) bool {
	switch outer {
	case api.BlockDoc, api.BlockQuote, api.BlockItem:
		return inner != api.BlockItem
	case api.BlockList:
		return inner == api.BlockItem
	}
	return false
}

// tipIs tells whether the tip is of that kind.
func (p *parser) tipIs(kind int) bool {
	return p.list[p.tip].Kind == kind
}

// add adds b to the innermost open block that may hold it, and tells where it is: it is the tip.
func (p *parser) add(b api.Block) int {
	for !holds(p.list[p.tip].Kind, b.Kind) {
		p.close()
	}
	at := len(p.list)
	outer := &p.list[p.tip]
	added := node{Block: b, up: p.tip, last: none, ahead: outer.last, depth: outer.depth + 1}
	outer.last = at
	p.list = append(p.list, added)
	p.tip = at
	if added.depth > api.MaxDepth {
		p.deep = true
	}
	return at
}

// closeWithin closes all open blocks within the block at.
func (p *parser) closeWithin(at int) {
	for p.tip != at {
		p.close()
	}
}

// close closes the tip.
func (p *parser) close() {
	b := &p.list[p.tip]
	switch b.Kind {
	case api.BlockPara:
		p.closePara(b)
	case api.BlockCode:
		if !b.fenced() {
			b.text = withoutBlankLines(b.text)
		}
	case api.BlockHtml:
		b.text = withoutBlankLines(b.text)
	case api.BlockList:
		b.Tight = p.isTight(b)
	}
	p.tip = b.up
}

// closePara tells the paragraph's definitions; if nothing else is in it, it goes.
func (p *parser) closePara(b *node) {
	p.define(b)
	if len(b.text) == 0 {
		p.list[b.up].last = b.ahead
	}
}

// define tells the paragraph's definitions; what is left, trimmed, is its text.
func (p *parser) define(b *node) {
	refs, left := label.Defined(string(b.text))
	p.refs = append(p.refs, refs...)
	b.text = []byte(source.Trim(left))
}

// withoutBlankLines tells text, of lines of which one at least isn't blank, without the blank ones at its end.
func withoutBlankLines(text []byte) []byte {
	all := string(text)
	end := len(strings.TrimRight(all, " \t\n"))
	lf := strings.IndexByte(all[end:], '\n')
	return text[:end+lf+1]
}

// isTight tells whether no blank line parts the items of the list b, or the blocks in them.
func (p *parser) isTight(b *node) bool {
	for item := b.last; item != none; item = p.list[item].ahead {
		if item != b.last && p.endsBlank(item) {
			return false
		}
		last := p.list[item].last
		for at := last; at != none; at = p.list[at].ahead {
			if at != last && p.endsBlank(at) {
				return false
			}
		}
	}
	return true
}

// endsBlank tells whether the block at ends with a blank line.
func (p *parser) endsBlank(at int) bool {
	for at != none {
		b := &p.list[at]
		if b.blankEnd {
			return true
		}
		if b.Kind != api.BlockList && b.Kind != api.BlockItem {
			return false
		}
		at = b.last
	}
	return false
}

// told tells the block at with all those in it.
func (p *parser) told(at int) api.Block {
	b := p.list[at].Block
	b.Text = string(p.list[at].text)
	for in := p.list[at].last; in != none; in = p.list[in].ahead {
		b.Kids = append(b.Kids, p.told(in))
	}
	slices.Reverse(b.Kids)
	return b
}

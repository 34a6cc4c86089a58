package sheet

import (
	"compositor/api"
	"compositor/code"
	"compositor/font"
	"compositor/plain"
)

// list puts the lines of what b holds behind the others, each with its marker, whether it is an item or not.
func (m *maker) list(b *api.Block, c column) {
	step := m.step(b)
	for i := range b.Kids {
		if i > 0 && b.Tight {
			m.ahead = skipOf(m.size)
		}
		m.item(&b.Kids[i], markerOf(b, i), step, c)
	}
}

// markerOf tells the marker of item i of b, as codes.
func markerOf(b *api.Block, i int) string {
	return code.Codes(plain.Marker(*b, i))
}

// step tells by how much the items of b stand further right than their markers.
func (m *maker) step(b *api.Block) int {
	widest := 0
	for i := range b.Kids {
		widest = max(widest, font.Run(api.FontPlain, m.size, markerOf(b, i)))
	}
	return widest + m.size/2
}

// item puts the lines of the blocks that b holds behind the others: beside its marker, or, if that leaves them no room, below it.
func (m *maker) item(b *api.Block, marker string, step int, c column) {
	inner := c.further(step)
	r := m.run(api.FontPlain, marker, c.x)
	if !m.isRoom(inner) {
		m.markerAlone(r, c)
		m.blocks(b, c)
		return
	}
	m.waiting = append(m.waiting, r)
	m.blocks(b, inner)
	if len(m.waiting) > 0 {
		m.markerLine()
	}
}

// markerAlone puts a marker behind the others, in as many lines as it comes to.
func (m *maker) markerAlone(r api.Run, c column) {
	from := len(m.lines)
	box := api.Item{Kind: api.ItemBox, Width: r.Width, Codes: r.Codes, Font: r.Font, Size: r.Size}
	m.broken([]api.Item{box}, m.size, c)
	m.finish(from)
	m.ahead = skipOf(m.size)
}

// markerLine puts a line behind the others on which the markers that wait are to stand.
func (m *maker) markerLine() {
	from := len(m.lines)
	m.lines = append(m.lines, lineOf(m.size))
	m.finish(from)
}

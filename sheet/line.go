package sheet

import (
	"slices"
	"strings"

	"compositor/api"
	"compositor/code"
	"compositor/font"
	"compositor/item"
	"compositor/set"
	"compositor/source"
	"compositor/wrap"
)

const (
	lonely        = 500  // what it costs to leave a first line alone on a page, and so a last one
	behindHeading = 5000 // what it costs to leave a heading without what comes behind it
	tab           = "    "
)

// lineOf tells a line of that size without runs.
func lineOf(size int) api.Line {
	return api.Line{Height: font.Ascent(size), Depth: font.Descent(size), Skip: skipOf(size)}
}

// skipOf tells the space ahead of a line of that size.
func skipOf(size int) int { return size / 5 }

// broken puts lines of items of that size behind the others; none, if there is no way to break the items.
func (m *maker) broken(items []api.Item, size int, c column) {
	parts := item.Split(items, c.width)
	ends, ok := wrap.Breaks(parts, c.width)
	if !ok {
		return
	}
	for i, runs := range set.Lines(parts, ends, c.x, c.width) {
		l := lineOf(size)
		l.Runs = runs
		l.Cost = costAhead(i, len(ends))
		m.lines = append(m.lines, l)
	}
}

// costAhead tells what it costs to break ahead of line i of that many.
func costAhead(i, count int) int {
	if i == 0 {
		return 0
	}
	cost := 0
	if i == 1 {
		cost += lonely
	}
	if i == count-1 {
		cost += lonely
	}
	return cost
}

// code puts the lines of text behind the others as they are, but for those that are too wide.
func (m *maker) code(text string, c column) {
	from := len(m.lines)
	for _, line := range source.Lines(text) {
		m.codes(code.Codes(strings.ReplaceAll(line, "\t", tab)), c)
	}
	m.finish(from)
}

// codes puts one line behind the others, or more, if codes have no room in one.
func (m *maker) codes(codes string, c column) {
	if codes == "" {
		m.lines = append(m.lines, lineOf(m.size))
	}
	for codes != "" {
		n := font.Cut(api.FontMono, m.size, codes, c.width)
		l := lineOf(m.size)
		l.Runs = []api.Run{m.run(api.FontMono, codes[:n], c.x)}
		m.lines = append(m.lines, l)
		codes = codes[n:]
	}
}

// run tells codes of a font as a run that stands at x.
func (m *maker) run(face int, codes string, x int) api.Run {
	return api.Run{X: x, Width: font.Run(face, m.size, codes), Font: face, Size: m.size, Codes: codes}
}

// finish makes the lines from that place on those of one block: the first and the last of them, if there are any, are told what only these have.
func (m *maker) finish(from int) {
	if from == len(m.lines) {
		return
	}
	m.lines[len(m.lines)-1].Ends = true
	first := &m.lines[from]
	first.Skip = m.ahead
	m.ahead = m.size / 2
	if m.headed {
		first.Cost = behindHeading
	}
	m.headed = false
	m.mark(first)
}

// mark puts the markers that wait ahead of the runs of l, and makes l as high as they are.
func (m *maker) mark(l *api.Line) {
	if len(m.waiting) == 0 {
		return
	}
	l.Runs = slices.Concat(m.waiting, l.Runs)
	l.Height = max(l.Height, font.Ascent(m.size))
	l.Depth = max(l.Depth, font.Descent(m.size))
	m.waiting = m.waiting[:0]
}

package block

import (
	"strings"

	"compositor/api"
	"compositor/cursor"
)

const codeIndent = 4 // of so many columns on what is indented is code

// line is a line with a place in it.
type line struct {
	place  api.Cursor
	indent int    // how many columns of blanks come
	next   string // what comes behind them
}

// newLine tells the line with its beginning as the place.
func newLine(text string) line {
	l := line{place: cursor.New(text)}
	l.look()
	return l
}

// look holds fast what comes, so that a long indent isn't gone through for each open block.
func (l *line) look() {
	l.indent = cursor.Indent(l.place)
	l.next = cursor.Next(l.place)
}

// blank tells whether nothing comes.
func (l *line) blank() bool {
	return l.next == ""
}

// rest tells what is left.
func (l *line) rest() string {
	return cursor.Rest(l.place)
}

// skip goes past as many columns of blanks, or as there are.
func (l *line) skip(columns int) {
	l.place = cursor.Skip(l.place, columns)
	l.indent = max(l.indent-columns, 0)
}

// move goes past the indent, and as many bytes.
func (l *line) move(bytes int) {
	l.skip(l.indent)
	l.place = cursor.Move(l.place, bytes)
	l.look()
}

// pastIndent goes past as many columns of blanks, and tells whether there are so many; else it stays.
func (l *line) pastIndent(columns int) bool {
	if l.indent < columns {
		return false
	}
	l.skip(columns)
	return true
}

// pastQuote goes past a quote's sign and a column of blanks, and tells whether the sign comes; else it stays.
func (l *line) pastQuote() bool {
	if l.indent >= codeIndent || !strings.HasPrefix(l.next, ">") {
		return false
	}
	l.move(len(">"))
	l.skip(1)
	return true
}

// pastMark goes past a mark of as many bytes and the blanks behind it, and tells how many columns those are from the place on that belong to the mark.
func (l *line) pastMark(bytes int) int {
	ahead := l.indent + bytes
	l.move(bytes)
	blanks := l.indent
	if blanks > codeIndent || l.blank() {
		// One blank belongs to the mark, even if none is there; what comes is code, or nothing.
		blanks = 1
	}
	l.skip(blanks)
	return ahead + blanks
}

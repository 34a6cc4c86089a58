package item

import (
	"strings"

	"compositor/api"
	"compositor/font"
)

// splitter parts boxes, item by item.
type splitter struct {
	items []api.Item
	width int
	room  room // what the boxes since the last item that is none leave of the width
}

// Split tells l, where boxes that have no room in width are parted, with a penalty wherever that is so.
func Split(l []api.Item, width int) []api.Item {
	s := splitter{width: width, room: roomOf(width)}
	for _, x := range l {
		// Its text too is to be new memory.
		x.Codes = strings.Clone(x.Codes)
		switch {
		case x.Kind != api.ItemBox:
			s.other(x)
		case x.Codes != "":
			s.box(x)
		}
	}
	return s.items
}

// other puts x, which is no box, behind the items.
func (s *splitter) other(x api.Item) {
	s.items = append(s.items, x)
	s.room = roomOf(s.width)
}

// stand puts the box x behind the items as it is.
func (s *splitter) stand(x api.Item) {
	s.items = append(s.items, x)
	s.room = s.room.less(x.Width)
}

// box puts the box x, which has codes, behind the items, in parts as long as it has no room.
func (s *splitter) box(x api.Item) {
	like := style{font: x.Font, size: x.Size, link: x.Link}
	// How far all that is left goes is reckoned once, and lessened by each part: were it reckoned again behind each one, long boxes would take too long.
	left := font.Run(x.Font, x.Size, x.Codes)
	for !s.room.holds(x.Width) {
		n := s.fitting(x)
		if n > 0 {
			part := like.box(x.Codes[:n])
			s.stand(part)
			left -= part.Width
			x = like.boxOf(x.Codes[n:], left)
		}
		if x.Codes == "" {
			return
		}
		s.other(api.Item{Kind: api.ItemPenalty})
	}
	s.stand(x)
}

// fitting tells how many of x's codes have room; one at least, if nothing is used.
func (s *splitter) fitting(x api.Item) int {
	free := s.room.word()
	if s.room != roomOf(s.width) && font.Advance(x.Font, x.Size, x.Codes[0]) > free {
		return 0
	}
	return font.Cut(x.Font, x.Size, x.Codes, free)
}

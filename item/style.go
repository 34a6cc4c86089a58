package item

import (
	"compositor/api"
	"compositor/font"
)

// style is how a span is set. It is a value: a span in another one has a style of its own.
type style struct {
	font, size int
	link       int  // which link it is of; 0: none
	image      bool // it is in an image, where no link counts
}

// slanted tells the style in emphasis.
func (s style) slanted() style {
	switch s.font {
	case api.FontPlain:
		s.font = api.FontOblique
	case api.FontBold:
		s.font = api.FontBoldSlant
	}
	return s
}

// bold tells the style in a strong span.
func (s style) bold() style {
	switch s.font {
	case api.FontPlain:
		s.font = api.FontBold
	case api.FontOblique:
		s.font = api.FontBoldSlant
	}
	return s
}

// mono tells the style of code and HTML.
func (s style) mono() style {
	s.font = api.FontMono
	return s
}

// inImage tells the style in an image.
func (s style) inImage() style {
	s.image = true
	return s
}

// box tells codes as a box.
func (s style) box(codes string) api.Item {
	return s.boxOf(codes, font.Run(s.font, s.size, codes))
}

// boxOf tells codes, which are known to go so far, as a box.
func (s style) boxOf(codes string, width int) api.Item {
	return api.Item{Kind: api.ItemBox, Width: width, Codes: codes, Font: s.font, Size: s.size, Link: s.link}
}

// glue tells a glue of the font.
func (s style) glue() api.Item {
	width := font.Advance(s.font, s.size, ' ')
	return api.Item{Kind: api.ItemGlue, Width: width, Grow: width / 2, Shrink: width / 3}
}

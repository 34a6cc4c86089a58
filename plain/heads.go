package plain

import (
	"compositor/api"
	"compositor/fix"
	"compositor/tree"
)

// Slug tells the name of the text s.
func Slug(s string) string {
	var name []byte
	for i := range len(s) {
		c := s[i]
		switch {
		case 'A' <= c && c <= 'Z':
			name = append(name, c-'A'+'a')
		case 'a' <= c && c <= 'z', '0' <= c && c <= '9', c == '-', c == '_':
			name = append(name, c)
		case c == ' ':
			name = append(name, '-')
		}
	}
	return string(name)
}

// Heads tells the headings in b, each with a name that no other one has; Page and Y aren't known yet.
func Heads(b api.Block) []api.Head {
	var heads []api.Head
	given := names{}
	for _, leaf := range tree.Leaves(b) {
		if leaf.Kind != api.BlockHeading {
			continue
		}
		head := api.Head{Level: leaf.Level, Title: Spans(leaf.Spans)}
		head.Slug = given.give(Slug(head.Title))
		head.Up = above(heads, head.Level)
		heads = append(heads, head)
	}
	return heads
}

// names are those that headings have got, each with the last number that was set behind it: all up to that are taken.
type names map[string]int

// give tells name, or, if that is taken, it with the first number behind it that makes it free, and takes that.
func (n names) give(name string) string {
	free := name
	number, taken := n[name]
	for taken {
		number++
		free = name + "-" + fix.Whole(number)
		_, taken = n[free]
	}
	n[name] = number
	n[free] = 0
	return free
}

// above tells the place of the last one of heads whose level is lower; -1, if there is none.
func above(heads []api.Head, level int) int {
	up := len(heads) - 1
	for up >= 0 && heads[up].Level >= level {
		// Those between it and the one that it stands under are no lower than it.
		up = heads[up].Up
	}
	return up
}

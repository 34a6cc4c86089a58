package tree

import (
	"compositor/api"
	"compositor/label"
)

// definitions are a document's definitions of links: of each label the first one.
type definitions map[string]api.Ref

func newDefinitions(refs []api.Ref) definitions {
	d := make(definitions, len(refs))
	for _, ref := range refs {
		if _, ok := d[ref.Label]; !ok {
			d[ref.Label] = ref
		}
	}
	return d
}

// meant tells all definitions that a label in text could mean. Layer 14 searches the list that it is given for each label of each text: a document's whole list may be too long for that.
func (d definitions) meant(text string) []api.Ref {
	var meant []api.Ref
	for at := 0; at < len(text); at++ {
		switch text[at] {
		case '\\':
			// What it hides begins no label.
			at++
		case '[':
			name, _ := label.Label(text[at:])
			if ref, ok := d[label.Normal(name)]; ok {
				meant = append(meant, ref)
			}
		}
	}
	return meant
}

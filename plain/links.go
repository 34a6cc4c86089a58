package plain

import (
	"compositor/api"
	"compositor/tree"
)

// Links tells where the links in b lead, in the order in which they begin; those in images don't count.
func Links(b api.Block) []string {
	var dests []string
	for _, leaf := range tree.Leaves(b) {
		dests = appendDests(dests, leaf.Spans)
	}
	return dests
}

// appendDests puts where the links in l lead behind dests.
func appendDests(dests []string, l []api.Span) []string {
	for i := range l {
		span := &l[i]
		switch span.Kind {
		case api.SpanLink:
			dests = append(dests, span.Dest)
			dests = appendDests(dests, span.Kids)
		case api.SpanEmph, api.SpanStrong:
			dests = appendDests(dests, span.Kids)
		}
	}
	return dests
}

package inline

import (
	"strings"

	"compositor/api"
	"compositor/raw"
)

const tick = '`'

// takeCode takes code, or, if the signs at the place begin none, these alone.
func (p *parser) takeCode() {
	count := countTicks(p.s[p.at:])
	text, n := p.code(count)
	if n == 0 {
		p.put(textOf(p.s[p.at:p.at+count]), count)
		return
	}
	p.put(api.Span{Kind: api.SpanCode, Text: text}, n)
}

// code tells the text of the code that so many signs at the place begin, and how many bytes it has; nothing and 0, if there is none.
func (p *parser) code(count int) (string, int) {
	if p.ticks == nil {
		p.ticks = lastTicks(p.s)
	}
	// Layer 11 isn't asked where nothing can end the code: it would go through all of the text each time.
	if p.ticks[count] <= p.at {
		return "", 0
	}
	return raw.Code(p.s[p.at:])
}

// lastTicks tells of each length where the last stretch of so many signs around code begins in s.
func lastTicks(s string) map[int]int {
	last := map[int]int{}
	for at := 0; at < len(s); {
		count := countTicks(s[at:])
		last[count] = at
		at += max(count, 1)
	}
	return last
}

// countTicks tells how many signs around code s begins with.
func countTicks(s string) int {
	n := 0
	for n < len(s) && s[n] == tick {
		n++
	}
	return n
}

// html tells how many bytes the raw HTML at the place has; 0, if there is none.
func (p *parser) html() int {
	rest := p.s[p.at:]
	// As with code, layer 11 isn't asked where nothing can end it.
	if end := htmlEnd(rest); end != "" && !p.comes(end) {
		return 0
	}
	return raw.Html(rest)
}

// htmlEnd tells what must stand behind what s begins with, if that is to be raw HTML; nothing of an element, which ends soon or never.
func htmlEnd(s string) string {
	switch {
	case strings.HasPrefix(s, "<!--"):
		return "-->"
	case strings.HasPrefix(s, "<?"):
		return "?>"
	case strings.HasPrefix(s, "<![CDATA["):
		return "]]>"
	case strings.HasPrefix(s, "<!"):
		return ">"
	}
	return ""
}

// comes tells whether end stands anywhere behind the place.
func (p *parser) comes(end string) bool {
	last, ok := p.ends[end]
	if !ok {
		last = strings.LastIndex(p.s, end)
		if p.ends == nil {
			p.ends = map[string]int{}
		}
		p.ends[end] = last
	}
	return last > p.at
}

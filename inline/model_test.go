package inline_test

import (
	"slices"
	"strings"

	"compositor/api"
	"compositor/label"
	"compositor/named"
	"compositor/raw"
	"compositor/run"
	"compositor/target"
)

// What the chapter asks, in another way: a part for each byte, looked at from end to end each time.

// What a part is.
const (
	aByte = iota
	aText
	aSpan
	aRun
	aBracket
)

type part struct {
	api.Span
	what         int
	count, left  int // of a run
	open, close  bool
	at           int // of a bracket: the byte behind its [
	image        bool
	dead, behind bool // behind: another one stood behind it
}

type model struct {
	s     string
	refs  []api.Ref
	at    int
	parts []*part
}

func asked(s string, refs []api.Ref) []api.Span {
	m := &model{s: s, refs: refs}
	for m.at < len(s) {
		m.step()
	}
	return finish(emphasize(m.parts))
}

func (m *model) text(what int, s string) {
	m.parts = append(m.parts, &part{what: what, Span: api.Span{Kind: api.SpanText, Text: s}})
}

func (m *model) span(x api.Span, n int) {
	m.parts = append(m.parts, &part{what: aSpan, Span: x})
	m.at += n
}

func (m *model) step() {
	rest := m.s[m.at:]
	if m.simple(rest) {
		return
	}
	switch {
	case strings.HasPrefix(rest, "[") || strings.HasPrefix(rest, "!["):
		n := strings.Index(rest, "[") + 1
		for _, x := range m.parts {
			x.behind = true
		}
		m.text(aBracket, rest[:n])
		m.at += n
		last := m.parts[len(m.parts)-1]
		last.at, last.image = m.at, n == 2
	case rest[0] == ']':
		if !m.ends() {
			m.text(aByte, "]")
			m.at++
		}
	case rest[0] == '*' || rest[0] == '_':
		n := len(rest) - len(strings.TrimLeft(rest, rest[:1]))
		open, close := run.Flank(run.Before(m.s, m.at), run.After(m.s, m.at+n), rest[0])
		m.text(aRun, rest[:n])
		last := m.parts[len(m.parts)-1]
		last.count, last.left, last.open, last.close = n, n, open, close
		m.at += n
	case rest[0] == '\n':
		m.newLine()
	default:
		m.text(aByte, rest[:1])
		m.at++
	}
}

// simple takes what comes, if other layers tell all of it, and tells whether they do.
func (m *model) simple(rest string) bool {
	if sign, ok := raw.Escaped(rest); ok {
		m.text(aText, sign)
		m.at += 2
		return true
	}
	if strings.HasPrefix(rest, "\\\n") {
		m.span(api.Span{Kind: api.SpanHard}, 2)
		m.pastBlanks()
		return true
	}
	if n := len(rest) - len(strings.TrimLeft(rest, tick)); n > 0 {
		if text, all := raw.Code(rest); all > 0 {
			m.span(api.Span{Kind: api.SpanCode, Text: text}, all)
			return true
		}
		m.text(aText, rest[:n])
		m.at += n
		return true
	}
	if text, n := named.Ref(rest); n > 0 {
		m.text(aText, text)
		m.at += n
		return true
	}
	if dest, text, n := raw.Auto(rest); n > 0 {
		m.span(api.Span{Kind: api.SpanLink, Dest: dest, Kids: []api.Span{{Kind: api.SpanText, Text: text}}}, n)
		return true
	}
	if n := raw.Html(rest); n > 0 {
		m.span(api.Span{Kind: api.SpanHtml, Text: rest[:n]}, n)
		return true
	}
	return false
}

func (m *model) pastBlanks() {
	for m.at < len(m.s) && (m.s[m.at] == ' ' || m.s[m.at] == '\t') {
		m.at++
	}
}

func (m *model) newLine() {
	from := len(m.parts)
	for from > 0 && m.parts[from-1].what == aByte {
		from--
	}
	if from == len(m.parts) && from > 0 && m.parts[from-1].what == aText {
		from--
	}
	text := ""
	for _, x := range m.parts[from:] {
		text += x.Text
	}
	kind := api.SpanSoft
	if strings.HasSuffix(text, "  ") {
		kind = api.SpanHard
	}
	if from < len(m.parts) {
		m.parts = m.parts[:from]
		m.text(aText, strings.TrimRight(text, " "))
	}
	m.span(api.Span{Kind: kind}, 1)
	m.pastBlanks()
}

// ends tells whether the ] that comes is more than a text; if so, it is done.
func (m *model) ends() bool {
	i := len(m.parts) - 1
	for i >= 0 && m.parts[i].what != aBracket {
		i--
	}
	if i < 0 {
		return false
	}
	b := m.parts[i]
	b.what = aText
	if b.dead {
		return false
	}
	dest, title, n := m.leads(b)
	if n == 0 {
		return false
	}
	x := api.Span{Kind: api.SpanLink, Dest: dest, Title: title, Kids: finish(emphasize(m.parts[i+1:]))}
	if b.image {
		x.Kind = api.SpanImage
	}
	m.parts = m.parts[:i]
	m.span(x, n)
	for _, x := range m.parts {
		if !x.image && !b.image {
			x.dead = true
		}
	}
	return true
}

func (m *model) leads(b *part) (string, string, int) {
	behind := m.s[m.at+1:]
	if dest, title, n := target.Inline(behind); n > 0 {
		return dest, title, n + 1
	}
	if name, n := label.Label(behind); n > 0 {
		return m.defined(name, n+1)
	}
	inner := m.s[b.at:m.at]
	if name, n := label.Label("[" + inner + "]"); b.behind || n != len(inner)+2 || name != inner {
		return "", "", 0
	}
	if strings.HasPrefix(behind, "[]") {
		return m.defined(inner, 3)
	}
	return m.defined(inner, 1)
}

func (m *model) defined(name string, n int) (string, string, int) {
	ref, ok := label.Find(m.refs, name)
	if !ok {
		return "", "", 0
	}
	return ref.Dest, ref.Title, n
}

// emphasize looks from the first part on for one that closes, and begins anew with each pair.
func emphasize(l []*part) []*part {
	for i := 0; i < len(l); i++ {
		for j := i - 1; j >= 0 && l[i].close && l[i].left > 0; j-- {
			if !opens(l[j], l[i]) {
				continue
			}
			n := min(l[j].left, l[i].left, 2)
			x := &part{what: aSpan, Span: api.Span{Kind: []int{api.SpanEmph, api.SpanStrong}[n-1], Kids: finish(l[j+1 : i])}}
			l[j].left -= n
			l[i].left -= n
			l = slices.Concat(l[:j+1], []*part{x}, l[i:])
			i, j = j+2, j+2
		}
	}
	return l
}

func opens(x, y *part) bool {
	return x.what == aRun && x.open && x.left > 0 && x.Text[0] == y.Text[0] && run.Fits(x.count, y.count, x.close, y.open)
}

func finish(l []*part) []api.Span {
	var told []api.Span
	for _, x := range l {
		s := x.Span
		if x.what == aRun {
			s.Text = s.Text[:x.left]
		}
		last := len(told) - 1
		switch {
		case x.Kind != api.SpanText:
			told = append(told, s)
		case s.Text == "":
		case last >= 0 && told[last].Kind == api.SpanText:
			told[last].Text += s.Text
		default:
			told = append(told, s)
		}
	}
	return told
}

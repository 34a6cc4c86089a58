package block_test

import (
	"reflect"
	"slices"
	"strconv"
	"strings"
	"sync"
	"testing"
	"unsafe"

	"compositor/api"
	"compositor/block"
	"compositor/label"
	"compositor/mark"
	"compositor/raw"
	"compositor/source"
)

const many = 1 << 18

// Documents as texts.

// example is a document, and what show tells of it.
type example struct{ s, want string }

// show tells the answer for s: its blocks, and behind a | each its definitions.
func show(b api.Block, refs []api.Ref, e api.Errno) string {
	if e != api.OK {
		return "error " + strconv.Itoa(int(e))
	}
	text := shown(b)
	for _, r := range refs {
		text += " | " + r.Label + "=" + r.Dest
		if r.Title != "" {
			text += " " + strconv.Quote(r.Title)
		}
	}
	return text
}

func shown(b api.Block) string {
	var l []string
	for _, k := range b.Kids {
		l = append(l, shown(k))
	}
	kids := strings.Join(l, " ")
	text := strconv.Quote(b.Text)
	switch b.Kind {
	case api.BlockDoc:
		return kids
	case api.BlockQuote:
		return "quote(" + kids + ")"
	case api.BlockList:
		return listShown(b) + "(" + kids + ")"
	case api.BlockItem:
		return "item(" + kids + ")"
	case api.BlockPara:
		return "p" + text
	case api.BlockHeading:
		return "h" + strconv.Itoa(b.Level) + text
	case api.BlockCode:
		if b.Info != "" {
			return "code[" + b.Info + "]" + text
		}
		return "code" + text
	case api.BlockHtml:
		return "html" + text
	case api.BlockRule:
		return "rule"
	}
	return "?"
}

func listShown(b api.Block) string {
	s := "loose"
	if b.Tight {
		s = "tight"
	}
	if b.Ordered {
		s += strconv.Itoa(b.Start)
	}
	return s + string(b.Mark)
}

// check holds each example against Parse, and against the model.
func check(t *testing.T, l []example) {
	t.Helper()
	for _, x := range l {
		same(t, x.s, x.want)
	}
}

func same(t *testing.T, s, want string) {
	t.Helper()
	b, refs, e := block.Parse(s)
	if got := show(b, refs, e); got != want {
		t.Errorf("Parse(%q):\n%s, not\n%s", s, got, want)
	}
	if got := show(asked(s)); got != want {
		t.Errorf("of %q the model tells\n%s, not\n%s", s, got, want)
	}
	sound(t, s, b)
}

// What the chapter asks, in another way: blocks that point at each other, lines as columns; tightness is told at last.

// column is a column of a line: a byte, or a part of a tab, its first one or not.
type column struct {
	c          byte
	tab, first bool
}

func columnsOf(s string) []column {
	var l []column
	for i := range len(s) {
		if s[i] != '\t' {
			l = append(l, column{c: s[i]})
			continue
		}
		l = append(l, column{c: ' ', tab: true, first: true})
		for len(l)%4 != 0 {
			l = append(l, column{c: ' ', tab: true})
		}
	}
	return l
}

func textOf(l []column) string {
	var b strings.Builder
	whole := false
	for _, c := range l {
		switch {
		case c.tab && c.first:
			b.WriteByte('\t')
			whole = true
		case c.tab && whole:
		default:
			b.WriteByte(c.c)
			whole = false
		}
	}
	return b.String()
}

func indentOf(l []column) int {
	n := 0
	for n < len(l) && l[n].c == ' ' {
		n++
	}
	return n
}

func past(l []column, n int) []column {
	return l[min(n, indentOf(l)):]
}

// part is a block of the model.
type part struct {
	api.Block
	up        *part
	kids      []*part
	open      bool
	ends      bool
	began     int // in which line
	lines     []string
	sign      byte
	count, in int
	html      int
}

type model struct {
	doc  *part
	refs []api.Ref
	line int
	rest []column
	deep bool
}

func (p *part) last() *part {
	if len(p.kids) == 0 {
		return nil
	}
	return p.kids[len(p.kids)-1]
}

func (p *part) is(kinds ...int) bool {
	return slices.Contains(kinds, p.Kind)
}

func (m *model) tip() *part {
	p := m.doc
	for p.last() != nil && p.last().open {
		p = p.last()
	}
	return p
}

func (m *model) nothing() bool {
	return indentOf(m.rest) == len(m.rest)
}

func (m *model) next() string {
	return textOf(m.rest[indentOf(m.rest):])
}

// shut closes p, behind all that is open in it.
func (m *model) shut(p *part) {
	if p.last() != nil && p.last().open {
		m.shut(p.last())
	}
	p.open = false
	if p.is(api.BlockPara) {
		m.define(p)
		if len(p.lines) == 0 {
			p.up.kids = p.up.kids[:len(p.up.kids)-1]
		}
	}
}

// define leaves p but what is no definition.
func (m *model) define(p *part) {
	refs, left := label.Defined(strings.Join(p.lines, ""))
	m.refs = append(m.refs, refs...)
	p.lines = nil
	if s := source.Trim(left); s != "" {
		p.lines = []string{s}
	}
}

func (m *model) shutWithin(p *part) {
	if k := p.last(); k != nil && k.open {
		m.shut(k)
	}
}

func (m *model) add(b api.Block) *part {
	for {
		tip := m.tip()
		if b.Kind == api.BlockItem && tip.is(api.BlockList) || b.Kind != api.BlockItem && tip.is(api.BlockDoc, api.BlockQuote, api.BlockItem) {
			break
		}
		m.shut(tip)
	}
	p := &part{Block: b, up: m.tip(), open: true, began: m.line}
	p.up.kids = append(p.up.kids, p)
	n := 0
	for q := p.up; q != nil; q = q.up {
		n++
	}
	m.deep = m.deep || n > 100
	return p
}

// goes tells 1, if p goes on; 0, if not; 2, if the line is done.
func (m *model) goes(p *part) int {
	yes := func(b bool) int {
		if b {
			return 1
		}
		return 0
	}
	in := indentOf(m.rest)
	switch {
	case p.is(api.BlockQuote):
		return yes(m.quote())
	case p.is(api.BlockList):
		return 1
	case p.is(api.BlockItem) && m.nothing():
		m.rest = nil
		return yes(len(p.kids) > 0)
	case p.is(api.BlockItem):
		if in >= p.in {
			m.rest = past(m.rest, p.in)
		}
		return yes(in >= p.in)
	case p.is(api.BlockCode) && p.sign != 0:
		if in < 4 && mark.FenceEnd(m.next(), p.sign, p.count) {
			m.shut(p)
			return 2
		}
		m.rest = past(m.rest, p.in)
		return 1
	case p.is(api.BlockCode):
		ok := in >= 4 || m.nothing()
		if ok {
			m.rest = past(m.rest, 4)
		}
		return yes(ok)
	case p.is(api.BlockHtml):
		return yes(p.html <= 5 || !m.nothing())
	case p.is(api.BlockPara):
		return yes(!m.nothing())
	}
	return 0
}

func (m *model) quote() bool {
	in := indentOf(m.rest)
	if in > 3 || !strings.HasPrefix(m.next(), ">") {
		return false
	}
	m.rest = past(m.rest[in+1:], 1)
	return true
}

func (m *model) take(s string) {
	m.line++
	m.rest = columnsOf(s)
	at := m.doc
	for k := at.last(); k != nil && k.open; k = at.last() {
		how := m.goes(k)
		if how == 2 {
			return
		}
		if how == 0 {
			break
		}
		at = k
	}
	matched := at
	began := ""
	for !at.is(api.BlockCode, api.BlockHtml) && !m.nothing() && !m.deep {
		how := m.begin(at, matched)
		if how == "" {
			break
		}
		began = how
		at = m.tip()
		if how == "done" {
			m.ends(at, false)
			return
		}
	}
	m.end(at, matched, began)
}

// begin tells what the line begins in at: more, text, done, or nothing.
func (m *model) begin(at, matched *part) string {
	in := indentOf(m.rest)
	s := m.next()
	if in >= 4 {
		if m.tip().is(api.BlockPara) {
			return ""
		}
		m.shutWithin(at)
		m.add(api.Block{Kind: api.BlockCode})
		m.rest = past(m.rest, 4)
		return "text"
	}
	if m.quote() {
		m.shutWithin(at)
		m.add(api.Block{Kind: api.BlockQuote})
		return "more"
	}
	if level, text := mark.Heading(s); level > 0 {
		m.shutWithin(at)
		m.add(api.Block{Kind: api.BlockHeading, Level: level}).lines = []string{text}
		return "done"
	}
	if c, n, info := mark.Fence(s); n > 0 {
		m.shutWithin(at)
		p := m.add(api.Block{Kind: api.BlockCode, Info: info})
		p.sign, p.count, p.in = c, n, in
		return "done"
	}
	if kind := m.html(at, matched); kind > 0 {
		m.shutWithin(at)
		m.add(api.Block{Kind: api.BlockHtml}).html = kind
		return "text"
	}
	if level := mark.Under(s); level > 0 && at.is(api.BlockPara) {
		m.define(at)
		if len(at.lines) > 0 {
			at.Kind, at.Level = api.BlockHeading, level
			return "done"
		}
	}
	if mark.Rule(s) {
		m.shutWithin(at)
		m.add(api.Block{Kind: api.BlockRule})
		return "done"
	}
	return m.item(at)
}

func (m *model) html(at, matched *part) int {
	s := m.next()
	if kind := mark.Html(s); kind > 0 {
		return kind
	}
	n := raw.Tag(s)
	if n == 0 || strings.Trim(s[n:], " \t") != "" {
		return 0
	}
	if at.is(api.BlockPara) || m.tip().is(api.BlockPara) && at == matched && at != m.tip() {
		return 0
	}
	return 7
}

func (m *model) item(at *part) string {
	in := indentOf(m.rest)
	s := m.next()
	sign, ok := mark.List(s)
	if !ok {
		return ""
	}
	if at.is(api.BlockPara) && (strings.Trim(s[sign.Width:], " \t") == "" || sign.Ordered && sign.Start != 1) {
		return ""
	}
	m.shutWithin(at)
	if p := m.tip(); !p.is(api.BlockList) || p.Ordered != sign.Ordered || p.Mark != sign.Mark {
		m.add(api.Block{Kind: api.BlockList, Ordered: sign.Ordered, Start: sign.Start, Mark: sign.Mark})
	}
	p := m.add(api.Block{Kind: api.BlockItem})
	m.rest = m.rest[in+sign.Width:]
	blanks := indentOf(m.rest)
	if blanks == 0 || blanks > 4 || m.nothing() {
		blanks = 1
	}
	m.rest = past(m.rest, blanks)
	p.in = in + sign.Width + blanks
	return "more"
}

// end is the third step.
func (m *model) end(at, matched *part, began string) {
	if began != "text" && !at.is(api.BlockCode, api.BlockHtml) {
		m.rest = past(m.rest, len(m.rest))
	}
	tip := m.tip()
	if began == "" && at == matched && at != tip && !m.nothing() && tip.is(api.BlockPara) {
		tip.lines = append(tip.lines, textOf(m.rest)+"\n")
		return
	}
	m.shutWithin(at)
	m.ends(at, m.nothing())
	s := textOf(m.rest)
	switch {
	case at.is(api.BlockCode, api.BlockHtml, api.BlockPara):
		at.lines = append(at.lines, s+"\n")
		if at.is(api.BlockHtml) && mark.HtmlEnd(s, at.html) {
			m.shut(at)
		}
	case !m.nothing():
		m.add(api.Block{Kind: api.BlockPara}).lines = []string{s + "\n"}
	}
}

func (m *model) ends(at *part, blank bool) {
	if blank && at.last() != nil {
		at.last().ends = true
	}
	if at.is(api.BlockQuote) || at.is(api.BlockCode) && at.sign != 0 || at.is(api.BlockItem) && len(at.kids) == 0 && at.began == m.line {
		blank = false
	}
	for p := at; p != nil; p = p.up {
		p.ends = blank
	}
}

func (p *part) endsBlank() bool {
	return p.ends || p.is(api.BlockList, api.BlockItem) && p.last() != nil && p.last().endsBlank()
}

func (p *part) tight() bool {
	for i, item := range p.kids {
		if i < len(p.kids)-1 && item.endsBlank() {
			return false
		}
		for j, k := range item.kids {
			if (i < len(p.kids)-1 || j < len(item.kids)-1) && k.endsBlank() {
				return false
			}
		}
	}
	return true
}

func (p *part) told() api.Block {
	b := p.Block
	for _, k := range p.kids {
		b.Kids = append(b.Kids, k.told())
	}
	if p.is(api.BlockList) {
		b.Tight = p.tight()
	}
	if p.is(api.BlockCode) && p.sign == 0 || p.is(api.BlockHtml) {
		for n := len(p.lines); strings.Trim(p.lines[n-1], " \t") == "\n"; n-- {
			p.lines = p.lines[:n-1]
		}
	}
	b.Text = strings.Join(p.lines, "")
	return b
}

func asked(s string) (api.Block, []api.Ref, api.Errno) {
	m := &model{doc: &part{Block: api.Block{Kind: api.BlockDoc}, open: true}}
	all := strings.Split(s, "\n")
	if all[len(all)-1] == "" {
		all = all[:len(all)-1]
	}
	for _, l := range all {
		m.take(l)
		if m.deep {
			return api.Block{}, nil, api.ErrDeep
		}
	}
	m.shut(m.doc)
	return m.doc.told(), m.refs, api.OK
}

// What holds for each answer.

// sound holds P12.2 to b, and each field to what the chapter gives a meaning.
func sound(t *testing.T, s string, b api.Block) {
	t.Helper()
	if b.Kind != 0 && b.Kind != api.BlockDoc {
		t.Errorf("Parse(%q) tells no document", s)
	}
	if why := unsound(b); why != "" {
		t.Errorf("Parse(%q): %s", s, why)
	}
}

func unsound(b api.Block) string {
	bare := api.Block{Kind: b.Kind, Kids: b.Kids}
	holder := true
	switch b.Kind {
	case api.BlockList:
		bare.Ordered, bare.Start, bare.Mark, bare.Tight = b.Ordered, b.Start, b.Mark, b.Tight
		if len(b.Kids) == 0 || b.Ordered != strings.Contains(".)", string(b.Mark)) || !b.Ordered && (b.Start != 0 || !strings.Contains("-+*", string(b.Mark))) {
			return "a list that may not be"
		}
	case api.BlockPara:
		holder = false
		bare.Text = b.Text
		if b.Text == "" || source.Trim(b.Text) != b.Text {
			return "a paragraph that may not be"
		}
	case api.BlockHeading:
		holder = false
		bare.Text, bare.Level = b.Text, b.Level
		if b.Level < 1 || b.Level > 6 || source.Trim(b.Text) != b.Text {
			return "a heading that may not be"
		}
	case api.BlockCode:
		holder = false
		bare.Text, bare.Info = b.Text, b.Info
		if b.Text != "" && !strings.HasSuffix(b.Text, "\n") {
			return "code without an end"
		}
	case api.BlockHtml:
		holder = false
		bare.Text = b.Text
		if !strings.HasSuffix(b.Text, "\n") || strings.HasSuffix(b.Text, "\n\n") {
			return "HTML with another end"
		}
	case api.BlockRule:
		holder = false
	}
	if !holder && len(b.Kids) > 0 || !reflect.DeepEqual(b, bare) {
		return "a field without a meaning"
	}
	for _, k := range b.Kids {
		if k.Kind < api.BlockQuote || k.Kind > api.BlockRule || (k.Kind == api.BlockItem) != (b.Kind == api.BlockList) {
			return "a block that its block may not hold"
		}
		if why := unsound(k); why != "" {
			return why
		}
	}
	return ""
}

// held holds Parse of s against the model, field by field.
func held(t *testing.T, s string) {
	t.Helper()
	b, refs, e := block.Parse(s)
	b2, refs2, e2 := asked(s)
	if e != e2 || !reflect.DeepEqual(b, b2) || !slices.Equal(refs, refs2) {
		t.Errorf("Parse(%q):\n%s, not\n%s", s, show(b, refs, e), show(b2, refs2, e2))
	}
	sound(t, s, b)
}

// Texts.

// texts hands on all texts of at most so many of these pieces.
func texts(count int, pieces []string, do func(s string)) {
	var from func(s string, left int)
	from = func(s string, left int) {
		do(s)
		if left == 0 {
			return
		}
		for _, p := range pieces {
			from(s+p, left-1)
		}
	}
	from("", count)
}

// chance tells numbers below others, the same ones at each run.
type chance uint64

func (c *chance) below(n int) int {
	*c = *c*6364136223846793005 + 1442695040888963407
	return int(uint64(*c)>>33) % n
}

func (c *chance) of(l []string) string {
	return l[c.below(len(l))]
}

var (
	begins = []string{"", "", "", "", "> ", "> ", ">", ">\t", "- ", "- ", "+ ", "* ", "-", "-\t", "1. ", "1. ", "2. ", "1) ", "10. ", " ", "  ", "  ", "  ", "   ", "    ", "    ", "     ", "\t", "\t", "      "}
	bodies = []string{
		"", "", "", "", "a", "a", "b", "c d ", "a  ", "# a", "## b ##", "#", "===", "=", "---", "-", "--", "***", "- - -", "_ _ _", "```", "```", "~~~", "~~~~", "``` go", "~~~ a", "`` b",
		"<div>", "</p>", "<a>", "<a b='c'>", "</b >", "<a> b", "<!-- a", "-->", "<!-- a -->", "<script>", "</script>", "<?", "?>", "<!A", ">", "<![CDATA[", "]]>",
		"[a]: /b", "[a]: /b", "[c]:", "/d", "'e'", "[a]: /b 'c'", "[b]", "\\# a", "- a", "1. b", "2. c", "> a", ">", " ", "\t", "a\t", "\r", "\x80", "\u00e9",
	}
)

// mixed tells a text of up to so many lines.
func (c *chance) mixed(most int) string {
	var b strings.Builder
	for range 1 + c.below(most) {
		for range c.below(4) {
			b.WriteString(c.of(begins))
		}
		b.WriteString(c.of(bodies))
		b.WriteByte('\n')
	}
	s := b.String()
	if c.below(4) == 0 {
		s = strings.TrimSuffix(s, "\n")
	}
	return s
}

// The promises.

// TestExamples holds P12.1 to the chapter's examples.
func TestExamples(t *testing.T) {
	check(t, []example{
		{"> # a\n> b\nc", `quote(h1"a" p"b\nc")`},
		{"- x\n- y", `tight-(item(p"x") item(p"y"))`},
	})
}

// TestAll holds P12.1 and P12.2 to all texts of a few pieces.
func TestAll(t *testing.T) {
	for _, pieces := range [][]string{
		{"> ", "- ", "a", "\n", "  ", "    "},
		{"- ", "1. ", "\n", "  a", "\n\n", "> "},
		{"a\n", "\n", "===\n", "[a]: /b\n", "> ", "    "},
		{"```\n", "a\n", "\n", "  ", "- ", "> "},
		{"<a>\n", "<!-- ", "-->\n", "a\n", "\n", "> "},
		{"\t", " ", "-", ">", "a", "\n"},
		{"---\n", "- ", "a", "\n", "  ", "* "},
		{"# ", "a\n", "> ", "- ", "  ", "\n"},
		{"[a]: /b\n", "- ", "  ", "\n", "a\n", "# c\n"},
	} {
		texts(5, pieces, func(s string) { held(t, s) })
	}
}

// TestMixed holds P12.1 and P12.2 to texts of lines of all kinds.
func TestMixed(t *testing.T) {
	c := chance(20261119)
	for range 100000 {
		held(t, c.mixed(5))
	}
	for range 6000 {
		held(t, c.mixed(40))
	}
}

// TestEachByte holds P12.1 to each byte at the beginning of a line, in it and behind it.
func TestEachByte(t *testing.T) {
	for i := range 256 {
		c := string([]byte{byte(i)})
		for _, s := range []string{
			c, c + "a", "a" + c, c + "\na", "a\n" + c, "a\n" + c + "b", "> a\n" + c, "> a\n" + c + "b", "- a\n" + c + " b", "- a\n\n  " + c,
			">" + c + "a", "-" + c + "a", "#" + c + "a", "1" + c + " a", c + " a", "    " + c, "    a\n" + c, "```" + c, "```\n" + c, "```\na\n```" + c,
			"<div" + c, "<a>" + c, "<" + c + ">", "<!-- " + c + "\n" + c, "a\n===" + c, "a\n" + c + c + c, c + c + c, "***" + c, "[a]: /b\n" + c, "[a]: /b" + c,
			c + c + c + "\na\n" + c + c + c, "a" + c + "\n" + c + "\n" + c + "b",
		} {
			held(t, s)
		}
	}
}

// TestDeep holds P12.1 to blocks in so many others as may be, and in one more.
func TestDeep(t *testing.T) {
	quotes := strings.Repeat(">", 98)
	lists := strings.Repeat("- + ", 24) + "- " // signs of two kinds: they are no rule
	lines := ""
	for i := range 49 {
		lines += strings.Repeat(" ", 2*i) + "-\n"
	}
	indent := strings.Repeat(" ", 98)
	for _, x := range []struct {
		s    string
		want api.Errno
	}{
		{quotes + ">a", api.OK},
		{quotes + ">>", api.OK},
		{quotes + ">> ", api.OK},
		{quotes + ">>a", api.ErrDeep},
		{quotes + ">>>", api.ErrDeep},
		{quotes + ">>\n" + quotes + ">>", api.OK},
		{quotes + ">>\n" + quotes + ">>a", api.ErrDeep},
		{quotes + ">>\n" + quotes + ">>>", api.ErrDeep},
		{quotes + "># a", api.OK},
		{quotes + ">># a", api.ErrDeep},
		{quotes + "> ***", api.OK},
		{quotes + ">> ***", api.ErrDeep},
		{quotes + ">     a", api.OK},
		{quotes + ">>     a", api.ErrDeep},
		{quotes + ">```", api.OK},
		{quotes + ">>```", api.ErrDeep},
		{quotes + "><a>", api.OK},
		{quotes + ">><a>", api.ErrDeep},
		{quotes + ">a\n" + quotes + ">===", api.OK},
		{quotes + ">[a]: /b", api.OK},
		{quotes + ">>[a]: /b", api.ErrDeep},
		{quotes + "- ", api.OK},
		{quotes + "- a", api.ErrDeep},
		{quotes + "- # a", api.ErrDeep},
		{quotes + ">-", api.ErrDeep},
		{quotes + ">> -", api.ErrDeep},
		{quotes + "a\nb", api.OK},
		{lists + "a", api.OK},
		{lists + "> a", api.OK},
		{lists + "> > a", api.ErrDeep},
		{lists + ">\n" + indent + "> >", api.OK},
		{lists + ">\n" + indent + "> > a", api.ErrDeep},
		{lists + "1.", api.OK},
		{lists + "1. a", api.ErrDeep},
		{lists + "1.\n" + indent + "   a", api.ErrDeep},
		{lists + "- \n" + indent + "- ", api.OK},
		{lists + "- \n" + indent + "- a", api.ErrDeep},
		{lists + "-", api.OK},
		{lists + "- a", api.ErrDeep},
		{strings.Repeat("- ", 60), api.OK}, // a rule
		{lines + indent + "-", api.OK},
		{lines + indent + "- a", api.ErrDeep},
		{lines + indent + "> a", api.OK},
		{lines + indent + "> > a", api.ErrDeep},
		{strings.Repeat("> - ", 33) + "a", api.OK},
		{strings.Repeat("> - ", 33) + "> a", api.ErrDeep},
		{strings.Repeat("> - ", 33) + ">", api.OK},
		{strings.Repeat("> - ", 33) + "- a", api.ErrDeep},
		{strings.Repeat("> - ", 33) + "-", api.ErrDeep},
		{"a\n\n[b]: /c\n\n" + quotes + ">>a", api.ErrDeep},
		{quotes + ">>a\n\n[b]: /c\n", api.ErrDeep},
		{"```\n" + quotes + ">>>a", api.OK},
		{"    " + quotes + ">>>a", api.OK},
	} {
		b, refs, e := block.Parse(x.s)
		if e != x.want {
			t.Errorf("Parse(%q): error %d, not %d", x.s, e, x.want)
		}
		if e != api.OK && (!reflect.DeepEqual(b, api.Block{}) || len(refs) > 0) {
			t.Errorf("Parse(%q): something beside an error", x.s)
		}
		held(t, x.s)
	}
	b, _, _ := block.Parse(quotes + ">a")
	if d := depth(b); d != 101 {
		t.Errorf("a paragraph in 99 quotes makes the depth %d", d)
	}
}

func depth(b api.Block) int {
	n := 0
	for _, k := range b.Kids {
		n = max(n, depth(k))
	}
	return n + 1
}

// TestQuoted holds P12.3: quoted lines are a quote of the lines' blocks.
func TestQuoted(t *testing.T) {
	c := chance(20261119)
	for range 20000 {
		// A tab is as wide as its place says; it is no blank of the same width behind a >.
		lines := source.Lines("\n" + strings.ReplaceAll(c.mixed(12), "\t", "    "))
		for _, sign := range []string{"> ", " > ", "   > "} {
			s := ""
			for _, l := range lines {
				s += sign + l + "\n"
			}
			quoted(t, strings.Join(lines, "\n")+"\n", s)
		}
	}
	quoted(t, "a", ">a")
	quoted(t, "a\n\n- b\nc", ">a\n>\n>- b\n>c")
	quoted(t, "\n", ">")
}

func quoted(t *testing.T, s, in string) {
	t.Helper()
	b, refs, e := block.Parse(s)
	b2, refs2, e2 := block.Parse(in)
	want := api.Block{Kind: api.BlockDoc, Kids: []api.Block{{Kind: api.BlockQuote, Kids: b.Kids}}}
	if e != e2 || !slices.Equal(refs, refs2) || !reflect.DeepEqual(b2, want) {
		t.Errorf("%q quoted, %q:\n%s", s, in, show(b2, refs2, e2))
	}
}

// TestListed holds P12.1 to lines that stand in an item: they make what they make alone.
func TestListed(t *testing.T) {
	c := chance(20261120)
	for range 20000 {
		s, in := "a\n", "- a\n"
		for _, l := range source.Lines("\n" + strings.ReplaceAll(c.mixed(12), "\t", "    ")) {
			if source.Blank(l) {
				l = "" // an item goes on past all blanks of a blank line
			}
			s += l + "\n"
			in += "  " + l + "\n"
		}
		b, refs, e := block.Parse(s)
		b2, refs2, e2 := block.Parse(in)
		if e != e2 || !slices.Equal(refs, refs2) || len(b2.Kids) != 1 || len(b2.Kids[0].Kids) != 1 || !reflect.DeepEqual(b.Kids, b2.Kids[0].Kids[0].Kids) {
			t.Errorf("%q in an item:\n%s, not\n%s", s, show(b2, refs2, e2), show(b, refs, e))
		}
	}
}

// TestParts holds P12.1 to documents one behind the other: a heading lets nothing go on.
func TestParts(t *testing.T) {
	c := chance(20261121)
	for range 20000 {
		one, other := c.mixed(8), c.mixed(8)
		if !strings.HasSuffix(one, "\n") {
			one += "\n"
		}
		b, refs, e := block.Parse(one + "# x\n")
		if n := len(b.Kids); e != api.OK || n == 0 || b.Kids[n-1].Text != "x" {
			continue // code or HTML is open
		}
		b2, refs2, _ := block.Parse(other)
		b3, refs3, e3 := block.Parse(one + "# x\n" + other)
		if e3 != api.OK || !slices.Equal(refs3, slices.Concat(refs, refs2)) || shown(b3) != strings.TrimSuffix(shown(b)+" "+shown(b2), " ") {
			t.Errorf("%q, a heading, and %q:\n%s", one, other, show(b3, refs3, e3))
		}
	}
}

// TestBegunBehindOthers holds P12.1 to blocks that begin as the first ones, and behind so many others: what is told of each as it begins is told of that one.
func TestBegunBehindOthers(t *testing.T) {
	for n := range 70 {
		ahead, told := strings.Repeat("***\n", n), strings.Repeat("rule ", n)
		for _, x := range []example{
			{"# a\n", `h1"a"`},
			{"###### a #\n# b\n", `h6"a" h1"b"`},
			{"a\nb\n--\n", `h2"a\nb"`},
			{"  ~~~ go\n   a\n~~~\n~~~~\n", `code[go]" a\n" code""`},
			{"<div>\na\n\n<b>\nc\n", `html"<div>\na\n" html"<b>\nc\n"`},
			{"<!-- a\n\nb -->\nc\n", `html"<!-- a\n\nb -->\n" p"c"`},
			{"    a\n\n     b\n", `code"a\n\n b\n"`},
			{"> a\n> > # b\n", `quote(p"a" quote(h1"b"))`},
			{"---\n", "rule"},
			{"- a\n\n      b\n- # c\n", `loose-(item(p"a" code"b\n") item(h1"c"))`},
			{"7)  a\n    b\n\n    ~~~\n     c\n    ~~~\n", `loose7)(item(p"a\nb" code" c\n"))`},
			{"a\n", `p"a"`},
		} {
			same(t, ahead+x.s, told+x.want)
		}
	}
}

// TestNewMemory holds rule 3: answers share nothing with what is handed in, nor one list with another.
func TestNewMemory(t *testing.T) {
	s := strings.Clone("# a\nb\n\n    c\n\n~~~ d\ne\n~~~\n<a>\n\n> - f\n\n[g]: /h 'i'\n\nj\n===\n")
	b, refs, _ := block.Parse(s)
	var look func(b api.Block)
	look = func(b api.Block) {
		if shares(b.Text, s) || shares(b.Info, s) {
			t.Errorf("%q shares its text with the argument", shown(b))
		}
		for _, k := range b.Kids {
			look(k)
		}
	}
	look(b)
	for _, r := range refs {
		if shares(r.Label, s) || shares(r.Dest, s) || shares(r.Title, s) {
			t.Errorf("%v shares a text with the argument", r)
		}
	}
	want := shown(b)
	b2, refs2, _ := block.Parse(s)
	spoil(b2)
	clear(refs2)
	b3, refs3, _ := block.Parse(s)
	if shown(b) != want || shown(b3) != want || len(refs) != 1 || refs[0].Label != "g" || !slices.Equal(refs, refs3) {
		t.Error("what is done to one answer is seen in another one")
	}
}

// spoil changes each list in b, its spare room too.
func spoil(b api.Block) {
	for _, k := range b.Kids {
		spoil(k)
	}
	l := b.Kids[:cap(b.Kids)]
	for i := range l {
		l[i] = api.Block{}
	}
}

func shares(part, whole string) bool {
	if part == "" || whole == "" {
		return false
	}
	a, b := uintptr(unsafe.Pointer(unsafe.StringData(part))), uintptr(unsafe.Pointer(unsafe.StringData(whole)))
	return a < b+uintptr(len(whole)) && b < a+uintptr(len(part))
}

// TestAtOnce holds rule 4: what a call answers hangs on its argument alone.
func TestAtOnce(t *testing.T) {
	c := chance(20261122)
	l := make([]string, 200)
	want := make([]string, len(l))
	for i := range l {
		l[i] = c.mixed(20)
		want[i] = show(block.Parse(l[i]))
	}
	var w sync.WaitGroup
	for range 4 {
		w.Go(func() {
			for i, s := range l {
				if got := show(block.Parse(s)); got != want[i] {
					t.Errorf("Parse(%q) told another answer", s)
				}
			}
		})
	}
	w.Wait()
}

// TestLong holds P1 to long texts that make few blocks.
func TestLong(t *testing.T) {
	for _, x := range []struct {
		piece, end string
		want       int // how many blocks the document holds; -1: it is too deep
	}{
		{"a\n", "", 1}, {"a", "", 1}, {"\n", "", 0}, {" ", "", 0}, {" ", "a", 1}, {"\t", "", 0}, {"\t", "a", 1}, {"    a\n", "", 1}, {"    \n", "", 0},
		{"-", "", 1}, {"- ", "", 1}, {"- ", "a", -1}, {"* ", "", 1}, {"1. ", "", -1}, {">", "", -1}, {"> ", "a", -1}, {">\n", "", 1}, {"> a\n", "", 1},
		{"`", "", 1}, {"~", "", 1}, {"`", "\na\n", 1}, {"    \n", "a", 1}, {"    a\n\n\n", "", 1}, {"=", "", 1}, {"#", "", 1}, {"# ", "", 1},
		{"<", "", 1}, {"<a ", "", 1}, {"<a", ">", 1}, {"<a>\n", "", 1}, {"<!--\n", "", 1}, {"<!--\n\n", "", 1}, {"[", "", 1},
		{"[a]: /b\n", "", 0}, {"[a]: /b '\n", "", 0}, {"[a]: /b\n'", "", 1}, {"[a]:\n", "", 0}, {"[a]:\n", "[a]:\n", 1}, {"[a]: /b\n'c' d\n", "", 1},
	} {
		s := strings.Repeat(x.piece, many) + x.end
		b, _, e := block.Parse(s)
		if n := len(b.Kids); e == api.OK && n != x.want || (e == api.ErrDeep) != (x.want < 0) {
			t.Errorf("so many %q and %q: %d blocks, error %d, not %d", x.piece, x.end, n, e, x.want)
		}
	}
}

// TestManyBlocks holds P1 to texts that make many blocks.
func TestManyBlocks(t *testing.T) {
	const pieces = 1 << 14
	for _, x := range []struct {
		piece string
		in    bool // whether they are in one list
		want  int
	}{
		{"a\n\n", false, pieces}, {"#\n", false, pieces}, {"***\n", false, pieces}, {"a\n=\n", false, pieces}, {"~~~\n", false, pieces / 2},
		{">\n\n", false, pieces}, {"> a\n\n", false, pieces}, {"<a>\n\n", false, pieces}, {"<!-- -->\n", false, pieces}, {"+\n-\n", false, 2 * pieces},
		{"-\n", true, pieces}, {"1. a\n", true, pieces}, {"- a\n\n", true, pieces}, {"- - - a\n", true, pieces}, {"- # a\n\n  > b\n", true, pieces},
		{"[a]: /b\n\n", false, 0}, {"[a]: /b\n=\n", false, pieces / 2},
	} {
		b, _, e := block.Parse(strings.Repeat(x.piece, pieces))
		if x.in && len(b.Kids) == 1 {
			b = b.Kids[0]
		}
		if n := len(b.Kids); e != api.OK || n != x.want {
			t.Errorf("so many %q: %d blocks, error %d, not %d", x.piece, n, e, x.want)
		}
	}
}

// TestLongInDeep holds P1 to long lines and many lines in so many blocks as may be.
func TestLongInDeep(t *testing.T) {
	quotes := strings.Repeat(">", 98)
	lists := strings.Repeat("- ", 49)
	indent := strings.Repeat(" ", 98)
	for _, s := range []string{
		quotes + strings.Repeat(" ", many) + "a",
		quotes + ">" + strings.Repeat("a", many),
		strings.Repeat(quotes+">a\n", many/128),
		strings.Repeat(quotes+"> a\n\n", many/128),
		quotes + "> a\n" + strings.Repeat("b\n", many),
		lists + strings.Repeat("a", many),
		lists + "a\n" + strings.Repeat(" ", many) + "b",
		lists + "a\n" + strings.Repeat("\n", many) + indent + "b",
		lists + "a\n" + strings.Repeat(indent+"b\n", many/128),
		lists + "a\n\n" + strings.Repeat(indent+"b\n\n", many/128),
		strings.Repeat(lists+"a\n", many/128),
		strings.Repeat(lists+"a\n\n", many/128),
		lists + "```\n" + strings.Repeat("\n", many),
		lists + "<!--\n" + strings.Repeat("\n", many),
		lists + "    a\n" + strings.Repeat("\n", many),
	} {
		if b, _, e := block.Parse(s); e != api.OK || depth(b) < 100 {
			t.Errorf("Parse(%q ...): error %d, depth %d", s[:100], e, depth(b))
		}
	}
}

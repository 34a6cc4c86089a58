package inline

import (
	"slices"
	"strings"

	"compositor/api"
	"compositor/run"
)

const (
	none    = -1
	classes = 12
)

// emphasized tells the pieces of l, in new memory, with the emphasis that their runs make in place of what it holds.
func emphasized(l []piece) []piece {
	var done []piece
	// Of each class: among so many pieces of done, from the first one on, no run opens what such a run closes. They aren't looked at again: many runs that close nothing would each go through all ahead of them.
	var without [classes]int
	for _, x := range l {
		for x.closes && x.Text != "" {
			class := classOf(x)
			open := opener(done, without[class], x)
			if open == none {
				without[class] = len(done)
				break
			}
			done, x = paired(done, open, x)
			for i := range without {
				without[i] = min(without[i], len(done))
			}
		}
		done = append(done, x)
	}
	return done
}

// classOf tells the class of the run x, which closes and has signs left, as a number: what one run of a class may close, each one may.
func classOf(x piece) int {
	class := x.first % 3 // all that Fits makes of it
	if x.opens {
		class += 3
	}
	if x.Text[0] == '_' {
		class += 6
	}
	return class
}

// opener tells the place of the last run in l, from the place from on, that opens what the run x closes; none, if there isn't one.
func opener(l []piece, from int, x piece) int {
	for at := len(l) - 1; at >= from; at-- {
		if matches(l[at], x) {
			return at
		}
	}
	return none
}

// matches tells whether x is a run that opens what the run y closes.
func matches(x, y piece) bool {
	return x.opens && x.Text != "" && x.Text[0] == y.Text[0] && run.Fits(x.first, y.first, x.closes, y.opens)
}

// paired tells l with all that stands behind the run at open as the kids of a span, and x, the run that closes it: the span takes its signs from both.
func paired(l []piece, open int, x piece) ([]piece, piece) {
	kind, takes := api.SpanEmph, 1
	if len(l[open].Text) > 1 && len(x.Text) > 1 {
		kind, takes = api.SpanStrong, 2
	}
	span := api.Span{Kind: kind, Kids: spans(l[open+1:])}
	l[open].Text = l[open].Text[takes:]
	x.Text = x.Text[takes:]
	return slices.Replace(l, open+1, len(l), piece{Span: span}), x
}

// spans tells the pieces of l as spans: texts side by side as one, empty ones as none.
func spans(l []piece) []api.Span {
	var told []api.Span
	for len(l) > 0 {
		if l[0].Kind != api.SpanText {
			told = append(told, l[0].Span)
			l = l[1:]
			continue
		}
		text, n := joined(l)
		if text != "" {
			told = append(told, textOf(text))
		}
		l = l[n:]
	}
	return told
}

// joined tells the texts that l begins with as one, and how many they are.
func joined(l []piece) (string, int) {
	var b strings.Builder
	for i, x := range l {
		if x.Kind != api.SpanText {
			return b.String(), i
		}
		b.WriteString(x.Text)
	}
	return b.String(), len(l)
}

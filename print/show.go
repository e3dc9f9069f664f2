package print

import (
	"bytes"
	"slices"
	"strconv"
	"strings"

	"caracole/api"
	"caracole/guard"
	"caracole/plain"
	"caracole/side"
)

// quoteWord is the symbol that is shown as a '.
const quoteWord = "quote"

// Kinds of pieces that there are in texts alone. They stand among data, so that a Pair with a label is no Pair for the list in front of it.
const (
	labelled = api.Vec + 1 + iota // Parts 0 with the label Num
	again                         // what has the label Num, once more
	behind                        // Parts 0 behind a point
)

// frame is how a datum is shown: its items, what stands in front of them and behind them, and how long all this is in one line.
type frame struct {
	front string
	items []frame
	back  string
	long  int
}

func frameOf(d api.Datum) frame {
	front, items, back := split(d)
	f := frame{front: front, back: back, long: len(front) + len(back)}
	for i, x := range items {
		item := frameOf(x)
		f.items = append(f.items, item)
		f.long += item.long + min(i, 1)
	}
	return f
}

// split returns the items of a datum, and what stands in front of them and behind them.
func split(d api.Datum) (front string, items []api.Datum, back string) {
	switch d.Kind {
	case labelled:
		return label(d) + "=", d.Parts, ""
	case behind:
		return ". ", d.Parts, ""
	case api.Vec:
		return "#(", d.Parts, ")"
	case api.Pair:
		l := elements(d)
		if isQuote(l) {
			return "'", l[1:], ""
		}
		return "(", l, ")"
	}
	return word(d), nil, ""
}

// elements returns the elements of a list, and what is behind a point as one more.
func elements(d api.Datum) []api.Datum {
	l, tail := plain.Elements(d)
	if tail.Kind == api.Nil {
		return l
	}
	return append(l, api.Datum{Kind: behind, Parts: []api.Datum{tail}})
}

func isQuote(l []api.Datum) bool {
	return len(l) == 2 && l[0].Kind == api.Sym && l[0].Text == quoteWord && l[1].Kind != behind
}

func label(d api.Datum) string { return "#" + strconv.Itoa(d.Num) }

// word is the text of a datum without parts.
func word(d api.Datum) string {
	switch d.Kind {
	case api.Nil:
		return "()"
	case api.Bool:
		return []string{"#f", "#t"}[d.Num]
	case api.Num:
		return strconv.Itoa(d.Num)
	case api.Str:
		return `"` + strings.ReplaceAll(strings.ReplaceAll(d.Text, `\`, `\\`), `"`, `\"`) + `"`
	case again:
		return label(d) + "#"
	}
	return d.Text
}

// sheet is a text that is being written. part writes what is part of something else, as it is shown on this sheet.
type sheet struct {
	text  []byte
	width int
	part  func(f frame)
}

// write fails if the text becomes too long.
func (s *sheet) write(words ...string) {
	for _, w := range words {
		s.text = append(s.text, w...)
		if len(s.text) > api.PrintText {
			guard.Fail(api.ErrLarge)
		}
	}
}

// flat writes all in one line.
func (s *sheet) flat(f frame) { s.row(f, " ") }

// lines writes what is too long for one line with each item in a line of its own, below the first one. If all fits into one line, so do its items.
func (s *sheet) lines(f frame) {
	column := len(s.text) - 1 - bytes.LastIndexByte(s.text, '\n')
	if column+f.long <= s.width {
		s.flat(f)
		return
	}
	s.row(f, "\n"+strings.Repeat(" ", column+len(f.front)))
}

// row writes the items with a gap between each two of them.
func (s *sheet) row(f frame, gap string) {
	s.write(f.front)
	for i, item := range f.items {
		if i > 0 {
			s.write(gap)
		}
		s.part(item)
	}
	s.write(f.back)
}

// inOneLine is the text of a datum.
func inOneLine(d api.Datum) string {
	var s sheet
	s.part = s.flat
	s.part(frameOf(d))
	return string(s.text)
}

// inLines is the text of a datum in lines.
func inLines(d api.Datum, width int) string {
	s := sheet{width: width}
	s.part = s.lines
	s.part(frameOf(d))
	return string(s.text)
}

// line is the text of a datum, or the error that it has instead.
type line struct {
	text string
	e    api.Errno
}

func lineOf(d api.Datum) line {
	text, e := guard.Call(func() string { return inOneLine(d) })
	return line{text: text, e: e}
}

// inTurn has the texts of all data, each with a line feed behind it.
func inTurn(l []api.Datum) string {
	if len(l) > api.PrintText/2 {
		guard.Fail(api.ErrLarge) // each text has at least one byte, and its line feed
	}
	var s sheet
	for _, x := range side.BySide(l, lineOf) {
		guard.Check(x.e)
		s.write(x.text, "\n")
	}
	return string(s.text)
}

// graphShower makes of a graph the datum that is shown for it.
type graphShower struct {
	api.Graph
	shared []int
	labels map[int]int // of the cells that were shown
}

func (g graphShower) datum(cell int) api.Datum {
	if label, ok := g.labels[cell]; ok {
		return api.Datum{Kind: again, Num: label}
	}
	c := g.Cells[cell]
	if c.Kind != api.Pair && c.Kind != api.Vec || !slices.Contains(g.shared, cell) {
		return g.unfold(c)
	}
	label := len(g.labels)
	g.labels[cell] = label
	return api.Datum{Kind: labelled, Num: label, Parts: []api.Datum{g.unfold(c)}}
}

// unfold comes to an end, since there is a label in each cycle.
func (g graphShower) unfold(c api.Cell) api.Datum {
	d := api.Datum{Kind: c.Kind, Num: c.Num, Text: c.Text}
	for _, p := range c.Parts {
		d.Parts = append(d.Parts, g.datum(p))
	}
	return d
}

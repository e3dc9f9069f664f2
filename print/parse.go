package print

import (
	"slices"

	"caracole/api"
	"caracole/datum"
	"caracole/guard"
)

// reader makes what a text stands for of the pieces in it, which are numbered from 0 on as they begin.
type reader interface {
	// begin makes a piece without parts, and returns its number.
	begin(d api.Datum) int
	// fill gives a piece its parts. All that began behind it are filled already.
	fill(piece int, parts ...int)
	// set gives a label to the piece that begins next, and says whether it may stand there.
	set(label int) bool
	// use returns the piece that has a label, and says whether this may stand there.
	use(label int) (piece int, ok bool)
}

// treeReader makes data, in which there are no labels.
type treeReader struct{ pieces []api.Datum }

func (r *treeReader) begin(d api.Datum) int {
	r.pieces = append(r.pieces, d)
	return len(r.pieces) - 1
}

func (r *treeReader) fill(piece int, parts ...int) {
	d := &r.pieces[piece]
	for _, p := range parts {
		d.Parts = append(d.Parts, r.pieces[p])
	}
}

func (r *treeReader) set(int) bool { return false }

func (r *treeReader) use(int) (int, bool) { return 0, false }

// valid returns the datum of a piece, and fails if it is too large.
func (r *treeReader) valid(piece int) api.Datum {
	d := r.pieces[piece]
	guard.Check(datum.Check(d))
	return d
}

// graphReader makes the cells of a graph.
type graphReader struct {
	cells  []api.Cell
	labels map[int]int  // the cells that have them
	open   map[int]bool // labels that stand in front of what has not begun yet
}

func newGraphReader() *graphReader {
	return &graphReader{labels: map[int]int{}, open: map[int]bool{}}
}

func (r *graphReader) begin(d api.Datum) int {
	cell := len(r.cells)
	r.cells = append(r.cells, api.Cell{Kind: d.Kind, Num: d.Num, Text: d.Text})
	for label := range r.open {
		r.labels[label] = cell
		delete(r.open, label)
	}
	return cell
}

func (r *graphReader) fill(cell int, parts ...int) { r.cells[cell].Parts = slices.Clone(parts) }

func (r *graphReader) set(label int) bool {
	if _, known := r.labels[label]; known || len(r.open) > 0 {
		return false
	}
	r.open[label] = true
	return true
}

func (r *graphReader) use(label int) (int, bool) {
	cell, known := r.labels[label]
	return cell, known && len(r.open) == 0
}

// parser tells a reader what the tokens say. It fails at the first one that cannot stand where it does.
type parser struct {
	reader
	tokens []token // those that were not taken yet
}

func newParser(text string, r reader) *parser {
	limit(text)
	return &parser{reader: r, tokens: slices.Collect(tokens(text))}
}

// limit fails if a text to be read is too long.
func limit(text string) {
	if len(text) > api.PrintText {
		guard.Fail(api.ErrLarge)
	}
}

// misplaced fails with the place of a token that cannot stand there.
func misplaced(t token) { guard.FailAt(api.ErrForm, t.at) }

// take goes over the next token if it is of a kind. There always is a next one, since nothing is read behind the last one.
func (p *parser) take(k kind) bool {
	if p.tokens[0].kind != k {
		return false
	}
	p.tokens = p.tokens[1:]
	return true
}

func (p *parser) need(k kind) {
	if t := p.tokens[0]; !p.take(k) {
		misplaced(t)
	}
}

// only reads a text of one datum.
func (p *parser) only() int {
	d := p.datum()
	p.need(end)
	return d
}

// all reads a text of any number of data.
func (p *parser) all() []int {
	var l []int
	for !p.take(end) {
		l = append(l, p.datum())
	}
	return l
}

func (p *parser) datum() int {
	t := p.tokens[0]
	p.tokens = p.tokens[1:]
	switch t.kind {
	case opening:
		return p.list()
	case vector:
		return p.vector()
	case quote:
		return p.quoted()
	case setLabel:
		if p.set(t.means.Num) {
			return p.datum()
		}
	case useLabel:
		if piece, ok := p.use(t.means.Num); ok {
			return piece
		}
	case str:
		if len(t.means.Text) > api.StrLong {
			break
		}
		fallthrough
	case atom:
		return p.begin(t.means)
	}
	misplaced(t)
	return 0
}

// list reads what is behind a (.
func (p *parser) list() int {
	if p.take(closing) {
		return p.begin(api.Datum{})
	}
	return p.pair()
}

// pair reads an element of a list, and what is behind it.
func (p *parser) pair() int {
	pair := p.begin(api.Datum{Kind: api.Pair})
	first := p.datum()
	second := p.rest()
	p.fill(pair, first, second)
	return pair
}

// rest reads what is behind an element of a list.
func (p *parser) rest() int {
	if !p.take(point) {
		return p.list()
	}
	tail := p.datum()
	p.need(closing)
	return tail
}

func (p *parser) quoted() int {
	pair := p.begin(api.Datum{Kind: api.Pair})
	word := p.begin(api.Datum{Kind: api.Sym, Text: quoteWord})
	rest := p.begin(api.Datum{Kind: api.Pair})
	x := p.datum()
	none := p.begin(api.Datum{})
	p.fill(rest, x, none)
	p.fill(pair, word, rest)
	return pair
}

func (p *parser) vector() int {
	vec := p.begin(api.Datum{Kind: api.Vec})
	var parts []int
	for !p.take(closing) {
		parts = append(parts, p.datum())
	}
	p.fill(vec, parts...)
	return vec
}

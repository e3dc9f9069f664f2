package print

import (
	"iter"
	"strconv"
	"strings"

	"caracole/api"
	"caracole/datum"
)

// kind is a kind of tokens.
type kind int

const (
	wrong    kind = iota // what is no token
	end                  // behind the last token
	opening              // (
	closing              // )
	quote                // '
	point                // .
	vector               // #(
	atom                 // a word, #f or #t
	str                  // a string
	setLabel             // a label with a =
	useLabel             // a label with a #
)

// token is what stands at a place of a text. An atom and a string mean a datum, a label means its number.
type token struct {
	kind  kind
	at    int
	text  string
	means api.Datum
}

// source is a text that is looked at byte by byte.
type source string

// nothing is behind the last byte.
const nothing rune = -1

// labelMost is the greatest label, since there are at most two digits.
const labelMost = 99

func (s source) char(i int) rune {
	if i >= len(s) {
		return nothing
	}
	return rune(s[i])
}

// span returns how many bytes in a row are of some sort, from a place on.
func (s source) span(from int, sort func(rune) bool) int {
	n := 0
	for sort(s.char(from + n)) {
		n++
	}
	return n
}

func isDigit(r rune) bool   { return r >= '0' && r <= '9' }
func inComment(r rune) bool { return r != '\n' && r != nothing }

// inWord says whether a byte is one of those that symbols are made of.
func inWord(r rune) bool {
	return r >= 'a' && r <= 'z' || isDigit(r) || strings.ContainsRune("-+*/<>=?!", r)
}

// number returns the number that some digits are the text of: no other digits are.
func number(digits string) (int, bool) {
	n, err := strconv.Atoi(digits)
	return n, err == nil && strconv.Itoa(n) == digits
}

// scanner goes through a text from token to token.
type scanner struct {
	source
	at int
}

// tokens yields the tokens of a text. The last one is the end, or what is no token.
func tokens(text string) iter.Seq[token] {
	return func(yield func(token) bool) {
		s := scanner{source: source(text)}
		for {
			s.skip()
			t := s.token()
			if !yield(t) || t.kind == end || t.kind == wrong {
				return
			}
			s.at += len(t.text)
		}
	}
}

// texts are the tokens of a text as they stand there.
func texts(text string) []string {
	var l []string
search:
	for t := range tokens(text) {
		switch t.kind {
		case wrong:
			misplaced(t)
		case end:
			break search
		}
		l = append(l, t.text)
	}
	return l
}

// skip goes over what may stand between tokens.
func (s *scanner) skip() {
	for {
		switch s.char(s.at) {
		case ';':
			s.at += s.span(s.at, inComment)
		case ' ', '\n':
			s.at++
		default:
			return
		}
	}
}

// next returns the token that the next bytes are.
func (s *scanner) next(k kind, size int) token {
	return token{kind: k, at: s.at, text: string(s.source[s.at : s.at+size])}
}

// meaning returns the token of the next bytes with what it means.
func (s *scanner) meaning(k kind, size int, d api.Datum) token {
	t := s.next(k, size)
	t.means = d
	return t
}

func (s *scanner) token() token {
	switch s.char(s.at) {
	case nothing:
		return s.next(end, 0)
	case '(':
		return s.next(opening, 1)
	case ')':
		return s.next(closing, 1)
	case '\'':
		return s.next(quote, 1)
	case '.':
		return s.next(point, 1)
	case '"':
		return s.str()
	case '#':
		return s.hash()
	}
	return s.word()
}

// str returns the string that begins here.
func (s *scanner) str() token {
	var plain []byte
	for i := s.at + 1; ; i++ {
		c := s.char(i)
		switch {
		case c == '"':
			return s.meaning(str, i+1-s.at, api.Datum{Kind: api.Str, Text: string(plain)})
		case c == '\\':
			i++
			c = s.char(i)
			if c == '"' || c == '\\' {
				break
			}
			fallthrough // in front of nothing else it may stand
		case c < ' ' || c > '~':
			return s.next(wrong, 0)
		}
		plain = append(plain, byte(c))
	}
}

// hash returns what begins with a #.
func (s *scanner) hash() token {
	size := s.span(s.at+1, inWord)
	switch s.source[s.at+1 : s.at+1+size] {
	case "":
		if s.char(s.at+1) == '(' {
			return s.next(vector, 2)
		}
	case "f":
		return s.meaning(atom, 2, api.Datum{Kind: api.Bool})
	case "t":
		return s.meaning(atom, 2, api.Datum{Kind: api.Bool, Num: 1})
	}
	return s.label()
}

func (s *scanner) label() token {
	size := s.span(s.at+1, isDigit)
	behind := s.at + 1 + size
	n, ok := number(string(s.source[s.at+1 : behind]))
	k := wrong
	switch s.char(behind) {
	case '=':
		k = setLabel
	case '#':
		k = useLabel
	}
	if !ok || n > labelMost || k == wrong {
		return s.next(wrong, 0)
	}
	return s.meaning(k, size+2, api.Datum{Kind: api.Num, Num: n})
}

// word returns the number or the symbol that begins here. Where there is no byte of a word it finds no symbol.
func (s *scanner) word() token {
	t := s.next(atom, s.span(s.at, inWord))
	t.means = api.Datum{Kind: api.Sym, Text: t.text}
	if n, ok := number(t.text); ok {
		t.means = api.Datum{Kind: api.Num, Num: n}
	}
	if datum.Check(t.means) != api.OK {
		return s.next(wrong, 0)
	}
	return t
}

package text

import (
	"strconv"
	"strings"

	"tenure/api"
	"tenure/term"
)

// deepest is how many brackets may stand in one another: far more than a term that is not too long can have. A text with more is refused, since a stack that is full can't be caught.
const deepest = 1 << 18

// fault is thrown where a text is refused.
type fault api.Errno

// must throws a fault, if what a term's own text has is not there.
func must(holds bool) {
	if !holds {
		panic(fault(api.ErrBytes))
	}
}

// may tells a term, if it may be.
func may(t api.Term) api.Term {
	must(term.Check(t) == api.OK)
	return t
}

// reader is a cursor: a text, up to where it was read, how many terms were begun, and within how many brackets it is.
type reader struct {
	s               string
	at, begun, deep int
}

// tooLong tells that the whole has too many words, whatever follows: each term that was begun has one at least.
func (r *reader) tooLong() bool { return r.begun > api.MaxWords }

// peek tells the byte that is next, and 0 at the end: no term's text has that byte.
func (r *reader) peek() byte {
	if r.at == len(r.s) {
		return 0
	}
	return r.s[r.at]
}

// next goes past a byte.
func (r *reader) next() byte {
	must(r.at < len(r.s))
	r.at++
	return r.s[r.at-1]
}

// skip goes past what is asked for, if it is next, and tells whether it was.
func (r *reader) skip(s string) bool {
	if !strings.HasPrefix(r.s[r.at:], s) {
		return false
	}
	r.at += len(s)
	return true
}

// want goes past what must be next.
func (r *reader) want(s string) { must(r.skip(s)) }

// span goes past all bytes that are of one sort.
func (r *reader) span(of func(byte) bool) {
	for of(r.peek()) {
		r.at++
	}
}

// whole reads a term behind which there is nothing.
func (r *reader) whole() api.Term {
	t := r.term()
	must(r.at == len(r.s))
	if r.tooLong() || term.Check(t) == api.ErrLong {
		panic(fault(api.ErrLong))
	}
	return t
}

// term reads a term.
func (r *reader) term() api.Term {
	r.begun++
	switch {
	case r.skip("{"):
		return r.tuple()
	case r.skip("["):
		return r.list()
	case r.skip("'"):
		return r.quoted()
	case r.skip("#Ref<"):
		return r.named(api.Ref, ">")
	case r.skip("#Tid<"):
		return r.named(api.Tid, ">")
	case r.skip("<0."):
		return r.named(api.Pid, ".0>")
	case r.skip("#Fun<"):
		return r.fun()
	case lower(r.peek()):
		return r.plain()
	}
	return r.named(api.Int, "")
}

// named reads a number of a kind, and what stands behind it.
func (r *reader) named(kind int, behind string) api.Term {
	t := may(api.Term{Kind: kind, N: r.number()})
	r.want(behind)
	return t
}

// number reads a number: digits that it would be written with.
func (r *reader) number() int {
	from := r.at
	r.skip("-")
	r.span(digit)
	n, err := strconv.Atoi(r.s[from:r.at])
	must(err == nil && strconv.Itoa(n) == r.s[from:r.at])
	return n
}

// plain reads an atom without quotes.
func (r *reader) plain() api.Term {
	from := r.at
	r.span(letter)
	must(Plain(r.s[from:r.at]))
	return term.MakeAtom(r.s[from:r.at])
}

// quoted reads an atom behind its first quote: one that needs them.
func (r *reader) quoted() api.Term {
	var b strings.Builder
	for !r.skip("'") {
		b.WriteByte(r.piece())
	}
	must(!Plain(b.String()))
	return may(term.MakeAtom(b.String()))
}

// piece reads a byte that stands in quotes.
func (r *reader) piece() byte {
	if !r.skip(`\`) {
		c := r.next()
		must(shown(c))
		return c
	}
	c := r.next()
	if c == 'x' {
		return r.escaped()
	}
	must(c == '\'' || c == '\\')
	return c
}

// escaped reads a byte of two digits: one that needs them.
func (r *reader) escaped() byte {
	c := r.hex() << hexBits
	c |= r.hex()
	must(!shown(c))
	return c
}

// hex reads a digit of an escape.
func (r *reader) hex() byte {
	n := strings.IndexByte(hexDigits, r.next())
	must(n >= 0)
	return byte(n)
}

// fun reads a fun behind its first sign.
func (r *reader) fun() api.Term {
	t := r.named(api.Fun, "")
	if r.skip(",") {
		t.L = r.some(api.MaxTuple)
	}
	r.want(">")
	return t
}

// tuple reads a tuple behind its first bracket.
func (r *reader) tuple() api.Term {
	if r.skip("}") {
		return term.MakeTuple(nil)
	}
	l := r.some(api.MaxTuple)
	r.want("}")
	return term.MakeTuple(l)
}

// list reads a list, or another Cons, behind its first bracket.
func (r *reader) list() api.Term {
	tail := api.Term{Kind: api.Nil}
	if r.skip("]") {
		return tail
	}
	l := r.some(len(r.s))
	if r.skip("|") {
		// A tail that is itself a list, an empty one too, is written without a bar.
		must(r.peek() != '[')
		tail = r.term()
	}
	r.want("]")
	return term.MakeList(l, tail)
}

// some reads terms with commas between, one at least. Of a text that is too long just the form still counts: its terms are not kept.
func (r *reader) some(most int) []api.Term {
	r.deep++
	must(r.deep <= deepest)
	var l []api.Term
	for n := 0; n == 0 || r.skip(","); n++ {
		must(n < most)
		t := r.term()
		if !r.tooLong() {
			l = append(l, t)
		}
	}
	r.deep--
	return l
}

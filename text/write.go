package text

import (
	"strconv"
	"strings"

	"tenure/api"
)

// writer gathers the text of a term that may be.
type writer struct{ strings.Builder }

// term writes a term.
func (w *writer) term(t api.Term) {
	switch t.Kind {
	case api.Int:
		w.number(t.N)
	case api.Atom:
		w.atom(t.S)
	case api.Ref:
		w.named("#Ref<", t.N, ">")
	case api.Tid:
		w.named("#Tid<", t.N, ">")
	case api.Pid:
		w.named("<0.", t.N, ".0>")
	case api.Fun:
		w.fun(t)
	case api.Tuple:
		w.tuple(t)
	case api.Nil:
		w.WriteString("[]")
	case api.Cons:
		w.list(t)
	}
}

// number writes a number.
func (w *writer) number(n int) { w.WriteString(strconv.Itoa(n)) }

// named writes a number with what stands about it.
func (w *writer) named(ahead string, n int, behind string) {
	w.WriteString(ahead)
	w.number(n)
	w.WriteString(behind)
}

// atom writes an atom, in quotes if it needs them.
func (w *writer) atom(s string) {
	if Plain(s) {
		w.WriteString(s)
		return
	}
	w.WriteByte('\'')
	for i := range len(s) {
		w.quoted(s[i])
	}
	w.WriteByte('\'')
}

// quoted writes a byte that stands in quotes.
func (w *writer) quoted(c byte) {
	switch {
	case c == '\'' || c == '\\':
		w.WriteByte('\\')
		w.WriteByte(c)
	case shown(c):
		w.WriteByte(c)
	default:
		w.WriteString(`\x`)
		w.WriteByte(hexDigits[c>>hexBits])
		w.WriteByte(hexDigits[c&hexMask])
	}
}

// fun writes a fun: behind its number each term that it has taken along.
func (w *writer) fun(t api.Term) {
	w.named("#Fun<", t.N, "")
	for _, part := range t.L {
		w.WriteByte(',')
		w.term(part)
	}
	w.WriteByte('>')
}

// tuple writes a tuple.
func (w *writer) tuple(t api.Term) {
	w.WriteByte('{')
	for i, part := range t.L {
		if i > 0 {
			w.WriteByte(',')
		}
		w.term(part)
	}
	w.WriteByte('}')
}

// list writes a list, or another Cons. Its own loop goes down the tails, so that a list's length doesn't deepen the stack.
func (w *writer) list(t api.Term) {
	w.WriteByte('[')
tails:
	for {
		w.term(t.L[0])
		t = t.L[1]
		switch t.Kind {
		case api.Cons:
			w.WriteByte(',')
		case api.Nil:
			break tails
		default:
			w.WriteByte('|')
			w.term(t)
			break tails
		}
	}
	w.WriteByte(']')
}

package heap_test

import (
	"slices"
	"testing"

	"tenure/api"
	"tenure/atom"
	"tenure/heap"
)

// cell is a boxed one of the model: it knows its parts themselves, whatever their places.
type cell struct {
	kind, n int
	parts   []value
	place   int
}

// value is a cell, or else a term that is not boxed.
type value struct {
	c     *cell
	plain api.Term
}

// model is what a heap must tell: its cells, in the order in which they stand.
type model struct {
	limit int
	cells []*cell
	atoms []string
}

// own tells how many words a cell has.
func (c *cell) own() int {
	if c.kind == api.Cons {
		return 2
	}
	return 1 + len(c.parts)
}

func (m *model) used() int {
	sum := 0
	for _, c := range m.cells {
		sum += c.own()
	}
	return sum
}

// word tells a value's word, when the places are settled.
func (m *model) word(v value) uint64 {
	switch {
	case v.c != nil:
		return w(v.c.kind, v.c.place)
	case v.plain.Kind == api.Atom:
		return w(api.Atom, slices.Index(m.atoms, v.plain.S))
	}
	return w(v.plain.Kind, v.plain.N)
}

func (m *model) wordsOf(l []value) []uint64 {
	words := make([]uint64, len(l))
	for i, v := range l {
		words[i] = m.word(v)
	}
	return words
}

// settle gives each cell its place.
func (m *model) settle() {
	place := 0
	for _, c := range m.cells {
		c.place = place
		place += c.own()
	}
}

func (m *model) words() []uint64 {
	var l []uint64
	for _, c := range m.cells {
		switch c.kind {
		case api.Tuple:
			l = append(l, ht(len(c.parts)))
		case api.Fun:
			l = append(l, hf(c.n, len(c.parts)))
		}
		l = append(l, m.wordsOf(c.parts)...)
	}
	return l
}

// lay makes a value of a term, each boxed part a cell of its own.
func (m *model) lay(x api.Term) value {
	switch x.Kind {
	case api.Tuple, api.Cons, api.Fun:
		c := &cell{kind: x.Kind, n: x.N}
		m.cells = append(m.cells, c)
		for _, part := range x.L {
			c.parts = append(c.parts, m.lay(part))
		}
		return value{c: c}
	case api.Atom:
		if !slices.Contains(m.atoms, x.S) {
			m.atoms = append(m.atoms, x.S)
		}
	}
	return value{plain: x}
}

// boxes tells how many words the boxed parts of a term need.
func boxes(x api.Term) int {
	sum := 0
	switch x.Kind {
	case api.Tuple, api.Fun:
		sum = 1 + len(x.L)
	case api.Cons:
		sum = 2
	}
	for _, part := range x.L {
		sum += boxes(part)
	}
	return sum
}

func (m *model) put(x api.Term) (value, api.Errno) {
	if m.used()+boxes(x) > m.limit {
		return value{}, api.ErrLimit
	}
	v := m.lay(x)
	m.settle()
	return v, api.OK
}

func (m *model) join(kind, n int, parts []value) (value, api.Errno) {
	c := &cell{kind: kind, n: n, parts: parts}
	if m.used()+c.own() > m.limit {
		return value{}, api.ErrLimit
	}
	m.cells = append(m.cells, c)
	m.settle()
	return value{c: c}, api.OK
}

// collect keeps the cells that are met, in the order in which they are.
func (m *model) collect(roots []value) {
	met, queue := map[*cell]bool{}, []*cell{}
	meet := func(l []value) {
		for _, v := range l {
			if v.c != nil && !met[v.c] {
				met[v.c] = true
				queue = append(queue, v.c)
			}
		}
	}
	meet(roots)
	m.cells = nil
	for len(queue) > 0 {
		c := queue[0]
		queue = queue[1:]
		m.cells = append(m.cells, c)
		meet(c.parts)
	}
	m.settle()
}

// size tells how many words a value's term has, up to a bound past which it does not matter.
func (m *model) size(v value, known map[*cell]int) int {
	if v.c == nil {
		return 1
	}
	if n, there := known[v.c]; there {
		return n
	}
	sum := 2
	if v.c.kind == api.Cons {
		sum = 1
	}
	for _, part := range v.c.parts {
		sum = min(sum+m.size(part, known), 1<<40)
	}
	known[v.c] = sum
	return sum
}

func (m *model) term(v value) api.Term {
	if v.c == nil {
		return v.plain
	}
	x := api.Term{Kind: v.c.kind, N: v.c.n}
	for _, part := range v.c.parts {
		x.L = append(x.L, m.term(part))
	}
	return x
}

// draw tells numbers that look random, the same ones in each run.
type draw uint64

func (d *draw) below(n int) int {
	*d = *d*6364136223846793005 + 1442695040888963407
	return int(uint64(*d)>>33) % n
}

func (d *draw) terms(many, deep int) []api.Term {
	l := make([]api.Term, many)
	for i := range l {
		l[i] = d.term(deep - 1)
	}
	return l
}

// plain draws a term that is not boxed.
func (d *draw) plain(atoms []string) api.Term {
	switch kind := []int{api.Int, api.Atom, api.Ref, api.Tid, api.Pid, api.Nil}[d.below(6)]; kind {
	case api.Int:
		return num(d.below(1<<20) - 1<<19)
	case api.Nil:
		return null
	case api.Atom:
		if len(atoms) > 0 {
			return atm(atoms[d.below(len(atoms))])
		}
		return null
	default:
		return api.Term{Kind: kind, N: d.below(mostNumber)}
	}
}

// term draws a term, of at most so many in one another.
func (d *draw) term(deep int) api.Term {
	if deep > 0 {
		switch d.below(6) {
		case 0, 1:
			return tup(d.terms(d.below(5), deep)...)
		case 2:
			return cons(d.term(deep-1), d.term(deep-1))
		case 3:
			return list(d.terms(1+d.below(4), deep)...)
		case 4:
			return fun(d.below(1000), d.terms(d.below(4), deep)...)
		}
	}
	return d.plain([]string{"a", "b", "c", "d", "e", "f", "g", "h"})
}

// value draws one that is there.
func (d *draw) value(m *model) value {
	if len(m.cells) == 0 || d.below(3) == 0 {
		return value{plain: d.plain(m.atoms)}
	}
	// Late cells more often than early ones: so they come to stand deep in one another.
	n := len(m.cells)
	return value{c: m.cells[max(d.below(n), d.below(n))]}
}

func (d *draw) values(m *model, many int) []value {
	l := make([]value, many)
	for i := range l {
		l[i] = d.value(m)
	}
	return l
}

// wrong draws a word that may not be.
func (d *draw) wrong(m *model) uint64 {
	for {
		kind, n := d.below(16), d.below(m.used()+3)
		at := slices.IndexFunc(m.cells, func(c *cell) bool { return c.kind == kind && c.place == n })
		switch kind {
		case api.Tuple, api.Cons, api.Fun:
			if at < 0 {
				return w(kind, n)
			}
		case api.Atom:
			return w(kind, len(m.atoms)+n)
		case api.Nil:
			return w(kind, n+1)
		case api.Ref, api.Tid, api.Pid:
			return w(kind, mostNumber+1+n)
		case api.Int:
		default:
			return w(kind, n)
		}
	}
}

// pair is a heap and what it must tell.
type pair struct {
	d *draw
	m *model
	a *atom.Table
	h *heap.Heap
}

// wantAll asks for all that is told without a word.
func (p *pair) wantAll(t *testing.T) {
	t.Helper()
	wantWords(t, p.h, p.m.words()...)
	wantAtoms(t, p.a, p.m.atoms...)
	if n := p.h.Limit(); n != p.m.limit {
		t.Errorf("Limit: %d; want %d", n, p.m.limit)
	}
}

// wantValue asks for the term and the parts of a value.
func (p *pair) wantValue(t *testing.T, v value) {
	t.Helper()
	own := p.m.word(v)
	var parts []uint64
	if v.c != nil {
		parts = p.m.wordsOf(v.c.parts)
	}
	wantParts(t, p.h, own, parts...)
	if p.m.size(v, map[*cell]int{}) > mostWords {
		wantNoGet(t, p.h, own, api.ErrLong)
		return
	}
	wantGet(t, p.h, own, p.m.term(v))
}

// wantNew asks that a call told what the model tells.
func (p *pair) wantNew(t *testing.T, v value, errno api.Errno) func(got uint64, e api.Errno) {
	t.Helper()
	if errno != api.OK {
		return wantWord(t, 0, errno)
	}
	return wantWord(t, p.m.word(v), api.OK)
}

// step does one drawn call.
func (p *pair) step(t *testing.T) {
	t.Helper()
	d, m, h := p.d, p.m, p.h
	switch d.below(8) {
	case 0, 1:
		x := d.term(d.below(5))
		v, errno := m.put(x)
		got, e := h.Put(x)
		p.wantNew(t, v, errno)(got, e)
	case 2:
		l := d.values(m, d.below(6))
		words := m.wordsOf(l)
		v, errno := m.join(api.Tuple, 0, l)
		got, e := h.Tuple(words)
		p.wantNew(t, v, errno)(got, e)
	case 3:
		l := d.values(m, 2)
		words := m.wordsOf(l)
		v, errno := m.join(api.Cons, 0, l)
		got, e := h.Cons(words[0], words[1])
		p.wantNew(t, v, errno)(got, e)
	case 4:
		l, n := d.values(m, d.below(4)), d.below(mostNumber+1)
		words := m.wordsOf(l)
		v, errno := m.join(api.Fun, n, l)
		got, e := h.Fun(n, words)
		p.wantNew(t, v, errno)(got, e)
	case 5:
		p.refused(t)
	case 6:
		p.wantValue(t, d.value(m))
	case 7:
		if d.below(4) == 0 || m.used()+8 > m.limit {
			p.collect(t)
		}
	}
}

// refused does calls with a word that may not be.
func (p *pair) refused(t *testing.T) {
	t.Helper()
	d, m, h := p.d, p.m, p.h
	bad := d.wrong(m)
	l := m.wordsOf(d.values(m, d.below(6)))
	l = slices.Insert(l, d.below(len(l)+1), bad)
	wantNoGet(t, h, bad, api.ErrBytes)
	wantWord(t, 0, api.ErrBytes)(h.Tuple(l))
	wantWord(t, 0, api.ErrBytes)(h.Fun(d.below(9), l))
	wantWord(t, 0, api.ErrBytes)(h.Cons(bad, l[0]))
	wantWord(t, 0, api.ErrBytes)(h.Cons(l[0], bad))
	wantCollect(t, h, l, nil, api.ErrBytes)
	if parts, e := h.Parts(bad); len(parts) != 0 || e != api.ErrBytes {
		t.Errorf("Parts(%d): %v, %v", bad, parts, e)
	}
}

// collect keeps drawn roots, and collects for these once more: P9.5.
func (p *pair) collect(t *testing.T) {
	t.Helper()
	roots := p.d.values(p.m, p.d.below(7))
	words := p.m.wordsOf(roots)
	p.m.collect(roots)
	want := p.m.wordsOf(roots)
	wantCollect(t, p.h, words, want, api.OK)
	p.wantAll(t)
	for _, v := range roots {
		p.wantValue(t, v)
	}
	wantCollect(t, p.h, want, want, api.OK)
}

// P9.1 to P9.6: drawn calls, each of which tells what the model tells; in heaps that are soon full, and in others.
func TestDrawnCalls(t *testing.T) {
	d := draw(9)
	for n := range 300 {
		a := newTable(t)
		limit := []int{0, 1, 2, 5, 20, 60, 150, 400}[n%8]
		p := &pair{d: &d, m: &model{limit: limit}, a: a, h: newHeap(t, a, limit)}
		for range 150 {
			p.step(t)
			p.wantAll(t)
		}
		for _, c := range p.m.cells {
			p.wantValue(t, value{c: c})
		}
		if t.Failed() {
			t.Fatalf("heap %d, of the limit %d", n, limit)
		}
	}
}

package heap_test

import (
	"math"
	"slices"
	"strconv"
	"strings"
	"testing"
	"unsafe"

	"tenure/api"
	"tenure/atom"
	"tenure/heap"
	"tenure/term"
)

// The limits, written anew from the chapters.
const (
	mostHeap   = 1 << 24
	mostWords  = 65536
	mostAtoms  = 4096
	mostBytes  = 65536 // of all atoms
	mostParts  = 64
	mostNumber = 1 << 30
	mostInt    = 1<<59 - 1
	leastInt   = -1 << 59
)

func num(n int) api.Term                { return api.Term{Kind: api.Int, N: n} }
func atm(s string) api.Term             { return api.Term{Kind: api.Atom, S: s} }
func tup(l ...api.Term) api.Term        { return api.Term{Kind: api.Tuple, L: l} }
func fun(n int, l ...api.Term) api.Term { return api.Term{Kind: api.Fun, N: n, L: l} }
func cons(head, tail api.Term) api.Term {
	return api.Term{Kind: api.Cons, L: []api.Term{head, tail}}
}
func list(l ...api.Term) api.Term {
	t := null
	for i := len(l) - 1; i >= 0; i-- {
		t = cons(l[i], t)
	}
	return t
}

var null = api.Term{Kind: api.Nil}

// w makes a word of a kind and a number, by arithmetic alone.
func w(kind, n int) uint64 { return uint64(n)*16 + uint64(kind) }

// The heads of a tuple and of a fun.
func ht(many int) uint64    { return w(10, many) }
func hf(n, many int) uint64 { return w(11, n*128+many) }

// nils tells so many words of a Nil.
func nils(many int) []uint64 { return slices.Repeat([]uint64{8}, many) }

func newTable(t *testing.T, l ...string) *atom.Table {
	t.Helper()
	a := atom.New()
	for n, s := range l {
		if got, e := a.Intern(s); got != n || e != api.OK {
			t.Fatalf("Intern(%q): %d, %v", s, got, e)
		}
	}
	return a
}

func newHeap(t *testing.T, a *atom.Table, limit int) *heap.Heap {
	t.Helper()
	h, e := heap.New(a, limit)
	if h == nil || e != api.OK {
		t.Fatalf("New(%d): %v, %v", limit, h, e)
	}
	return h
}

// filled makes a heap of the atoms a and b that has some words that may be, and tells these: {1, 2} at 0, [{1, 2}] at 3, fun 7 of a at 5, {} at 7, words that are not boxed behind them.
func filled(t *testing.T, limit int) (*heap.Heap, *atom.Table, []uint64) {
	t.Helper()
	a := newTable(t, "a", "b")
	h := newHeap(t, a, limit)
	wantPut(t, h, tup(num(1), num(2)), w(7, 0))
	wantWord(t, w(9, 3), api.OK)(h.Cons(w(7, 0), 8))
	wantWord(t, w(5, 5), api.OK)(h.Fun(7, []uint64{w(2, 0)}))
	wantWord(t, w(7, 7), api.OK)(h.Tuple(nil))
	wantWords(t, h, ht(2), w(1, 1), w(1, 2), w(7, 0), 8, hf(7, 1), w(2, 0), ht(0))
	return h, a, []uint64{w(7, 0), w(9, 3), w(5, 5), w(7, 7), w(1, -5), w(2, 1), w(3, 0), w(4, mostNumber), w(6, 9), 8}
}

// wrongWords are words that may not be in what filled makes.
func wrongWords() []uint64 {
	return []uint64{
		// Of no kind, or of numbers that are none of it.
		0, 16, 12, 13, 14, 15, 24, w(8, 1), w(3, mostNumber+1), w(4, mostNumber+1), w(6, mostNumber+1), w(3, -1), w(6, -1), math.MaxUint64, 1 << 63, 1<<63 | 7,
		// Heads, also those that stand there.
		ht(0), ht(2), ht(64), ht(65), hf(0, 0), hf(7, 1), hf(7, 65), w(11, -1),
		// Atoms that the table has not.
		w(2, 2), w(2, 3), w(2, 4095), w(2, 4096), w(2, mostNumber), w(2, mostNumber+1), w(2, -1),
		// Places where no boxed one begins, or one of another kind; behind all words; of none.
		w(7, 1), w(7, 2), w(7, 3), w(7, 4), w(7, 5), w(7, 6), w(7, 8), w(7, 9), w(7, 1<<24), w(7, mostNumber), w(7, mostNumber+1), w(7, -1), w(7, 1<<59),
		w(9, 0), w(9, 1), w(9, 2), w(9, 4), w(9, 5), w(9, 6), w(9, 7), w(9, 8), w(9, mostNumber), w(9, mostNumber+1), w(9, -1),
		w(5, 0), w(5, 1), w(5, 2), w(5, 3), w(5, 4), w(5, 6), w(5, 7), w(5, 8), w(5, mostNumber), w(5, mostNumber+1), w(5, -1),
	}
}

// wantWord asks for a word, and an error.
func wantWord(t *testing.T, want uint64, errno api.Errno) func(got uint64, e api.Errno) {
	return func(got uint64, e api.Errno) {
		t.Helper()
		if got != want || e != errno {
			t.Errorf("the word %d, %v; want %d, %v", got, e, want, errno)
		}
	}
}

func wantPut(t *testing.T, h *heap.Heap, x api.Term, want uint64) {
	t.Helper()
	got, e := h.Put(x)
	if got != want || e != api.OK {
		t.Errorf("Put(%.200s): %d, %v; want %d", show(x), got, e, want)
	}
	wantGet(t, h, want, x)
}

func wantGet(t *testing.T, h *heap.Heap, word uint64, want api.Term) {
	t.Helper()
	if x, e := h.Get(word); !same(x, want) || e != api.OK {
		t.Errorf("Get(%d): %.200s, %v; want %.200s", word, show(x), e, show(want))
	}
}

func wantNoGet(t *testing.T, h *heap.Heap, word uint64, errno api.Errno) {
	t.Helper()
	if x, e := h.Get(word); !same(x, api.Term{}) || e != errno {
		t.Errorf("Get(%d): %.200s, %v; want none, %v", word, show(x), e, errno)
	}
}

func wantParts(t *testing.T, h *heap.Heap, word uint64, want ...uint64) {
	t.Helper()
	if l, e := h.Parts(word); !slices.Equal(l, want) || e != api.OK {
		t.Errorf("Parts(%d): %v, %v; want %v", word, l, e, want)
	}
}

// wantWords asks for all words of a heap.
func wantWords(t *testing.T, h *heap.Heap, want ...uint64) {
	t.Helper()
	l := h.Words()
	if !slices.Equal(l, want) {
		t.Errorf("Words: %v (%d); want %v (%d)", short(l), len(l), short(want), len(want))
	}
	if n := h.Used(); n != len(want) {
		t.Errorf("Used: %d; want %d", n, len(want))
	}
}

func wantCollect(t *testing.T, h *heap.Heap, roots, want []uint64, errno api.Errno) {
	t.Helper()
	if l, e := h.Collect(roots); !slices.Equal(l, want) || e != errno {
		t.Errorf("Collect(%v): %v, %v; want %v, %v", short(roots), short(l), e, short(want), errno)
	}
}

func wantAtoms(t *testing.T, a *atom.Table, want ...string) {
	t.Helper()
	if l := a.All(); !slices.Equal(l, want) {
		t.Errorf("the table has %d atoms, the last ones %q; want %d, %q", len(l), l[max(0, len(l)-5):], len(want), want[max(0, len(want)-5):])
	}
}

// wantSame tells a function that asks whether a heap and its table are still as they were.
func wantSame(t *testing.T, h *heap.Heap, a *atom.Table) func() {
	words, limit, atoms := h.Words(), h.Limit(), a.All()
	return func() {
		t.Helper()
		wantWords(t, h, words...)
		wantAtoms(t, a, atoms...)
		if h.Limit() != limit {
			t.Errorf("Limit: %d; want %d", h.Limit(), limit)
		}
	}
}

func short(l []uint64) []uint64 { return l[:min(len(l), 40)] }

// same holds two terms against each other, field by field.
func same(x, y api.Term) bool {
	for x.Kind == y.Kind && x.N == y.N && x.S == y.S && len(x.L) == len(y.L) {
		last := len(x.L) - 1
		if last < 0 {
			return true
		}
		for i := range last {
			if !same(x.L[i], y.L[i]) {
				return false
			}
		}
		x, y = x.L[last], y.L[last]
	}
	return false
}

// show tells a term for a message: not all of a great one.
func show(x api.Term) string { return showTo(x, 4) }

func showTo(x api.Term, deep int) string {
	s := strconv.Itoa(x.Kind) + ":" + strconv.Itoa(x.N) + ":" + strconv.Quote(x.S)
	for i, part := range x.L {
		if i == 3 || deep == 0 {
			return s + "(..)"
		}
		s += "(" + showTo(part, deep-1) + ")"
	}
	return s
}

// P9.1 to P9.4: the chapter's examples.
func TestExamples(t *testing.T) {
	a := atom.New()
	h := newHeap(t, a, 8)
	pair := tup(num(1), num(2))
	wantPut(t, h, pair, 7)
	wantWords(t, h, 42, 17, 33)
	wantWord(t, 57, api.OK)(h.Cons(7, 8))
	wantGet(t, h, 57, list(pair))
	wantWord(t, 0, api.ErrLimit)(h.Put(tup(num(1), num(2), num(3), num(4))))
	wantWords(t, h, 42, 17, 33, 7, 8)
	wantCollect(t, h, []uint64{7}, []uint64{7}, api.OK)
	wantWords(t, h, 42, 17, 33)
	wantNoGet(t, h, 57, api.ErrBytes)
	wantWord(t, 55, api.OK)(h.Tuple([]uint64{7, 7}))
	wantWords(t, h, 42, 17, 33, 42, 7, 7)
	wantParts(t, h, 55, 7, 7)
	wantParts(t, h, 17)
	wantNoGet(t, h, 23, api.ErrBytes)
}

// notTables are tables that atom.New did not answer.
func notTables(t *testing.T) []*atom.Table {
	t.Helper()
	c := *newTable(t, "a", "b")
	return []*atom.Table{nil, {}, new(atom.Table), &c}
}

// P9.1: a heap has no words, and may have as many as its limit, from 0 to 2^24.
func TestNew(t *testing.T) {
	a := newTable(t, "a")
	for _, limit := range []int{0, 1, 2, 3, 64, 65535, 65536, 1 << 20, mostHeap - 1, mostHeap} {
		h := newHeap(t, a, limit)
		for range 2 {
			wantWords(t, h)
			if n := h.Limit(); n != limit {
				t.Errorf("Limit: %d; want %d", n, limit)
			}
		}
	}
	limits := []int{-1, -2, -mostHeap, mostHeap + 1, mostHeap + 2, 1 << 25, 1 << 32, 1<<32 + 1, 1 << 62, math.MinInt, math.MinInt + 1, math.MaxInt - 1, math.MaxInt}
	for _, limit := range limits {
		if h, e := heap.New(a, limit); h != nil || e != api.ErrArg {
			t.Errorf("New(%d): %v, %v; want nil, %v", limit, h, e, api.ErrArg)
		}
	}
	for _, none := range notTables(t) {
		for _, limit := range append(limits, 0, 1, 100, mostHeap) {
			if h, e := heap.New(none, limit); h != nil || e != api.ErrNil {
				t.Errorf("New(none, %d): %v, %v; want nil, %v", limit, h, e, api.ErrNil)
			}
		}
	}
	wantAtoms(t, a, "a")
}

// P9.1: a heap stands on the table that it was made of: what one puts there the other has; two heaps of one table share its atoms and no words.
func TestThatVeryTable(t *testing.T) {
	a := newTable(t, "a")
	h, other := newHeap(t, a, 100), newHeap(t, a, 100)
	wantNoGet(t, h, w(2, 1), api.ErrBytes)
	wantWord(t, 0, api.ErrBytes)(h.Tuple([]uint64{w(2, 1)}))
	if n, e := a.Intern("late"); n != 1 || e != api.OK {
		t.Fatal(n, e)
	}
	wantGet(t, h, w(2, 1), atm("late"))
	wantWord(t, w(7, 0), api.OK)(h.Tuple([]uint64{w(2, 1)}))
	wantPut(t, h, atm("own"), w(2, 2))
	wantAtoms(t, a, "a", "late", "own")
	wantGet(t, other, w(2, 2), atm("own"))
	wantWords(t, other)
	wantNoGet(t, other, w(7, 0), api.ErrBytes)
	wantPut(t, other, list(atm("other"), atm("a")), w(9, 0))
	wantWords(t, other, w(2, 3), w(9, 2), w(2, 0), 8)
	wantPut(t, h, tup(atm("other")), w(7, 2))
	wantWords(t, h, ht(1), w(2, 1), ht(1), w(2, 3))
	wantNoGet(t, newHeap(t, newTable(t, "a"), 100), w(2, 1), api.ErrBytes)
}

// P9.2, P9.3, P9.6: what is not boxed needs no words: a heap of none takes it, at each kind's bounds, and so does a full one.
func TestPlain(t *testing.T) {
	a := newTable(t, "", "a")
	none, full := newHeap(t, a, 0), newHeap(t, a, 3)
	wantPut(t, full, tup(num(1), num(2)), w(7, 0))
	for _, h := range []*heap.Heap{none, full} {
		before := h.Words()
		for _, n := range []int{0, 1, -1, 5, 1 << 30, 1<<30 + 1, 1 << 32, -1 << 32, mostInt - 1, mostInt, leastInt + 1, leastInt} {
			wantPut(t, h, num(n), w(1, n))
			wantParts(t, h, w(1, n))
		}
		for _, kind := range []int{api.Ref, api.Tid, api.Pid} {
			for _, n := range []int{0, 1, 2, 100, mostNumber - 1, mostNumber} {
				wantPut(t, h, api.Term{Kind: kind, N: n}, w(kind, n))
				wantParts(t, h, w(kind, n))
			}
		}
		wantPut(t, h, null, 8)
		wantParts(t, h, 8)
		for n, s := range []string{"", "a", "new", strings.Repeat("\xff", 64)} {
			wantPut(t, h, atm(s), w(2, n))
			wantParts(t, h, w(2, n))
		}
		wantWords(t, h, before...)
	}
	wantAtoms(t, a, "", "a", "new", strings.Repeat("\xff", 64))
}

// P9.2, P9.3, P9.6: what is boxed of a term is laid in flat's order, behind all words, whatever stands there.
func TestPutBoxed(t *testing.T) {
	a := newTable(t, "a", "b")
	h := newHeap(t, a, mostHeap)
	var all []uint64
	put := func(x api.Term, own uint64, behind ...uint64) {
		t.Helper()
		wantPut(t, h, x, own)
		all = append(all, behind...)
		wantWords(t, h, all...)
	}
	put(tup(), w(7, 0), ht(0))
	put(fun(0), w(5, 1), hf(0, 0))
	put(fun(mostNumber, num(-1)), w(5, 2), hf(mostNumber, 1), w(1, -1))
	put(cons(num(1), num(2)), w(9, 4), w(1, 1), w(1, 2))
	put(tup(tup()), w(7, 6), ht(1), w(7, 8), ht(0))
	put(list(num(1), num(2)), w(9, 9), w(1, 1), w(9, 11), w(1, 2), 8)
	// The first part's own parts are laid ahead of the second part.
	put(tup(tup(tup(num(1))), num(2), tup(num(3))), w(7, 13),
		ht(3), w(7, 17), w(1, 2), w(7, 21), ht(1), w(7, 19), ht(1), w(1, 1), ht(1), w(1, 3))
	put(cons(cons(atm("a"), cons(null, num(3))), fun(5, cons(num(1), num(2)), tup(atm("b")))), w(9, 23),
		w(9, 25), w(5, 29), w(2, 0), w(9, 27), 8, w(1, 3), hf(5, 2), w(9, 32), w(7, 34), w(1, 1), w(1, 2), ht(1), w(2, 1))
	put(fun(1, fun(2, fun(3), api.Term{Kind: api.Pid, N: 9}), list(api.Term{Kind: api.Ref, N: 7})), w(5, 36),
		hf(1, 2), w(5, 39), w(9, 43), hf(2, 2), w(5, 42), w(6, 9), hf(3, 0), w(3, 7), 8)
	wantAtoms(t, a, "a", "b")
}

// P9.2: atoms that have a number keep it; others get the next ones, in the order of the text, whatever is laid first.
func TestAtomsGetNumbers(t *testing.T) {
	a := newTable(t, "x", "c")
	h := newHeap(t, a, 100)
	x := tup(tup(atm("a"), list(atm("b"))), atm("c"), fun(4, atm("d"), tup(atm("a"), atm("e"))), cons(atm("x"), atm("")))
	wantPut(t, h, x, w(7, 0))
	wantWords(t, h, ht(4), w(7, 5), w(2, 1), w(5, 10), w(9, 16),
		ht(2), w(2, 2), w(9, 8), w(2, 3), 8,
		hf(4, 2), w(2, 4), w(7, 13), ht(2), w(2, 2), w(2, 5),
		w(2, 0), w(2, 6))
	wantAtoms(t, a, "x", "c", "a", "b", "d", "e", "")
}

// P9.2: what is put twice stands there twice.
func TestPutTwice(t *testing.T) {
	h := newHeap(t, newTable(t), 6)
	wantPut(t, h, tup(num(1), num(2)), w(7, 0))
	wantPut(t, h, tup(num(1), num(2)), w(7, 3))
	wantWords(t, h, ht(2), w(1, 1), w(1, 2), ht(2), w(1, 1), w(1, 2))
	pair := tup(num(5))
	h = newHeap(t, newTable(t), 7)
	wantPut(t, h, tup(pair, pair), w(7, 0))
	wantWords(t, h, ht(2), w(7, 3), w(7, 5), ht(1), w(1, 5), ht(1), w(1, 5))
}

// wrongTerms are terms that may not be, each for one cause.
func wrongTerms() []api.Term {
	return []api.Term{
		{},
		{Kind: -1},
		{Kind: 10},
		{Kind: 11},
		{Kind: 257},
		{Kind: math.MaxInt},
		{Kind: math.MinInt},
		num(mostInt + 1),
		num(leastInt - 1),
		{Kind: api.Int, S: "a"},
		{Kind: api.Int, L: []api.Term{null}},
		{Kind: api.Atom, N: 1},
		atm(strings.Repeat("a", 65)),
		{Kind: api.Ref, N: -1},
		{Kind: api.Tid, N: mostNumber + 1},
		{Kind: api.Pid, N: 1, S: "a"},
		{Kind: api.Nil, N: 1},
		{Kind: api.Tuple, N: 1},
		tup(slices.Repeat([]api.Term{null}, 65)...),
		fun(-1),
		fun(mostNumber + 1),
		fun(1, slices.Repeat([]api.Term{null}, 65)...),
		{Kind: api.Cons},
		{Kind: api.Cons, L: []api.Term{null}},
		{Kind: api.Cons, L: []api.Term{null, null, null}},
	}
}

// ints tells so many numbers.
func ints(many int) []api.Term {
	l := make([]api.Term, many)
	for i := range l {
		l[i] = num(i)
	}
	return l
}

// P9.2, rule 1, rule 3: term.Check's error comes ahead of the others, in a heap without room and with a table that is full, too; nothing is changed then.
func TestPutWrongTerms(t *testing.T) {
	free, a, _ := filled(t, mostHeap)
	full, b, _ := filled(t, 8)
	crowded := newTable(t, names(mostAtoms, 4)...)
	last := newHeap(t, crowded, 0)
	asks := []func(){wantSame(t, free, a), wantSame(t, full, b), wantSame(t, last, crowded)}
	tooLong := []api.Term{list(ints(mostWords / 2)...), tup(atm("new"), list(ints(mostWords/2)...)), list(append(ints(mostWords/2-1), atm("new"), tup())...)}
	for i, h := range []*heap.Heap{free, full, last} {
		for _, x := range wrongTerms() {
			for _, y := range []api.Term{x, tup(x), list(atm("a"), atm("new"), x), tup(atm("new"), fun(1, cons(x, atm("newer")))), cons(num(1), x)} {
				wantWord(t, 0, api.ErrArg)(h.Put(y))
			}
		}
		for _, x := range tooLong {
			wantWord(t, 0, api.ErrLong)(h.Put(x))
		}
		wantWord(t, 0, api.ErrArg)(h.Put(list(append(ints(mostWords), api.Term{})...)))
		asks[i]()
	}
}

// P9.2, P9.3, P9.6: a term of just 65,536 words is put and got, in each shape; it needs one word less in the heap.
func TestMostWords(t *testing.T) {
	items := ints(mostWords/2 - 2)
	tuples, conses, funs := tup(), null, fun(0)
	for range mostWords/2 - 1 {
		tuples = tup(tuples)
		funs = fun(9, funs)
		conses = cons(conses, num(1))
	}
	for _, x := range []api.Term{list(append(ints(mostWords/2-2), tup())...), tup(list(items...), null), fun(3, list(items...), atm("a")), tuples, funs, cons(tup(), conses.L[0])} {
		if n := term.Words(x); n != mostWords {
			t.Fatalf("the test's own term has %d words", n)
		}
		h := newHeap(t, newTable(t, "a"), mostWords-1)
		own, e := h.Put(x)
		if e != api.OK || h.Used() != mostWords-1 {
			t.Errorf("Put: %v, %d words used", e, h.Used())
		}
		wantGet(t, h, own, x)
		few := newHeap(t, newTable(t, "a"), mostWords-2)
		wantWord(t, 0, api.ErrLimit)(few.Put(x))
		wantWords(t, few)
	}
}

// names tells so many texts of so many bytes each, no two alike.
func names(many, bytes int) []string {
	l := make([]string, many)
	for i := range l {
		s := strconv.Itoa(i)
		l[i] = strings.Repeat("0", bytes-len(s)) + s
	}
	return l
}

// P9.2, rule 3: where an atom gets no number the heap stays as it is, and the atoms met ahead of it have theirs, as flat says; that is told ahead of the want of words.
func TestPutFull(t *testing.T) {
	x := tup(atm("0007"), list(atm("p"), atm("q")), atm("p"), tup(atm("r")), atm("s"))
	for _, limit := range []int{mostHeap, 15, 14, 13, 3, 0} {
		there := names(mostAtoms-2, 4)
		a := newTable(t, there...)
		h := newHeap(t, a, limit)
		wantWord(t, 0, api.ErrFull)(h.Put(x))
		all := append(slices.Clone(there), "p", "q")
		wantAtoms(t, a, all...)
		wantWords(t, h)
		for _, y := range []api.Term{atm("r"), x, list(atm("p"), atm("r")), tup(tup(tup(), fun(1, atm("")))), tup(num(1), atm("s"), atm("p"))} {
			wantWord(t, 0, api.ErrFull)(h.Put(y))
			wantAtoms(t, a, all...)
			wantWords(t, h)
		}
		wantPut(t, h, atm("q"), w(2, mostAtoms-1))
		if limit < 3 {
			wantWord(t, 0, api.ErrLimit)(h.Put(tup(atm("q"), atm("p"))))
			continue
		}
		wantPut(t, h, tup(atm("q"), atm("p")), w(7, 0))
		wantWords(t, h, ht(2), w(2, mostAtoms-1), w(2, mostAtoms-2))
	}
}

// P9.2: likewise where the atoms' bytes are full: one that is too long gets no number, though one behind it might.
func TestPutFullOfBytes(t *testing.T) {
	for _, limit := range []int{mostHeap, 8, 0} {
		there := append(names(mostBytes/64-1, 64), names(1, 60)...)
		a := newTable(t, there...)
		h := newHeap(t, a, limit)
		wantWord(t, 0, api.ErrFull)(h.Put(list(atm("ab"), tup(num(1), atm("abc")), atm("y"), atm(""))))
		all := append(slices.Clone(there), "ab")
		wantAtoms(t, a, all...)
		wantWord(t, 0, api.ErrFull)(h.Put(tup(atm("yz"), atm("ab"), atm("yz"), atm("v"))))
		all = append(all, "yz")
		wantAtoms(t, a, all...)
		wantWord(t, 0, api.ErrFull)(h.Put(cons(atm(""), atm("v"))))
		all = append(all, "")
		wantAtoms(t, a, all...)
		wantWords(t, h)
	}
}

// P9.2, rule 3: a term for which there are too few words gives no atom a number, whatever atoms it has; with room for it they get theirs.
func TestPutLimitLeavesAtoms(t *testing.T) {
	there := names(mostAtoms-4, 4)
	x := list(atm("0001"), atm("p"), atm("q"), atm("p"), tup(atm("r")))
	for _, known := range [][]string{nil, {"p"}, {"q", "a", "b"}, {"r", "q", "p"}, there} {
		a := newTable(t, known...)
		h := newHeap(t, a, 12)
		wantPut(t, h, tup(), w(7, 0))
		ask := wantSame(t, h, a)
		for range 2 {
			wantWord(t, 0, api.ErrLimit)(h.Put(x))
			wantWord(t, 0, api.ErrLimit)(h.Put(cons(atm("new"), x)))
			ask()
		}
		wantCollect(t, h, nil, nil, api.OK)
		wantPut(t, h, x.L[1], w(9, 0))
		n := a.Len()
		wantWord(t, 0, api.ErrLimit)(h.Put(x))
		if a.Len() != n {
			t.Errorf("%d atoms; want %d", a.Len(), n)
		}
	}
}

// P9.2: a heap that has just the room for a term takes it; one word less is too few, and then nothing is changed.
func TestPutLimit(t *testing.T) {
	pair := tup(num(1), num(2))
	for i, x := range []api.Term{tup(), fun(1), pair, cons(num(1), null), list(ints(9)...), tup(ints(64)...), fun(5, ints(64)...), list(pair, atm("a"), tup(pair, fun(2, pair))), tup(tup(tup()))} {
		need := term.Words(x) - 1
		for ahead := range 5 {
			h := newHeap(t, newTable(t, "a"), need+ahead)
			for n := range ahead {
				wantPut(t, h, tup(), w(7, n))
			}
			own, e := h.Put(x)
			if e != api.OK || h.Used() != need+ahead {
				t.Errorf("%d, %d ahead: Put: %v, %d words used; want %d", i, ahead, e, h.Used(), need+ahead)
			}
			wantGet(t, h, own, x)
			a := newTable(t)
			few := newHeap(t, a, need+ahead-1)
			for n := range min(ahead, few.Limit()) {
				wantPut(t, few, tup(), w(7, n))
			}
			ask := wantSame(t, few, a)
			wantWord(t, 0, api.ErrLimit)(few.Put(x))
			ask()
		}
	}
}

// P9.2, P9.3: tuples and funs of none to 64 words: their words, their parts, their terms; none of 65 and more.
func TestJoinMany(t *testing.T) {
	a := newTable(t, "a")
	h := newHeap(t, a, mostHeap)
	var all []uint64
	for many := range mostParts + 1 {
		words, terms := make([]uint64, many), ints(many)
		for i := range words {
			words[i] = w(1, i)
		}
		wantWord(t, w(7, len(all)), api.OK)(h.Tuple(words))
		wantParts(t, h, w(7, len(all)), words...)
		wantGet(t, h, w(7, len(all)), tup(terms...))
		all = append(append(all, ht(many)), words...)
		wantWord(t, w(5, len(all)), api.OK)(h.Fun(many*3, words))
		wantParts(t, h, w(5, len(all)), words...)
		wantGet(t, h, w(5, len(all)), fun(many*3, terms...))
		all = append(append(all, hf(many*3, many)), words...)
		wantWords(t, h, all...)
	}
	ask := wantSame(t, h, a)
	for _, many := range []int{65, 66, 127, 128, 129, 192, 1000, mostWords} {
		for _, l := range [][]uint64{nils(many), make([]uint64, many)} {
			wantWord(t, 0, api.ErrArg)(h.Tuple(l))
			wantWord(t, 0, api.ErrArg)(h.Fun(1, l))
			wantWord(t, 0, api.ErrArg)(h.Fun(-1, l))
		}
	}
	ask()
}

// P9.2: the numbers that a fun may have; another one is told ahead of words that may not be, and of the want of words.
func TestFunNumbers(t *testing.T) {
	h, a, _ := filled(t, 100)
	for i, n := range []int{0, 1, 127, 128, 1 << 20, mostNumber - 1, mostNumber} {
		place := 8 + 3*i
		wantWord(t, w(5, place), api.OK)(h.Fun(n, []uint64{w(1, -1), w(7, 0)}))
		wantGet(t, h, w(5, place), fun(n, num(-1), tup(num(1), num(2))))
		wantParts(t, h, w(5, place), w(1, -1), w(7, 0))
		if words := h.Words(); len(words) != place+3 || words[place] != hf(n, 2) {
			t.Errorf("Fun(%d): the words %v", n, words)
		}
	}
	full, b, _ := filled(t, 8)
	ask, askFull := wantSame(t, h, a), wantSame(t, full, b)
	for _, n := range []int{-1, -2, -128, mostNumber + 1, mostNumber + 2, 1 << 31, 1 << 32, 1<<32 + 1, 1 << 53, 1 << 60, math.MinInt, math.MaxInt} {
		for _, l := range [][]uint64{nil, {8}, {0}, {w(7, 1)}, nils(65)} {
			wantWord(t, 0, api.ErrArg)(h.Fun(n, l))
			wantWord(t, 0, api.ErrArg)(full.Fun(n, l))
		}
	}
	ask()
	askFull()
}

// P9.2: a tuple, a cons and a fun are taken where there is just the room for them; one word less is too few, and then nothing is changed.
func TestJoinLimit(t *testing.T) {
	for room := range 70 {
		h, a, _ := filled(t, 8+room)
		ask := wantSame(t, h, a)
		for many := range mostParts + 1 {
			if many+1 > room {
				wantWord(t, 0, api.ErrLimit)(h.Tuple(nils(many)))
				wantWord(t, 0, api.ErrLimit)(h.Fun(mostNumber, nils(many)))
			}
		}
		if room < 2 {
			wantWord(t, 0, api.ErrLimit)(h.Cons(8, 8))
		}
		ask()
		if room > 0 && room <= mostParts+1 {
			wantWord(t, w(7, 8), api.OK)(h.Tuple(nils(room - 1)))
			wantFull(t, h)
			h, _, _ = filled(t, 8+room)
			wantWord(t, w(5, 8), api.OK)(h.Fun(2, nils(room-1)))
			wantFull(t, h)
		}
		if room == 2 {
			h, _, _ = filled(t, 8+room)
			wantWord(t, w(9, 8), api.OK)(h.Cons(8, 8))
			wantFull(t, h)
		}
	}
}

// wantFull asks that a heap has as many words as it may, and takes no more.
func wantFull(t *testing.T, h *heap.Heap) {
	t.Helper()
	before := h.Words()
	if h.Used() != h.Limit() {
		t.Errorf("Used: %d; want %d", h.Used(), h.Limit())
	}
	wantWord(t, 0, api.ErrLimit)(h.Tuple(nil))
	wantWord(t, 0, api.ErrLimit)(h.Cons(8, 8))
	wantWord(t, 0, api.ErrLimit)(h.Fun(0, nil))
	wantWord(t, 0, api.ErrLimit)(h.Put(tup()))
	wantWord(t, 0, api.ErrLimit)(h.Put(list(null)))
	wantWords(t, h, before...)
}

// P9.2 to P9.4: a heap of no words takes nothing that is boxed, but is asked and collected as any other.
func TestHeapOfNone(t *testing.T) {
	a := newTable(t, "a")
	h := newHeap(t, a, 0)
	wantFull(t, h)
	wantWord(t, 0, api.ErrBytes)(h.Cons(8, w(9, 0)))
	wantNoGet(t, h, w(7, 0), api.ErrBytes)
	wantCollect(t, h, []uint64{8, w(2, 0), w(1, -1)}, []uint64{8, w(2, 0), w(1, -1)}, api.OK)
	wantCollect(t, h, []uint64{w(9, 0)}, nil, api.ErrBytes)
	wantCollect(t, h, nil, nil, api.OK)
	wantFull(t, h)
}

// P9.2 to P9.4, rule 3: words that may not be are refused, wherever they stand, and ahead of the want of words; then nothing is changed.
func TestWrongWords(t *testing.T) {
	for _, limit := range []int{8, 9, 1000} {
		h, a, good := filled(t, limit)
		ask := wantSame(t, h, a)
		for _, bad := range wrongWords() {
			wantNoGet(t, h, bad, api.ErrBytes)
			if l, e := h.Parts(bad); len(l) != 0 || e != api.ErrBytes {
				t.Errorf("Parts(%d): %v, %v; want %v", bad, l, e, api.ErrBytes)
			}
			wantWord(t, 0, api.ErrBytes)(h.Cons(bad, 8))
			wantWord(t, 0, api.ErrBytes)(h.Cons(8, bad))
			for at := range len(good) + 1 {
				l := slices.Insert(slices.Clone(good), at, bad)
				wantWord(t, 0, api.ErrBytes)(h.Tuple(l))
				wantWord(t, 0, api.ErrBytes)(h.Fun(1, l))
				wantCollect(t, h, l, nil, api.ErrBytes)
			}
			full := append(nils(63), bad)
			wantWord(t, 0, api.ErrBytes)(h.Tuple(full))
			wantWord(t, 0, api.ErrBytes)(h.Fun(mostNumber, full))
			wantWord(t, 0, api.ErrArg)(h.Tuple(append(full, bad)))
		}
		ask()
		for _, one := range good {
			if x, e := h.Get(one); term.Check(x) != api.OK || e != api.OK {
				t.Errorf("Get(%d): %v, %v", one, show(x), e)
			}
		}
	}
}

// P9.2, P9.3: a word of a part may be on its own, wherever it stands; words that are not there any more behind a collection may not be.
func TestWordsOfParts(t *testing.T) {
	h := newHeap(t, newTable(t, "a"), 100)
	wantPut(t, h, tup(list(atm("a"), tup(num(4))), fun(2, cons(num(5), num(6)))), w(7, 0))
	wantWords(t, h, ht(2), w(9, 3), w(5, 9), w(2, 0), w(9, 5), w(7, 7), 8, ht(1), w(1, 4), hf(2, 1), w(9, 11), w(1, 5), w(1, 6))
	wantParts(t, h, w(7, 0), w(9, 3), w(5, 9))
	wantParts(t, h, w(9, 3), w(2, 0), w(9, 5))
	wantParts(t, h, w(9, 5), w(7, 7), 8)
	wantParts(t, h, w(7, 7), w(1, 4))
	wantParts(t, h, w(5, 9), w(9, 11))
	wantParts(t, h, w(9, 11), w(1, 5), w(1, 6))
	wantGet(t, h, w(9, 5), list(tup(num(4))))
	wantGet(t, h, w(5, 9), fun(2, cons(num(5), num(6))))
	wantWord(t, w(9, 13), api.OK)(h.Cons(w(9, 11), w(7, 7)))
	wantGet(t, h, w(9, 13), cons(cons(num(5), num(6)), tup(num(4))))
	wantCollect(t, h, []uint64{w(9, 5)}, []uint64{w(9, 0)}, api.OK)
	wantWords(t, h, w(7, 2), 8, ht(1), w(1, 4))
	for place := range 15 {
		for _, kind := range []int{7, 9, 5} {
			if here := w(kind, place); here != w(9, 0) && here != w(7, 2) {
				wantNoGet(t, h, here, api.ErrBytes)
			}
		}
	}
}

// must tells a word of a call that must answer one.
func must(t *testing.T) func(own uint64, e api.Errno) uint64 {
	return func(own uint64, e api.Errno) uint64 {
		t.Helper()
		if e != api.OK {
			t.Fatal(e)
		}
		return own
	}
}

// P9.3: what is shared counts as often as it stands in the term, however few words it has in the heap: a term of just 65,536 words is got, one of one word more is not.
func TestGetShared(t *testing.T) {
	h := newHeap(t, newTable(t, "a"), mostHeap)
	own, words, x := w(2, 0), 1, atm("a")
	for 2*words+2 <= mostWords {
		own, words, x = must(t)(h.Tuple([]uint64{own, own})), 2*words+2, tup(x, x)
		wantGet(t, h, own, x)
	}
	wantNoGet(t, h, must(t)(h.Tuple([]uint64{own, own})), api.ErrLong)
	for words+2 < mostWords {
		own, words, x = must(t)(h.Cons(8, own)), words+2, cons(null, x)
	}
	if words != mostWords-2 {
		t.Fatal("the test's own words are", words)
	}
	none := must(t)(h.Tuple(nil))
	wantGet(t, h, own, x)
	wantGet(t, h, must(t)(h.Cons(8, own)), cons(null, x))
	wantGet(t, h, must(t)(h.Cons(own, 8)), cons(x, null))
	wantGet(t, h, must(t)(h.Tuple([]uint64{own})), tup(x))
	wantGet(t, h, must(t)(h.Fun(3, []uint64{own})), fun(3, x))
	for _, l := range [][]uint64{{own, 8}, {8, own}, {own, none}, {none, own}, {w(2, 0), own, 8}} {
		wantNoGet(t, h, must(t)(h.Tuple(l)), api.ErrLong)
		wantNoGet(t, h, must(t)(h.Fun(1, l)), api.ErrLong)
	}
	wantNoGet(t, h, must(t)(h.Cons(none, own)), api.ErrLong)
	wantNoGet(t, h, must(t)(h.Cons(own, none)), api.ErrLong)
}

// P9.3: 65,535 words, which are put, with two more, which are not got; the longer term's parts are told, and the shorter one is still got.
func TestGetOneMore(t *testing.T) {
	x := list(ints(mostWords/2 - 1)...)
	h := newHeap(t, newTable(t), mostHeap)
	own := must(t)(h.Put(x))
	for _, longer := range []uint64{must(t)(h.Cons(8, own)), must(t)(h.Cons(own, 8)), must(t)(h.Tuple([]uint64{own})), must(t)(h.Fun(0, []uint64{own}))} {
		wantNoGet(t, h, longer, api.ErrLong)
		if l, e := h.Parts(longer); e != api.OK || !slices.Contains(l, own) {
			t.Errorf("Parts: %v, %v", l, e)
		}
		again := must(t)(h.Tuple([]uint64{longer, longer}))
		wantNoGet(t, h, again, api.ErrLong)
		wantParts(t, h, again, longer, longer)
	}
	wantGet(t, h, own, x)
}

// P9.3, P9.4 (P1): terms far too great are given up, whatever their shape: of many levels that share, long, deep; they are collected all the same.
func TestGetGivesUp(t *testing.T) {
	for i, one := range []func(h *heap.Heap, own uint64) (uint64, api.Errno){
		func(h *heap.Heap, own uint64) (uint64, api.Errno) { return h.Tuple([]uint64{own, own}) },
		func(h *heap.Heap, own uint64) (uint64, api.Errno) { return h.Cons(own, own) },
		func(h *heap.Heap, own uint64) (uint64, api.Errno) { return h.Fun(1, []uint64{own, 8, own}) },
		func(h *heap.Heap, own uint64) (uint64, api.Errno) { return h.Tuple(slices.Repeat([]uint64{own}, 64)) },
		func(h *heap.Heap, own uint64) (uint64, api.Errno) { return h.Tuple(append(nils(63), own)) },
		func(h *heap.Heap, own uint64) (uint64, api.Errno) { return h.Tuple(append([]uint64{own}, nils(63)...)) },
		func(h *heap.Heap, own uint64) (uint64, api.Errno) {
			return h.Fun(2, append([]uint64{own}, nils(63)...))
		},
		func(h *heap.Heap, own uint64) (uint64, api.Errno) { return h.Cons(8, own) },
		func(h *heap.Heap, own uint64) (uint64, api.Errno) { return h.Cons(own, 8) },
		func(h *heap.Heap, own uint64) (uint64, api.Errno) { return h.Tuple([]uint64{own}) },
	} {
		h := newHeap(t, newTable(t), mostHeap)
		own := uint64(8)
		for range 40000 {
			own = must(t)(one(h, own))
		}
		wantNoGet(t, h, own, api.ErrLong)
		roots, e := h.Collect([]uint64{own})
		if e != api.OK || len(roots) != 1 || roots[0]>>4 != 0 {
			t.Errorf("%d: Collect: %v, %v", i, roots, e)
		}
		wantNoGet(t, h, roots[0], api.ErrLong)
	}
}

// P9.3 (P1): a term that is as deep as a heap can have it, by the heads of conses, is given up before the stack is too deep.
func TestGetDeepest(t *testing.T) {
	h := newHeap(t, newTable(t), mostHeap)
	own := uint64(8)
	for range mostHeap / 2 {
		own = must(t)(h.Cons(own, 8))
	}
	wantUsed(t, h, mostHeap)
	wantNoGet(t, h, own, api.ErrLong)
	wantParts(t, h, own, w(9, mostHeap-4), 8)
}

// P9.4: what is moved stands in the order in which it is met: roots first, one by one; then the parts of what was moved, one by one. Put lays it in another order, with parts further behind.
func TestCollectOrder(t *testing.T) {
	h := newHeap(t, newTable(t), 100)
	x := tup(tup(tup(num(1))), num(2), tup(num(3)), fun(4, list(num(5))))
	wantPut(t, h, x, w(7, 0))
	wantWords(t, h, ht(4), w(7, 5), w(1, 2), w(7, 9), w(5, 11), ht(1), w(7, 7), ht(1), w(1, 1), ht(1), w(1, 3), hf(4, 1), w(9, 13), w(1, 5), 8)
	wantCollect(t, h, []uint64{w(7, 0)}, []uint64{w(7, 0)}, api.OK)
	wantWords(t, h, ht(4), w(7, 5), w(1, 2), w(7, 7), w(5, 9), ht(1), w(7, 11), ht(1), w(1, 3), hf(4, 1), w(9, 13), ht(1), w(1, 1), w(1, 5), 8)
	wantGet(t, h, w(7, 0), x)
	// Roots that are parts of others come where they stand among the roots.
	wantCollect(t, h, []uint64{w(9, 13), w(1, 7), w(7, 5), w(7, 0), w(7, 5)}, []uint64{w(9, 0), w(1, 7), w(7, 2), w(7, 4), w(7, 2)}, api.OK)
	wantWords(t, h, w(1, 5), 8, ht(1), w(7, 9), ht(4), w(7, 2), w(1, 2), w(7, 11), w(5, 13), ht(1), w(1, 1), ht(1), w(1, 3), hf(4, 1), w(9, 0))
	wantGet(t, h, w(7, 4), x)
	wantGet(t, h, w(7, 2), tup(tup(num(1))))
	wantGet(t, h, w(9, 0), list(num(5)))
}

// P9.4: parts that stand further ahead of what has them are moved behind it; what is met twice, as a root and as parts, is moved once.
func TestCollectShared(t *testing.T) {
	h, _, _ := filled(t, 100)
	wantWord(t, w(9, 8), api.OK)(h.Cons(w(5, 5), w(9, 3)))
	wantWord(t, w(7, 10), api.OK)(h.Tuple([]uint64{w(7, 0), w(9, 8), w(7, 0), w(7, 7), w(5, 5)}))
	wantCollect(t, h, []uint64{w(7, 10)}, []uint64{w(7, 0)}, api.OK)
	want := []uint64{ht(5), w(7, 6), w(9, 9), w(7, 6), w(7, 11), w(5, 12),
		ht(2), w(1, 1), w(1, 2), w(5, 12), w(9, 14), ht(0), hf(7, 1), w(2, 0), w(7, 6), 8}
	wantWords(t, h, want...)
	wantCollect(t, h, []uint64{w(7, 0)}, []uint64{w(7, 0)}, api.OK)
	wantWords(t, h, want...)
	wantCollect(t, h, []uint64{w(5, 12), w(9, 9), w(5, 12)}, []uint64{w(5, 0), w(9, 2), w(5, 0)}, api.OK)
	wantWords(t, h, hf(7, 1), w(2, 0), w(5, 0), w(9, 4), w(7, 6), 8, ht(2), w(1, 1), w(1, 2))
	wantGet(t, h, w(9, 2), cons(fun(7, atm("a")), list(tup(num(1), num(2)))))
	wantPut(t, h, tup(), w(7, 9))
}

// P9.4: what no root reaches is left behind, and its words may not be any more; the room that it had is there again.
func TestCollectLeavesBehind(t *testing.T) {
	for _, x := range []struct{ roots, want, words []uint64 }{
		{nil, nil, nil},
		{[]uint64{}, nil, nil},
		{[]uint64{8, w(2, 1), w(1, -9), w(6, 4), 8}, []uint64{8, w(2, 1), w(1, -9), w(6, 4), 8}, nil},
		{[]uint64{w(7, 7)}, []uint64{w(7, 0)}, []uint64{ht(0)}},
		{[]uint64{w(5, 5), w(1, 3)}, []uint64{w(5, 0), w(1, 3)}, []uint64{hf(7, 1), w(2, 0)}},
		{[]uint64{w(9, 3), w(7, 0)}, []uint64{w(9, 0), w(7, 2)}, []uint64{w(7, 2), 8, ht(2), w(1, 1), w(1, 2)}},
		{[]uint64{w(7, 0), w(9, 3)}, []uint64{w(7, 0), w(9, 3)}, []uint64{ht(2), w(1, 1), w(1, 2), w(7, 0), 8}},
		{[]uint64{w(7, 7), w(7, 7), w(7, 7)}, []uint64{w(7, 0), w(7, 0), w(7, 0)}, []uint64{ht(0)}},
	} {
		h, a, _ := filled(t, 8)
		wantCollect(t, h, x.roots, x.want, api.OK)
		wantWords(t, h, x.words...)
		wantAtoms(t, a, "a", "b")
		wantCollect(t, h, x.want, x.want, api.OK)
		wantWords(t, h, x.words...)
		for place := range 9 {
			for _, kind := range []int{5, 7, 9} {
				own := w(kind, place)
				_, e := h.Get(own)
				if there := slices.Contains(x.want, own); there != (e == api.OK) || !there && e != api.ErrBytes {
					t.Errorf("Collect(%v), Get(%d): %v", x.roots, own, e)
				}
			}
		}
		room := 8 - len(x.words)
		if room > 0 {
			wantWord(t, 0, api.ErrLimit)(h.Tuple(nils(room)))
			wantWord(t, w(7, len(x.words)), api.OK)(h.Tuple(nils(room - 1)))
		}
		wantFull(t, h)
	}
}

// P9.4: as many roots as are asked for, most of them again and again.
func TestCollectManyRoots(t *testing.T) {
	h, _, good := filled(t, 8)
	roots, want := slices.Repeat(good, 20000), slices.Repeat(good, 20000)
	wantCollect(t, h, roots, want, api.OK)
	wantWords(t, h, ht(2), w(1, 1), w(1, 2), w(7, 0), 8, hf(7, 1), w(2, 0), ht(0))
	ask := h.Words()
	wantCollect(t, h, append(roots, w(7, 1)), nil, api.ErrBytes)
	wantWords(t, h, ask...)
}

// P9.2, P9.4, P9.5: a heap of 2^24 words is filled to the last one; collected, it stays so, or has what is reached alone.
func TestGreatestHeap(t *testing.T) {
	h := newHeap(t, newTable(t), mostHeap)
	own := uint64(8)
	const tuples = mostHeap/64 - 1
	l := nils(63)
	for i := range tuples {
		l[0], l[62] = w(1, i), own
		own = must(t)(h.Tuple(l))
	}
	last := must(t)(h.Tuple(append(nils(61), own)))
	wantUsed(t, h, mostHeap-1)
	wantWord(t, 0, api.ErrLimit)(h.Cons(8, 8))
	wantWord(t, 0, api.ErrLimit)(h.Put(tup(num(1))))
	none := must(t)(h.Tuple(nil))
	wantUsed(t, h, mostHeap)
	wantFull(t, h)
	roots, e := h.Collect([]uint64{last, none})
	if !slices.Equal(roots, []uint64{w(7, 0), w(7, 63)}) || e != api.OK || h.Used() != mostHeap {
		t.Errorf("Collect: %v, %v, %d used", roots, e, h.Used())
	}
	before := h.Words()
	wantCollect(t, h, roots, roots, api.OK)
	if !slices.Equal(h.Words(), before) {
		t.Error("collected again, the heap is another one")
	}
	for i := range tuples {
		if place := 64 + 64*i; before[place-2+min(i, 1)] != w(7, place) || before[place] != ht(63) || before[place+1] != w(1, tuples-1-i) {
			t.Fatalf("the words at %d are %d %d %d", place-2, before[place-2:place], before[place], before[place+1])
		}
	}
	if before[0] != ht(62) || before[63] != ht(0) || before[mostHeap-1] != 8 {
		t.Error("the words are not those of the tuples")
	}
	wantCollect(t, h, roots[1:], []uint64{w(7, 0)}, api.OK)
	wantWords(t, h, ht(0))
}

// wantUsed asks how many words a heap has, without a look at them.
func wantUsed(t *testing.T, h *heap.Heap, used int) {
	t.Helper()
	if h.Used() != used {
		t.Fatalf("Used: %d; want %d", h.Used(), used)
	}
}

// P9.1 to P9.4, rule 5: a heap that is nil, or that New did not answer, tells ErrNil ahead of all else, and nothing.
func TestNoHeap(t *testing.T) {
	made, a, good := filled(t, 100)
	ask := wantSame(t, made, a)
	c := *made
	for i, h := range []*heap.Heap{nil, {}, new(heap.Heap), &c} {
		for _, x := range append(wrongTerms(), num(1), atm("a"), atm("new"), tup(atm("new")), list(ints(mostWords)...)) {
			wantWord(t, 0, api.ErrNil)(h.Put(x))
		}
		for _, one := range append(wrongWords(), good...) {
			wantNoGet(t, h, one, api.ErrNil)
			if l, e := h.Parts(one); len(l) != 0 || e != api.ErrNil {
				t.Errorf("%d: Parts(%d): %v, %v", i, one, l, e)
			}
			wantWord(t, 0, api.ErrNil)(h.Cons(one, 8))
			wantWord(t, 0, api.ErrNil)(h.Cons(8, one))
			for _, l := range [][]uint64{nil, {one}, slices.Repeat([]uint64{one}, 65)} {
				wantWord(t, 0, api.ErrNil)(h.Tuple(l))
				wantWord(t, 0, api.ErrNil)(h.Fun(1, l))
				wantWord(t, 0, api.ErrNil)(h.Fun(-1, l))
				wantCollect(t, h, l, nil, api.ErrNil)
			}
		}
		wantWords(t, h)
		if n := h.Limit(); n != 0 {
			t.Errorf("%d: Limit: %d", i, n)
		}
	}
	ask()
}

// scribble writes over words, and over their spare room.
func scribble(l []uint64) {
	l = l[:cap(l)]
	for i := range l {
		l[i] = 0xdead
	}
}

// Rule 4: what Words, Parts and Collect answer is not the heap's own, nor another answer's.
func TestAnswersAreNew(t *testing.T) {
	h, a, good := filled(t, 100)
	ask := wantSame(t, h, a)
	want, kept := h.Words(), h.Words()
	scribble(h.Words())
	ask()
	if !slices.Equal(kept, want) {
		t.Error("two answers of Words share memory")
	}
	for _, own := range good {
		first, _ := h.Parts(own)
		second, _ := h.Parts(own)
		was := slices.Clone(second)
		scribble(first)
		ask()
		if !slices.Equal(second, was) {
			t.Error("two answers of Parts share memory")
		}
	}
	for _, roots := range [][]uint64{good, good[:4], good[:2], good[:1], {8}, nil} {
		l, e := h.Collect(roots)
		if e != api.OK {
			t.Fatal(e)
		}
		before := h.Words()
		scribble(l)
		wantWords(t, h, before...)
		wantPut(t, h, tup(atm("b")), w(7, len(before)))
		wantCollect(t, h, roots, roots, api.OK)
	}
}

// Rule 4: words that are handed in are neither changed nor kept, nor is their spare room read or written.
func TestWordsAreLeft(t *testing.T) {
	for i, call := range []func(h *heap.Heap, l []uint64) api.Errno{
		func(h *heap.Heap, l []uint64) api.Errno { _, e := h.Tuple(l); return e },
		func(h *heap.Heap, l []uint64) api.Errno { _, e := h.Fun(1, l); return e },
		func(h *heap.Heap, l []uint64) api.Errno { _, e := h.Collect(l); return e },
	} {
		h, _, good := filled(t, 100)
		// In the spare room stand words that may not be.
		room := append(slices.Clone(good), wrongWords()...)
		was := slices.Clone(room)
		roots := room[:len(good)]
		// What is collected from the last root on is laid anew, so that its roots are others.
		slices.Reverse(roots)
		slices.Reverse(was[:len(good)])
		for range 2 {
			if e := call(h, roots); e != api.OK {
				t.Errorf("%d: %v", i, e)
			}
			if !slices.Equal(room, was) {
				t.Errorf("%d: the words that were handed in are %v; were %v", i, room, was)
			}
			h, _, _ = filled(t, 100)
		}
		call(h, roots)
		before := h.Words()
		scribble(room)
		wantWords(t, h, before...)
		wantPut(t, h, tup(), w(7, len(before)))
		wantWords(t, h, append(before, ht(0))...)
	}
}

// Rule 4: a term that is put is neither changed nor kept; terms that are got are new memory, part by part, text by text, though they share in the heap.
func TestTermsAreNew(t *testing.T) {
	a := newTable(t)
	h := newHeap(t, a, 100)
	x := tup(atm("a"), list(atm("b"), tup(num(1))), fun(3, atm("c")))
	kept := term.Copy(x)
	own := must(t)(h.Put(x))
	if !same(x, kept) {
		t.Error("the term that was put is another one")
	}
	x.L[1].L[0], x.L[2].L[0], x.L[0] = num(9), num(9), num(9)
	wantGet(t, h, own, kept)
	twice := must(t)(h.Tuple([]uint64{own, own}))
	y, _ := h.Get(twice)
	z, _ := h.Get(twice)
	name, _ := a.Name(0)
	texts := []string{y.L[0].L[0].S, y.L[1].L[0].S, z.L[0].L[0].S, name}
	for i, s := range texts {
		for _, other := range texts[:i] {
			if unsafe.StringData(s) == unsafe.StringData(other) {
				t.Error("two answers share a text")
			}
		}
	}
	spoil(&y.L[0])
	if !same(y.L[1], kept) || !same(z, tup(kept, kept)) {
		t.Error("two parts of an answer share a list, or two answers")
	}
	wantGet(t, h, twice, tup(kept, kept))
}

// spoil writes over a term's lists, and over their spare room.
func spoil(x *api.Term) {
	for i := range x.L {
		spoil(&x.L[i])
	}
	l := x.L[:cap(x.L)]
	for i := range l {
		l[i] = num(99)
	}
}

// Rule 4: lists of a term's parts have no room that reaches into one another.
func TestSpareRoom(t *testing.T) {
	h := newHeap(t, newTable(t), 100)
	want := tup(tup(num(1)), tup(), list(num(2), num(3)), fun(1, tup(num(4))))
	x, _ := h.Get(must(t)(h.Put(want)))
	for _, l := range [][]api.Term{x.L, x.L[0].L, x.L[1].L, x.L[2].L, x.L[2].L[1].L, x.L[3].L} {
		l = l[len(l):cap(l)]
		for i := range l {
			l[i] = num(9)
		}
	}
	if !same(x, want) {
		t.Error("a list's spare room is another's")
	}
}

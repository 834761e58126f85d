package flat_test

import (
	"math"
	"slices"
	"strconv"
	"strings"
	"testing"
	"unsafe"

	"tenure/api"
	"tenure/atom"
	"tenure/flat"
	"tenure/term"
)

// The limits, written anew from the chapters.
const (
	mostWords  = 65536
	mostAtoms  = 4096
	mostBytes  = 65536 // of all atoms
	mostParts  = 64
	mostNumber = 1 << 30
	mostInt    = 1<<59 - 1
	leastInt   = -1 << 59
)

func num(n int) api.Term                { return api.Term{Kind: api.Int, N: n} }
func atm(s string) api.Term             { return api.Term{Kind: api.Atom, S: s} }
func tup(l ...api.Term) api.Term        { return api.Term{Kind: api.Tuple, L: l} }
func fun(n int, l ...api.Term) api.Term { return api.Term{Kind: api.Fun, N: n, L: l} }
func cons(head, tail api.Term) api.Term {
	return api.Term{Kind: api.Cons, L: []api.Term{head, tail}}
}
func list(l ...api.Term) api.Term { return listTo(api.Term{Kind: api.Nil}, l...) }
func listTo(tail api.Term, l ...api.Term) api.Term {
	for i := len(l) - 1; i >= 0; i-- {
		tail = cons(l[i], tail)
	}
	return tail
}

var null = api.Term{Kind: api.Nil}

// w makes a word of a kind and a number, by arithmetic alone.
func w(kind, n int) uint64 { return uint64(n)*16 + uint64(kind) }

// table makes a table of atoms, which have the numbers of their places.
func table(t *testing.T, l ...string) *atom.Table {
	t.Helper()
	a := atom.New()
	for n, s := range l {
		if got, e := a.Intern(s); got != n || e != api.OK {
			t.Fatalf("Intern(%q): %d, %v", s, got, e)
		}
	}
	return a
}

// notMade are tables that New did not answer.
func notMade(t *testing.T) []*atom.Table {
	t.Helper()
	a := table(t, "a", "b")
	c := *a
	return []*atom.Table{nil, {}, new(atom.Table), &c}
}

func wantAtoms(t *testing.T, a *atom.Table, want ...string) {
	t.Helper()
	if l := a.All(); !slices.Equal(l, want) {
		t.Errorf("the table has %.300q; want %.300q", l, want)
	}
}

func wantFlatten(t *testing.T, a *atom.Table, x api.Term, want []uint64, errno api.Errno) {
	t.Helper()
	l, e := flat.Flatten(a, x)
	if !slices.Equal(l, want) || e != errno {
		t.Errorf("Flatten(%.200s): %.30v, %v; want %.30v, %v", show(x), short(l), e, short(want), errno)
	}
}

func wantRead(t *testing.T, a *atom.Table, l []uint64, want api.Term, errno api.Errno) {
	t.Helper()
	x, e := flat.Read(a, l)
	if !same(x, want) || e != errno {
		t.Errorf("Read(%v): %.200s, %v; want %.200s, %v", short(l), show(x), e, show(want), errno)
	}
}

func wantNone(t *testing.T, a *atom.Table, l []uint64, errno api.Errno) {
	t.Helper()
	wantRead(t, a, l, api.Term{}, errno)
}

func wantPart(t *testing.T, a *atom.Table, l []uint64, n int, want []uint64, errno api.Errno) {
	t.Helper()
	got, e := flat.Part(a, l, n)
	if !slices.Equal(got, want) || e != errno {
		t.Errorf("Part(%v, %d): %v, %v; want %v, %v", short(l), n, short(got), e, short(want), errno)
	}
}

// wantWords asks for a term's words, and for the term of them.
func wantWords(t *testing.T, a *atom.Table, x api.Term, want ...uint64) {
	t.Helper()
	wantFlatten(t, a, x, want, api.OK)
	wantRead(t, a, want, x, api.OK)
	if n := term.Words(x); n != len(want) {
		t.Errorf("%.200s: %d words; want %d", show(x), len(want), n)
	}
}

func short(l []uint64) []uint64 { return l[:min(len(l), 40)] }

// same holds two terms against each other, field by field.
func same(x, y api.Term) bool {
	for x.Kind == y.Kind && x.N == y.N && x.S == y.S && len(x.L) == len(y.L) {
		last := len(x.L) - 1
		if last < 0 {
			return true
		}
		for i := range last {
			if !same(x.L[i], y.L[i]) {
				return false
			}
		}
		x, y = x.L[last], y.L[last]
	}
	return false
}

// show tells a term for a message: not all of a long one.
func show(x api.Term) string {
	s := strconv.Itoa(x.Kind) + ":" + strconv.Itoa(x.N) + ":" + strconv.Quote(x.S)
	for i, part := range x.L {
		if i == 3 {
			return s + "(..)"
		}
		s += "(" + show(shallow(part)) + ")"
	}
	return s
}

func shallow(x api.Term) api.Term {
	if len(x.L) > 2 {
		x.L = x.L[:2]
	}
	for i := range x.L {
		if len(x.L[i].L) > 0 {
			x.L = slices.Clone(x.L)
			x.L[i].L = nil
		}
	}
	return x
}

// own and behind tell a term's words in another way: the words of each boxed part are made whole for the place at which they begin, and joined.
func own(numbers map[string]int, x api.Term, place int) uint64 {
	switch x.Kind {
	case api.Atom:
		return w(x.Kind, numbers[x.S])
	case api.Tuple, api.Cons, api.Fun:
		return w(x.Kind, place)
	}
	return w(x.Kind, x.N)
}

func behind(numbers map[string]int, x api.Term, place int) []uint64 {
	var l, rest []uint64
	switch x.Kind {
	case api.Tuple:
		l = append(l, w(10, len(x.L)))
	case api.Fun:
		l = append(l, w(11, x.N*128+len(x.L)))
	}
	free := place + len(l) + len(x.L)
	for _, part := range x.L {
		l = append(l, own(numbers, part, free))
		block := behind(numbers, part, free)
		free += len(block)
		rest = append(rest, block...)
	}
	return append(l, rest...)
}

// number gives the atoms of a term numbers, in the order of the text.
func number(numbers map[string]int, x api.Term) {
	if x.Kind == api.Atom {
		if _, there := numbers[x.S]; !there {
			numbers[x.S] = len(numbers)
		}
	}
	for _, part := range x.L {
		number(numbers, part)
	}
}

// model tells a term's words; atoms that have no number get one.
func model(numbers map[string]int, x api.Term) []uint64 {
	number(numbers, x)
	return append([]uint64{own(numbers, x, 1)}, behind(numbers, x, 1)...)
}

// recognized tells whether words are just those of a term, in a table of so many atoms: what is still to be looked at stands on a stack.
func recognized(l []uint64, atoms int) bool {
	if len(l) == 0 {
		return false
	}
	at, todo := 1, []uint64{l[0]}
	for len(todo) > 0 {
		x := todo[len(todo)-1]
		todo = todo[:len(todo)-1]
		n, many := x/16, uint64(2)
		switch x % 16 {
		case 1:
			continue
		case 2:
			if n >= uint64(atoms) {
				return false
			}
			continue
		case 3, 4, 6:
			if n > mostNumber {
				return false
			}
			continue
		case 8:
			if n != 0 {
				return false
			}
			continue
		case 5, 7, 9:
			if n != uint64(at) {
				return false
			}
		default:
			return false
		}
		if x%16 != 9 {
			if at >= len(l) {
				return false
			}
			h := l[at]
			at++
			many = h / 16
			if x%16 == 7 && h%16 != 10 || x%16 == 5 && h%16 != 11 {
				return false
			}
			if x%16 == 5 {
				if h/16/128 > mostNumber {
					return false
				}
				many = h / 16 % 128
			}
		}
		if many > mostParts || at+int(many) > len(l) {
			return false
		}
		for i := int(many) - 1; i >= 0; i-- {
			todo = append(todo, l[at+i])
		}
		at += int(many)
	}
	return at == len(l)
}

// P7.1, P7.2: the chapter's examples.
func TestExamples(t *testing.T) {
	a := atom.New()
	wantFlatten(t, a, num(5), []uint64{81}, api.OK)
	wantFlatten(t, a, list(num(1)), []uint64{25, 17, 8}, api.OK)
	wantAtoms(t, a)
	wantFlatten(t, a, tup(atm("a"), num(1)), []uint64{23, 42, 2, 17}, api.OK)
	wantAtoms(t, a, "a")
	wantRead(t, a, []uint64{23, 42, 2, 17}, tup(atm("a"), num(1)), api.OK)
	wantNone(t, a, []uint64{23, 42, 2}, api.ErrBytes)
	wantNone(t, a, []uint64{25, 17, 8, 8}, api.ErrBytes)
	wantPart(t, a, []uint64{23, 42, 2, 17}, 1, []uint64{2}, api.OK)
	wantPart(t, a, []uint64{23, 42, 2, 17}, 3, nil, api.ErrArg)
	wantAtoms(t, a, "a")
}

// P7.1, P7.2, P7.3: what is not boxed has one word, at each kind's bounds.
func TestPlain(t *testing.T) {
	a := table(t, "", "a", "b")
	for _, n := range []int{0, 1, -1, 2, -2, 5, 1 << 30, 1<<30 + 1, -1 << 30, 1 << 32, 1 << 58, -1 << 58, mostInt - 1, mostInt, leastInt + 1, leastInt} {
		wantWords(t, a, num(n), w(1, n))
	}
	for n, s := range []string{"", "a", "b"} {
		wantWords(t, a, atm(s), w(2, n))
	}
	for _, kind := range []int{api.Ref, api.Tid, api.Pid} {
		for _, n := range []int{0, 1, 2, 3, 100, 1 << 29, mostNumber - 1, mostNumber} {
			wantWords(t, a, api.Term{Kind: kind, N: n}, w(kind, n))
		}
	}
	wantWords(t, a, null, 8)
	wantAtoms(t, a, "", "a", "b")
}

// P7.1, P7.2, P7.3: boxed ones within boxed ones: the places, and the order in which they are laid.
func TestBoxed(t *testing.T) {
	a := table(t, "a", "b")
	wantWords(t, a, tup(), w(7, 1), w(10, 0))
	wantWords(t, a, fun(0), w(5, 1), w(11, 0))
	wantWords(t, a, fun(3), w(5, 1), w(11, 3*128))
	wantWords(t, a, fun(3, num(1), null), w(5, 1), w(11, 3*128+2), w(1, 1), w(8, 0))
	wantWords(t, a, fun(mostNumber), w(5, 1), w(11, mostNumber*128))
	wantWords(t, a, cons(num(1), num(2)), w(9, 1), w(1, 1), w(1, 2))
	wantWords(t, a, list(num(1), num(2)), w(9, 1), w(1, 1), w(9, 3), w(1, 2), w(8, 0))
	wantWords(t, a, tup(tup()), w(7, 1), w(10, 1), w(7, 3), w(10, 0))
	wantWords(t, a, cons(tup(), tup()), w(9, 1), w(7, 3), w(7, 4), w(10, 0), w(10, 0))
	// The first part's own parts are laid ahead of the second part.
	wantWords(t, a, tup(tup(tup(num(1))), num(2), tup(num(3))),
		w(7, 1), w(10, 3), w(7, 5), w(1, 2), w(7, 9), w(10, 1), w(7, 7), w(10, 1), w(1, 1), w(10, 1), w(1, 3))
	wantWords(t, a, cons(cons(atm("a"), cons(null, num(3))), fun(5, cons(num(1), num(2)), tup(atm("b")))),
		w(9, 1), w(9, 3), w(5, 7), w(2, 0), w(9, 5), w(8, 0), w(1, 3),
		w(11, 5*128+2), w(9, 10), w(7, 12), w(1, 1), w(1, 2), w(10, 1), w(2, 1))
	wantWords(t, a, fun(1, fun(2, fun(3), api.Term{Kind: api.Pid, N: 9}), list(api.Term{Kind: api.Ref, N: 7})),
		w(5, 1), w(11, 128+2), w(5, 4), w(9, 8), w(11, 2*128+2), w(5, 7), w(6, 9), w(11, 3*128), w(3, 7), w(8, 0))
}

// P7.1, P7.2, P7.3: 64 parts, of tuples and of what a fun has taken along.
func TestManyParts(t *testing.T) {
	a := atom.New()
	for many := range mostParts + 1 {
		var parts []api.Term
		var words []uint64
		for i := range many {
			parts = append(parts, num(i))
			words = append(words, w(1, i))
		}
		wantWords(t, a, tup(parts...), append([]uint64{w(7, 1), w(10, many)}, words...)...)
		wantWords(t, a, fun(many, parts...), append([]uint64{w(5, 1), w(11, many*129)}, words...)...)
		wantWords(t, a, fun(mostNumber, parts...), append([]uint64{w(5, 1), w(11, mostNumber*128+many)}, words...)...)
	}
	parts := make([]api.Term, mostParts+1)
	for i := range parts {
		parts[i] = null
	}
	wantFlatten(t, a, tup(parts...), nil, api.ErrArg)
	wantFlatten(t, a, fun(0, parts...), nil, api.ErrArg)
}

// P7.1: atoms that have a number keep it; others get the next ones, in the order of the text, whatever is laid first.
func TestAtomsGetNumbers(t *testing.T) {
	a := table(t, "x", "c")
	x := tup(tup(atm("a"), list(atm("b"))), atm("c"), fun(4, atm("d"), tup(atm("a"), atm("e"))), cons(atm("x"), atm("")))
	wantFlatten(t, a, x, []uint64{
		w(7, 1), w(10, 4), w(7, 6), w(2, 1), w(5, 11), w(9, 17),
		w(10, 2), w(2, 2), w(9, 9), w(2, 3), w(8, 0),
		w(11, 4*128+2), w(2, 4), w(7, 14), w(10, 2), w(2, 2), w(2, 5),
		w(2, 0), w(2, 6),
	}, api.OK)
	wantAtoms(t, a, "x", "c", "a", "b", "d", "e", "")
	before := a.All()
	for range 2 {
		wantFlatten(t, a, atm("e"), []uint64{w(2, 5)}, api.OK)
		wantFlatten(t, a, list(atm(""), atm("x")), []uint64{w(9, 1), w(2, 6), w(9, 3), w(2, 0), w(8, 0)}, api.OK)
	}
	wantAtoms(t, a, before...)
	s := strings.Repeat("\xff", 64)
	wantFlatten(t, a, tup(atm(s)), []uint64{w(7, 1), w(10, 1), w(2, 7)}, api.OK)
	wantAtoms(t, a, append(before, s)...)
}

// names tells so many texts of so many bytes each, no two alike.
func names(many, bytes int) []string {
	l := make([]string, many)
	for i := range l {
		s := strconv.Itoa(i)
		l[i] = strings.Repeat("0", bytes-len(s)) + s
	}
	return l
}

// P7.1: in a table of 4,096 atoms none gets a number; those that have one are written; of the atoms met ahead of the one that gets none all have theirs, and of those behind it none.
func TestFullOfAtoms(t *testing.T) {
	there := names(mostAtoms-2, 4)
	a := table(t, there...)
	x := tup(atm("0007"), list(atm("p"), atm("q")), atm("r"), atm("s"))
	wantFlatten(t, a, x, nil, api.ErrFull)
	all := append(slices.Clone(there), "p", "q")
	wantAtoms(t, a, all...)
	for _, x := range []api.Term{atm("r"), x, list(atm("p"), atm("r")), tup(tup(tup(), fun(1, atm("")))), tup(num(1), atm("s"), atm("p"))} {
		wantFlatten(t, a, x, nil, api.ErrFull)
		wantAtoms(t, a, all...)
	}
	wantWords(t, a, tup(atm("q"), atm("p"), atm("0007")), w(7, 1), w(10, 3), w(2, mostAtoms-1), w(2, mostAtoms-2), w(2, 7))
	a = table(t, names(mostAtoms-1, 4)...)
	wantWords(t, a, tup(atm("p"), atm("p"), atm("0001")), w(7, 1), w(10, 3), w(2, mostAtoms-1), w(2, mostAtoms-1), w(2, 1))
}

// P7.1: where bytes are full a longer atom gets no number, and what stands behind it is not asked for, though there were room.
func TestFullOfBytes(t *testing.T) {
	there := append(names(mostBytes/64-1, 64), names(1, 60)...)
	a := table(t, there...)
	wantFlatten(t, a, list(atm("ab"), tup(num(1), atm("abc")), atm("y"), atm("")), nil, api.ErrFull)
	wantAtoms(t, a, append(slices.Clone(there), "ab")...)
	wantFlatten(t, a, list(atm("ab"), tup(num(1), atm("yz")), atm("abc"), atm("")), nil, api.ErrFull)
	all := append(slices.Clone(there), "ab", "yz")
	wantAtoms(t, a, all...)
	wantFlatten(t, a, atm("y"), nil, api.ErrFull)
	wantWords(t, a, cons(atm("yz"), atm(there[9])), w(9, 1), w(2, len(there)+1), w(2, 9))
	wantAtoms(t, a, all...)
	wantFlatten(t, a, cons(atm(""), atm("y")), nil, api.ErrFull)
	wantAtoms(t, a, append(all, "")...)
}

// wrong are terms that may not be, each for one cause.
func wrong() []api.Term {
	return []api.Term{
		{},
		{Kind: -1},
		{Kind: 10},
		{Kind: 11},
		{Kind: 257},
		{Kind: math.MaxInt},
		{Kind: math.MinInt},
		num(mostInt + 1),
		num(leastInt - 1),
		num(math.MaxInt),
		{Kind: api.Int, S: "a"},
		{Kind: api.Int, L: []api.Term{null}},
		{Kind: api.Atom, N: 1},
		atm(strings.Repeat("a", 65)),
		{Kind: api.Atom, S: "a", L: []api.Term{null}},
		{Kind: api.Ref, N: -1},
		{Kind: api.Tid, N: mostNumber + 1},
		{Kind: api.Pid, N: 1, S: "a"},
		{Kind: api.Nil, N: 1},
		{Kind: api.Nil, L: []api.Term{null}},
		{Kind: api.Tuple, N: 1},
		{Kind: api.Tuple, S: "a"},
		fun(-1),
		fun(mostNumber + 1),
		{Kind: api.Cons},
		{Kind: api.Cons, L: []api.Term{null}},
		{Kind: api.Cons, L: []api.Term{null, null, null}},
	}
}

// P7.1: term.Check's error, and no atom gets a number then, wherever the wrong part stands.
func TestWrongTerms(t *testing.T) {
	a := table(t, "a")
	for _, x := range wrong() {
		for _, y := range []api.Term{x, tup(x), list(atm("a"), atm("new"), x), tup(atm("new"), fun(1, cons(x, atm("newer")))), cons(num(1), x)} {
			wantFlatten(t, a, y, nil, api.ErrArg)
		}
	}
	wantAtoms(t, a, "a")
}

// ints tells a list of so many numbers.
func ints(many int) []api.Term {
	l := make([]api.Term, many)
	for i := range l {
		l[i] = num(i)
	}
	return l
}

// chain tells the words of the conses of a list of heads, from a place on.
func chain(place int, heads []uint64, tail uint64) []uint64 {
	var l []uint64
	for _, head := range heads {
		place += 2
		l = append(l, head, w(9, place))
	}
	l[len(l)-1] = tail
	return l
}

// P7.1, P7.2, P7.3: 65,536 words are written and read.
func TestMostWords(t *testing.T) {
	a := table(t, "a")
	const items = mostWords/2 - 2
	l := ints(items)
	heads := make([]uint64, items)
	for i := range heads {
		heads[i] = w(1, i)
	}
	wantWords(t, a, listTo(num(7), l...), append([]uint64{w(9, 1)}, chain(1, heads, w(1, 7))...)...)
	wantWords(t, a, tup(list(l...), null), append([]uint64{w(7, 1), w(10, 2), w(9, 4), 8}, chain(4, heads, 8)...)...)
	wantWords(t, a, fun(1, list(l...), atm("a")), append([]uint64{w(5, 1), w(11, 130), w(9, 4), w(2, 0)}, chain(4, heads, 8)...)...)
	wantWords(t, a, fun(1, list(l...)), append([]uint64{w(5, 1), w(11, 129), w(9, 3)}, chain(3, heads, 8)...)...)
	words := append([]uint64{w(9, 1)}, chain(1, append(heads, w(7, mostWords-1)), 8)...)
	wantWords(t, a, list(append(l, tup())...), append(words, w(10, 0))...)
	if len(words)+1 != mostWords {
		t.Errorf("the test's own words are %d", len(words)+1)
	}
}

// P7.1, P7.2: more than 65,536 words are neither written nor read, whatever the term, and whatever the words.
func TestTooManyWords(t *testing.T) {
	a := table(t, "a")
	l := ints(mostWords / 2)
	for _, x := range []api.Term{list(l...), list(append(l[1:], tup())...), list(append(l[1:], tup(atm("new")))...), tup(atm("new"), list(l...))} {
		wantFlatten(t, a, x, nil, api.ErrLong)
	}
	wantFlatten(t, a, list(append(l, api.Term{})...), nil, api.ErrArg)
	wantAtoms(t, a, "a")
	for _, many := range []int{mostWords + 1, mostWords + 2, 2 * mostWords, 1 << 20} {
		words := make([]uint64, many)
		wantNone(t, a, words, api.ErrLong)
		words[0] = w(1, 1)
		wantNone(t, a, words, api.ErrLong)
		wantPart(t, a, words, 0, nil, api.ErrLong)
	}
	words := append([]uint64{w(9, 1)}, chain(1, make([]uint64, mostWords/2), 8)...)
	for i := 1; i < len(words); i += 2 {
		words[i] = 8
	}
	wantNone(t, a, words, api.ErrLong)
	wantPart(t, a, words, 1, nil, api.ErrLong)
	wantNone(t, a, words[:mostWords], api.ErrBytes)
	wantPart(t, a, words[:mostWords], 1, nil, api.ErrBytes)
	wantNone(t, a, make([]uint64, mostWords), api.ErrBytes)
}

// P7.1, P7.2: a term that is as deep as may be.
func TestDeep(t *testing.T) {
	a := atom.New()
	tuples, conses, funs := tup(), null, fun(0)
	for range mostWords/2 - 1 {
		tuples = tup(tuples)
		funs = fun(9, funs)
		conses = cons(conses, num(1))
	}
	for _, x := range []api.Term{tuples, funs, conses} {
		l, e := flat.Flatten(a, x)
		if len(l) != term.Words(x) || e != api.OK || !recognized(l, 0) {
			t.Errorf("%d words, %v; want %d", len(l), e, term.Words(x))
		}
		wantRead(t, a, l, x, api.OK)
	}
	wantFlatten(t, a, tup(tuples), nil, api.ErrLong)
	wantFlatten(t, a, cons(cons(conses, num(1)), num(1)), nil, api.ErrLong)
}

// P7.1, P7.2, rule 5: a table that New did not answer is told ahead of all else.
func TestNoTable(t *testing.T) {
	for _, a := range notMade(t) {
		for _, x := range append(wrong(), num(1), atm("a"), atm("new"), tup(), list(ints(mostWords)...)) {
			wantFlatten(t, a, x, nil, api.ErrNil)
		}
		for _, l := range [][]uint64{nil, {81}, {2}, {0}, {23, 42, 2, 17}, make([]uint64, mostWords+1)} {
			wantNone(t, a, l, api.ErrNil)
			for n := range 4 {
				wantPart(t, a, l, n, nil, api.ErrNil)
			}
		}
	}
}

// P7.2: words of kinds or numbers that no term has, alone and as a part.
func TestWrongWords(t *testing.T) {
	a := table(t, "a", "b")
	l := []uint64{0, 16, 12, 13, 14, 15, 28, 24, 8 + 1<<60, w(2, 2), w(2, 3), w(2, 4095), w(2, mostNumber), w(2, mostNumber+1), w(2, -1), w(3, mostNumber+1), w(4, mostNumber+1), w(6, mostNumber+1), w(6, -1), 10, 26, w(10, 64), w(10, 65), 11, w(11, 128), w(11, 65), math.MaxUint64, 1 << 63, 1<<63 | 7}
	for _, x := range l {
		wantNone(t, a, []uint64{x}, api.ErrBytes)
		wantNone(t, a, []uint64{w(7, 1), w(10, 1), x}, api.ErrBytes)
		wantNone(t, a, []uint64{w(7, 1), w(10, 2), w(1, 1), x}, api.ErrBytes)
		wantNone(t, a, []uint64{w(9, 1), x, w(8, 0)}, api.ErrBytes)
		wantNone(t, a, []uint64{w(9, 1), w(8, 0), x}, api.ErrBytes)
		wantNone(t, a, []uint64{w(5, 1), w(11, 1), x}, api.ErrBytes)
		wantNone(t, a, []uint64{w(1, 1), x}, api.ErrBytes)
	}
	wantNone(t, a, nil, api.ErrBytes)
	wantNone(t, a, []uint64{}, api.ErrBytes)
	wantPart(t, a, nil, 1, nil, api.ErrBytes)
	wantAtoms(t, a, "a", "b")
}

// P7.2: heads of another kind, of another count, of none; places that are not those where a part is laid.
func TestWrongHeadsAndPlaces(t *testing.T) {
	a := table(t, "a")
	for _, l := range [][]uint64{
		{w(7, 1)}, {w(5, 1)}, {w(9, 1)}, {w(9, 1), w(8, 0)},
		{w(7, 1), w(11, 0)}, {w(5, 1), w(10, 0)}, {w(9, 1), w(10, 2), w(8, 0), w(8, 0)}, {w(9, 1), w(10, 0)},
		{w(7, 1), w(1, 0)}, {w(7, 1), w(8, 0)}, {w(7, 1), 0}, {w(5, 1), 0}, {w(7, 1), w(7, 1)},
		{w(7, 1), w(10, 1)}, {w(7, 1), w(10, 0), w(8, 0)}, {w(7, 1), w(10, 2), w(8, 0)}, {w(5, 1), w(11, 1)}, {w(5, 1), w(11, 128), w(8, 0)},
		append([]uint64{w(7, 1), w(10, 65)}, make([]uint64, 65)...),
		append([]uint64{w(7, 1), w(10, 65)}, slices.Repeat([]uint64{8}, 65)...),
		append([]uint64{w(5, 1), w(11, 65)}, slices.Repeat([]uint64{8}, 65)...),
		append([]uint64{w(5, 1), w(11, 128*mostNumber+65)}, slices.Repeat([]uint64{8}, 65)...),
		{w(5, 1), w(11, 128*(mostNumber+1))},
		{w(7, 0)}, {w(7, 0), w(10, 0)}, {w(7, 2), w(10, 0)}, {w(7, 2), 8, w(10, 0)}, {w(9, 0), 8, 8}, {w(9, 2), 8, 8}, {w(7, mostNumber), w(10, 0)}, {w(7, mostNumber+1), w(10, 0)}, {w(7, 1<<59+1), w(10, 0)},
		// A part that names its own tuple, or one that is laid already, or one behind the next.
		{w(7, 1), w(10, 1), w(7, 1)},
		{w(7, 1), w(10, 2), w(7, 4), w(7, 4), w(10, 0)},
		{w(7, 1), w(10, 2), w(7, 5), w(7, 4), w(10, 0), w(10, 0)},
		{w(7, 1), w(10, 2), w(7, 4), w(7, 6), w(10, 0), w(10, 0)},
		{w(9, 1), w(8, 0), w(9, 1)},
		{w(9, 1), w(9, 3), w(9, 3), w(8, 0), w(8, 0)},
		// A part without a head, at the place of the next one.
		{w(7, 1), w(10, 2), w(7, 4), w(9, 4), 8, 8},
		{w(9, 1), w(5, 3), w(7, 3), w(10, 0)},
		{w(9, 1), w(7, 3), w(5, 3), w(11, 0)},
		// The second part is laid ahead of what is in the first one.
		{w(7, 1), w(10, 2), w(7, 4), w(7, 6), w(10, 1), w(7, 7), w(10, 0), w(10, 0)},
	} {
		wantNone(t, a, l, api.ErrBytes)
		for n := range 3 {
			wantPart(t, a, l, n, nil, api.ErrBytes)
		}
	}
	wantAtoms(t, a, "a")
}

// P7.2, P7.3: of all short lists of some words just those are read that a term has, and what is read has them.
func TestAllShortWords(t *testing.T) {
	a := table(t, "a")
	pieces := []uint64{0, 2, 18, w(1, 3), 8, w(10, 0), w(10, 1), w(10, 2), w(11, 129), w(11, 2), w(7, 1), w(7, 3), w(7, 4), w(9, 1), w(9, 3), w(5, 1), w(5, 3)}
	read := 0
	var all func(l []uint64, room int)
	all = func(l []uint64, room int) {
		x, e := flat.Read(a, l)
		if is := recognized(l, 1); is != (e == api.OK) || !is && e != api.ErrBytes {
			t.Errorf("Read(%v): %v", l, e)
		}
		if e == api.OK {
			read++
			wantFlatten(t, a, x, slices.Clone(l), api.OK)
		} else if !same(x, api.Term{}) {
			t.Errorf("Read(%v): a term beside an error", l)
		}
		if room == 0 {
			return
		}
		for _, p := range pieces {
			all(append(l, p), room-1)
		}
	}
	all(nil, 4)
	for _, first := range [][]uint64{{w(7, 1), w(10, 1)}, {w(9, 1), w(7, 3)}, {w(9, 1), w(9, 3)}, {w(5, 1), w(11, 129)}, {w(7, 1), w(10, 2)}} {
		all(slices.Clone(first), 4)
	}
	if read < 60 {
		t.Errorf("only %d lists were read", read)
	}
}

// draw tells numbers that look random, the same ones in each run.
type draw uint64

func (d *draw) below(n int) int {
	*d = *d*6364136223846793005 + 1442695040888963407
	return int(uint64(*d)>>33) % n
}

func (d *draw) parts(many, deep int) []api.Term {
	l := make([]api.Term, many)
	for i := range l {
		l[i] = d.term(deep - 1)
	}
	return l
}

// term draws a term, of at most so many in one another.
func (d *draw) term(deep int) api.Term {
	kind := d.below(9) + 1
	if deep == 0 && (kind == api.Tuple || kind == api.Cons || kind == api.Fun) {
		kind = api.Nil
	}
	switch kind {
	case api.Int:
		return num(d.below(1<<20) - 1<<19)
	case api.Atom:
		return atm(string(rune('a' + d.below(26))))
	case api.Nil:
		return null
	case api.Tuple:
		return tup(d.parts(d.below(5), deep)...)
	case api.Cons:
		return listTo(d.term(deep-1), d.parts(1+d.below(4), deep)...)
	case api.Fun:
		return fun(d.below(1000), d.parts(d.below(4), deep)...)
	}
	return api.Term{Kind: kind, N: d.below(mostNumber)}
}

// P7.1, P7.2, P7.3: drawn terms have the words that another way makes of them; read, they are as they were; each part of a tuple has the words that it has alone; a word that is changed, one more or one less is read just if they are a term's.
func TestDrawnTerms(t *testing.T) {
	d := draw(7)
	a, numbers := atom.New(), map[string]int{}
	for range 1500 {
		x := d.term(1 + d.below(5))
		words := model(numbers, x)
		wantWords(t, a, x, words...)
		if a.Len() != len(numbers) {
			t.Fatalf("%d atoms; want %d", a.Len(), len(numbers))
		}
		for n := range len(x.L) + 3 {
			if x.Kind != api.Tuple || n == 0 || n > len(x.L) {
				wantPart(t, a, words, n, nil, api.ErrArg)
				continue
			}
			wantPart(t, a, words, n, model(numbers, x.L[n-1]), api.OK)
		}
		changed(t, &d, a, words)
	}
}

// changed makes changes in words, and asks whether they are read.
func changed(t *testing.T, d *draw, a *atom.Table, words []uint64) {
	t.Helper()
	for range 6 {
		l := slices.Clone(words)
		at := d.below(len(l))
		switch d.below(6) {
		case 0:
			l[at]++
		case 1:
			l[at] += 16
		case 2:
			l[at] -= 16
		case 3:
			l = slices.Insert(l, at, l[d.below(len(l))])
		case 4:
			l = slices.Delete(l, at, at+1)
		case 5:
			l = append(l, l[at])
		}
		x, e := flat.Read(a, l)
		if recognized(l, a.Len()) {
			wantFlatten(t, a, x, l, e)
			continue
		}
		wantNone(t, a, l, api.ErrBytes)
		wantPart(t, a, l, 1, nil, api.ErrBytes)
	}
}

// P7.2: the parts of a tuple, from the first to the last, and numbers that are none; what is no tuple has no parts.
func TestParts(t *testing.T) {
	a := table(t, "a", "b")
	x := tup(list(num(1), tup(atm("b"))), fun(3, cons(num(1), num(2))), num(-7), tup(), atm("b"), null)
	words := model(map[string]int{"a": 0, "b": 1}, x)
	wantWords(t, a, x, words...)
	for n, want := range [][]uint64{
		{w(9, 1), w(1, 1), w(9, 3), w(7, 5), w(8, 0), w(10, 1), w(2, 1)},
		{w(5, 1), w(11, 3*128+1), w(9, 3), w(1, 1), w(1, 2)},
		{w(1, -7)},
		{w(7, 1), w(10, 0)},
		{w(2, 1)},
		{w(8, 0)},
	} {
		wantPart(t, a, words, n+1, want, api.OK)
	}
	for _, n := range []int{0, -1, -2, 7, 8, 64, 65, 1 << 32, 1<<32 + 1, -1<<32 + 1, math.MaxInt, math.MinInt} {
		wantPart(t, a, words, n, nil, api.ErrArg)
	}
	for _, y := range []api.Term{num(1), atm("a"), null, cons(num(1), num(2)), fun(2, num(1), num(2)), fun(2, tup(num(1))), list(tup(num(1))), {Kind: api.Pid, N: 2}} {
		words := model(map[string]int{"a": 0}, y)
		for n := -1; n < 4; n++ {
			wantPart(t, a, words, n, nil, api.ErrArg)
		}
	}
	wantPart(t, a, []uint64{w(7, 1), w(10, 0)}, 1, nil, api.ErrArg)
	wantPart(t, a, []uint64{w(7, 1), w(10, 0)}, 0, nil, api.ErrArg)
	many := tup(ints(mostParts)...)
	words = model(nil, many)
	for n := range mostParts {
		wantPart(t, a, words, n+1, []uint64{w(1, n)}, api.OK)
	}
	wantPart(t, a, words, mostParts+1, nil, api.ErrArg)
}

// P7.2, rule 3: a table that is full is read by and taken apart by, and reading puts no atom there.
func TestReadByFullTable(t *testing.T) {
	a := table(t, names(mostAtoms, 4)...)
	words := []uint64{w(7, 1), w(10, 2), w(2, mostAtoms-1), w(9, 4), w(2, 0), w(2, 17)}
	wantWords(t, a, tup(atm("4095"), cons(atm("0000"), atm("0017"))), words...)
	wantPart(t, a, words, 1, []uint64{w(2, mostAtoms-1)}, api.OK)
	wantPart(t, a, words, 2, []uint64{w(9, 1), w(2, 0), w(2, 17)}, api.OK)
	words[2] = w(2, mostAtoms)
	wantNone(t, a, words, api.ErrBytes)
	wantPart(t, a, words, 2, nil, api.ErrBytes)
}

// P7.2: a table's atoms alone say what a number is.
func TestOtherTable(t *testing.T) {
	x := tup(atm("a"), list(atm("b")))
	words, _ := flat.Flatten(table(t, "a", "b"), x)
	wantRead(t, table(t, "b", "c"), words, tup(atm("b"), list(atm("c"))), api.OK)
	b := table(t, "a")
	wantNone(t, b, words, api.ErrBytes)
	wantPart(t, b, words, 1, nil, api.ErrBytes)
	wantAtoms(t, b, "a")
	wantFlatten(t, b, x, words, api.OK)
	wantRead(t, b, words, x, api.OK)
}

// scribble writes over words, and over their spare room.
func scribble(l []uint64) {
	l = l[:cap(l)]
	for i := range l {
		l[i] = 0xdead
	}
}

// Rule 4: answers are new memory, with their spare room; what is handed in is not changed, and its spare room neither read nor written.
func TestMemory(t *testing.T) {
	a := table(t, "a", "b", "c")
	x := tup(atm("a"), list(atm("b"), tup()), fun(3, atm("c")))
	kept := term.Copy(x)
	first, _ := flat.Flatten(a, x)
	want := slices.Clone(first)
	again, _ := flat.Flatten(a, x)
	scribble(first)
	if !slices.Equal(again, want) || !same(x, kept) {
		t.Error("an answer shares memory with another, or with a term")
	}
	room := append(slices.Clone(want), 8, 8, 8)
	short := room[:len(want)]
	y, _ := flat.Read(a, short)
	z, _ := flat.Read(a, short)
	wantNone(t, a, short[:len(short)-1], api.ErrBytes)
	p, _ := flat.Part(a, short, 2)
	scribble(p)
	if !slices.Equal(room, append(slices.Clone(want), 8, 8, 8)) {
		t.Error("what was handed in was changed")
	}
	scribble(room)
	if !same(y, x) || !same(z, x) {
		t.Error("a term hangs on the words that it was read from")
	}
	name, _ := a.Name(0)
	if unsafe.StringData(y.L[0].S) == unsafe.StringData(z.L[0].S) || unsafe.StringData(y.L[0].S) == unsafe.StringData(name) {
		t.Error("two answers share a text")
	}
	y.L[1].L[0] = num(1)
	for _, l := range [][]api.Term{y.L, y.L[1].L, y.L[2].L} {
		for i := range l[:cap(l)] {
			l[:cap(l)][i] = num(9)
		}
	}
	if !same(z, x) {
		t.Error("two answers share a list")
	}
}

// Rule 4: lists of a term's parts have no room that reaches into one another.
func TestSpareRoom(t *testing.T) {
	a := atom.New()
	words := model(nil, tup(tup(num(1)), tup(num(2)), list(num(3))))
	x, _ := flat.Read(a, words)
	want := term.Copy(x)
	for _, l := range [][]api.Term{x.L, x.L[0].L, x.L[1].L, x.L[2].L} {
		l = l[len(l):cap(l)]
		for i := range l {
			l[i] = num(9)
		}
	}
	if !same(x, want) {
		t.Error("a list's spare room is another's")
	}
}

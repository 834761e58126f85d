package store_test

import (
	"fmt"
	"math"
	"slices"
	"strconv"
	"strings"
	"testing"

	"tenure/api"
	"tenure/arena"
	"tenure/atom"
	"tenure/hash"
	"tenure/store"
	"tenure/term"
)

// Terms are written here field by field, so that no other layer is held against itself.
func num(n int) api.Term                  { return api.Term{Kind: 1, N: n} }
func name(s string) api.Term              { return api.Term{Kind: 2, S: s} }
func tuple(l ...api.Term) api.Term        { return api.Term{Kind: 7, L: l} }
func fun(n int, l ...api.Term) api.Term   { return api.Term{Kind: 5, N: n, L: l} }
func cons(head, tail api.Term) api.Term   { return api.Term{Kind: 9, L: []api.Term{head, tail}} }
func of(kind int, l ...api.Term) api.Term { return api.Term{Kind: kind, L: l} }

var null = api.Term{Kind: 8}

func list(l ...api.Term) api.Term {
	t := null
	for _, head := range slices.Backward(l) {
		t = cons(head, t)
	}
	return t
}

// ones is a list of so many words, less one.
func ones(words int) api.Term { return list(slices.Repeat([]api.Term{num(1)}, words/2)...) }

// at is an object with a key at a position, and others about it.
func at(position int, key api.Term, rest ...api.Term) api.Term {
	l := slices.Repeat([]api.Term{num(0)}, position-1)
	return tuple(slices.Concat(l, []api.Term{key}, rest)...)
}

var kinds = []int{1, 2, 3, 4}

// few tells whether a number is at most 2 log2(n + 1) + 2, as the chapter says it of comparisons, without logarithms.
func few(number, n int) bool {
	return number <= 2 || number < 60 && (n+1)*(n+1) >= 1<<(number-2)
}

// keys are keys of all kinds of terms, no two the same; those from 3 to 6 have the same hashes, two by two.
func keys() []api.Term {
	return []api.Term{
		num(0), num(1), num(2), name("slayihc"), num(9096095670779), name("gooiisb"), name("csdxwfc"), num(-1), num(1<<59 - 1), num(-1 << 59),
		name(""), name("a"), name("b"), name(strings.Repeat("x", 64)), name("\x00"),
		{Kind: 3, N: 1}, {Kind: 4, N: 1}, {Kind: 6, N: 1}, {Kind: 6, N: 1 << 30},
		fun(1), fun(1, num(1)), tuple(), tuple(num(1)), tuple(name("a"), num(1)), null, list(num(1)), list(num(1), num(2)), cons(num(1), num(2)),
	}
}

// wrong are terms that may not be.
func wrong() []api.Term {
	return []api.Term{
		{}, {Kind: 10}, {Kind: -1}, {Kind: 1<<32 + 7}, num(1 << 59), num(-1<<59 - 1), {Kind: 1, S: "a"}, {Kind: 2, N: 1}, name(strings.Repeat("x", 65)),
		{Kind: 3, N: -1}, {Kind: 6, N: 1<<30 + 1}, fun(-1), of(9, num(1)), of(8, num(1)), tuple(num(1), num(1<<59)), tuple(num(1), of(9)), list(num(1), api.Term{}),
		{Kind: 7, N: 1, L: []api.Term{num(1)}}, tuple(slices.Repeat([]api.Term{num(1)}, 65)...), ones(65538), tuple(num(1), ones(65534)),
	}
}

// P14.1 to P14.5: the chapter's examples.
func TestExamples(t *testing.T) {
	a, b := name("a"), name("b")
	p := newPair(t, 200, 1, 1, []api.Term{a, b, name("c")})
	p.same("Need", p.s.Need(), 32)
	p.same("Insert", p.s.Insert([]api.Term{tuple(a, num(1)), tuple(b, num(2))}), api.OK)
	p.same("Need", p.s.Need(), 48)
	l, e := p.s.Lookup(a)
	p.same("Lookup", []any{l, e}, []any{[]api.Term{tuple(a, num(1))}, api.OK})
	p.same("Insert", p.s.Insert([]api.Term{tuple(a, num(7))}), api.OK)
	p.same("Size, Need", []int{p.s.Size(), p.s.Need()}, []int{2, 48})
	for _, x := range []struct {
		key   api.Term
		c     api.Change
		ok    bool
		errno api.Errno
	}{{b, api.Change{Position: 2, T: name("x")}, true, api.OK}, {name("c"), api.Change{Position: 2, T: name("x")}, false, api.OK}, {b, api.Change{Position: 1, T: name("x")}, false, api.ErrBadarg}} {
		ok, e := p.s.Update(x.key, []api.Change{x.c})
		p.same("Update", []any{ok, e}, []any{x.ok, x.errno})
	}
	n, e := p.s.Count(a, []api.Step{{Position: 2, Add: 3}})
	p.same("Count", []any{n, e}, []any{[]int{10}, api.OK})
	n, e = p.s.Count(a, []api.Step{{Position: 2, Add: 3, Capped: true, Cap: 12}})
	p.same("Count", []any{n, e}, []any{[]int{0}, api.OK})
	n, e = p.s.Count(b, []api.Step{{Position: 2, Add: 1}})
	p.same("Count", []any{n, e}, []any{[]int{}, api.ErrBadarg})
	p.same("Fix", p.s.Fix(9), api.OK)
	many, e := p.s.Delete(a)
	p.same("Delete", []any{many, e}, []any{1, api.OK})
	p.same("Hidden, Need", []int{p.s.Hidden(), p.s.Need()}, []int{1, 48})
	p.same("Release", p.s.Release(9), api.OK)
	p.same("Hidden, Need", []int{p.s.Hidden(), p.s.Need()}, []int{0, 40})
}

// wantNew asks for what New answers, and that it takes nothing of the arena if it is refused.
func wantNew(t *testing.T, r *arena.Arena, a *atom.Table, kind, position int, want api.Errno) {
	t.Helper()
	used := r.Used()
	s, e := store.New(r, a, kind, position)
	if e != want || (s == nil) != (want != api.OK) {
		t.Errorf("New(%d, %d): %v; want %v", kind, position, e, want)
	}
	if want != api.OK && r.Used() != used {
		t.Errorf("New(%d, %d), %v: %d words in use; were %d", kind, position, e, r.Used(), used)
	}
	if want == api.OK && (s.Kind() != kind || s.Position() != position || s.Close() != api.OK || r.Used() != used) {
		t.Errorf("New(%d, %d), and Close: %d words in use; were %d", kind, position, r.Used(), used)
	}
}

// P14.1: New, its errors in their order, and arenas that have just the words that are needed.
func TestNew(t *testing.T) {
	r, _ := arena.New(100)
	full, _ := arena.New(2)
	full.Take([]uint64{1})
	a := atom.New()
	twoArenas, twoTables := *r, *a
	for _, r := range []*arena.Arena{nil, {}, &twoArenas} {
		wantNew(t, r, a, 1, 1, api.ErrNil)
		wantNew(t, r, a, 0, 0, api.ErrNil)
		wantNew(t, r, nil, 1, 1, api.ErrNil)
	}
	for _, a := range []*atom.Table{nil, {}, &twoTables} {
		wantNew(t, r, a, 1, 1, api.ErrNil)
		wantNew(t, full, a, 5, 65, api.ErrNil)
	}
	for _, kind := range kinds {
		for _, position := range []int{1, 2, 63, 64} {
			wantNew(t, r, a, kind, position, api.OK)
		}
		for _, position := range []int{0, -1, 65, 1<<32 + 1, math.MinInt, math.MaxInt} {
			wantNew(t, r, a, kind, position, api.ErrArg)
			wantNew(t, full, a, kind, position, api.ErrArg)
		}
	}
	for _, kind := range []int{0, -1, 5, 7, 1<<32 + 1, math.MinInt, math.MaxInt} {
		wantNew(t, r, a, kind, 1, api.ErrArg)
		wantNew(t, full, a, kind, 64, api.ErrArg)
	}
	for kind, words := range map[int]int{1: 32, 2: 16, 3: 32, 4: 32} {
		for left, want := range map[int]api.Errno{words: api.OK, words + 1: api.OK, words - 1: api.ErrLimit, 1: api.ErrLimit} {
			just, _ := arena.New(left)
			wantNew(t, just, a, kind, 1, want)
			partly, _ := arena.New(left + 12)
			partly.Take(make([]uint64, 12))
			wantNew(t, partly, a, kind, 1, want)
		}
		wantNew(t, full, a, kind, 1, api.ErrLimit)
	}
	if a.Len() != 0 {
		t.Error("atoms:", a.All())
	}
}

// calls are all calls, and what they tell of objects that there may be.
func calls(s *store.Store) map[string][]any {
	key, object, one := name("a"), []api.Term{tuple(name("a"), num(1))}, func(l ...any) []any { return l }
	m := map[string][]any{}
	tell := func(what string, l []any) { m[what] = l }
	tell("Insert", one(s.Insert(object)))
	ok, e := s.InsertNew(object)
	tell("InsertNew", one(ok, e))
	l, e := s.Lookup(key)
	tell("Lookup", one(len(l), e))
	ok, e = s.Member(key)
	tell("Member", one(ok, e))
	words, e := s.Words(key)
	tell("Words", one(len(words), e))
	numbers, e := s.Numbers(key)
	tell("Numbers", one(len(numbers), e))
	n, e := s.Delete(key)
	tell("Delete", one(n, e))
	n, e = s.DeleteObject(object[0])
	tell("DeleteObject", one(n, e))
	n, e = s.Clear()
	tell("Clear", one(n, e))
	ok, e = s.Update(key, []api.Change{{Position: 2, T: key}})
	tell("Update", one(ok, e))
	numbers, e = s.Count(key, []api.Step{{Position: 2, Add: 1}})
	tell("Count", one(len(numbers), e))
	tell("Fix", one(s.Fix(1)))
	tell("Release", one(s.Release(1)))
	tell("Leave", one(s.Leave(1)))
	l, e = s.Keys(0)
	tell("Keys", one(len(l), e))
	n, e = s.Bucket(key)
	tell("Bucket", one(n, e))
	for what, call := range map[string]func() (api.Term, bool, api.Errno){
		"Next": func() (api.Term, bool, api.Errno) { return s.Next(key) }, "Prev": func() (api.Term, bool, api.Errno) { return s.Prev(key) }, "First": s.First, "Last": s.Last,
	} {
		near, ok, e := call()
		tell(what, one(near, ok, e))
	}
	tell("all else", one(s.Fixed(), len(s.Holders()), len(s.Objects()), s.Size(), s.Hidden(), s.Need(), s.Buckets(), s.Kind(), s.Position(), s.Compared()))
	return m
}

// wantNone asks that all calls tell of none, wrong arguments or not.
func wantNone(t *testing.T, what string, s *store.Store) {
	t.Helper()
	zero, none := api.Term{}, api.ErrNil
	want := map[string]string{"Insert": fmt.Sprint(none), "Fix": fmt.Sprint(none), "Release": fmt.Sprint(none), "Leave": fmt.Sprint(none), "all else": "false 0 0 0 0 0 0 0 0 0"}
	for _, call := range []string{"InsertNew", "Member", "Update"} {
		want[call] = fmt.Sprint(false, none)
	}
	for _, call := range []string{"Lookup", "Words", "Numbers", "Delete", "DeleteObject", "Clear", "Count", "Keys", "Bucket"} {
		want[call] = fmt.Sprint(0, none)
	}
	for _, call := range []string{"Next", "Prev", "First", "Last"} {
		want[call] = fmt.Sprint(zero, false, none)
	}
	for call, told := range calls(s) {
		if got := strings.TrimSuffix(fmt.Sprintln(told...), "\n"); got != strings.TrimSuffix(fmt.Sprintln(want[call]), "\n") {
			t.Errorf("%s, %s: %s; want %s", what, call, got, want[call])
		}
	}
	long := make([]api.Term, 257)
	for i, e := range []api.Errno{s.Insert(long), s.Fix(-1), s.Release(-1), s.Leave(-1), s.Close()} {
		if e != none {
			t.Errorf("%s, wrong call %d: %v", what, i, e)
		}
	}
	_, e1 := s.InsertNew(long)
	_, e2 := s.Lookup(zero)
	_, e3 := s.Member(zero)
	_, e4 := s.Words(zero)
	_, e5 := s.Numbers(zero)
	_, e6 := s.Delete(zero)
	_, e7 := s.DeleteObject(zero)
	_, e8 := s.Update(zero, nil)
	_, e9 := s.Count(zero, nil)
	_, e10 := s.Keys(-1)
	_, e11 := s.Bucket(zero)
	_, _, e12 := s.Next(zero)
	_, _, e13 := s.Prev(zero)
	for i, e := range []api.Errno{e1, e2, e3, e4, e5, e6, e7, e8, e9, e10, e11, e12, e13} {
		if e != none {
			t.Errorf("%s, wrong call %d of those that tell more: %v", what, i+1, e)
		}
	}
}

// P14.1 to P14.7: stores that New did not answer, and that were closed, are none; nothing that is another one's is changed by them.
func TestNone(t *testing.T) {
	wantNone(t, "nil", nil)
	wantNone(t, "a zero store", &store.Store{})
	for _, kind := range kinds {
		p := newPair(t, 500, kind, 1, keys())
		p.insert(false, tuple(name("a"), num(1)), tuple(name("b"), num(1)))
		p.fix(7)
		p.delete(name("b"))
		other := *p.s
		wantNone(t, "a copy of a store", &other)
		p.holds()
		open, e := store.New(p.r, p.a, kind, 1)
		p.same("New", e, api.OK)
		p.same("Insert", open.Insert([]api.Term{tuple(name("a"), num(1))}), api.OK)
		used := p.r.Used()
		words := p.s.Need()
		p.same("Close", p.s.Close(), api.OK)
		p.same("Used behind Close", p.r.Used(), used-words)
		wantNone(t, "a closed store", p.s)
		wantNone(t, "a copy of a store that is closed", &other)
		l, e := open.Lookup(name("a"))
		p.same("Lookup in another one", []any{l, e}, []any{[]api.Term{tuple(name("a"), num(1))}, api.OK})
		p.same("Used, Close, Used", []any{p.r.Used(), open.Close(), p.r.Used(), len(p.r.Blocks())}, []any{used - words, api.OK, 0, 0})
	}
}

// P14.1: Close drops all blocks, of many buckets, of objects that are hidden, and of none; others' blocks stay.
func TestClose(t *testing.T) {
	for _, kind := range kinds {
		for _, many := range []int{0, 1, 40, 100} {
			p := newPair(t, 5000, kind, 1, nil)
			p.borrow(5)
			for i := range many {
				p.insert(false, tuple(num(i), name("x")))
			}
			p.fix(1)
			p.fix(1)
			for i := range many / 2 {
				p.delete(num(2 * i))
				p.insert(false, tuple(num(2*i), num(1)))
			}
			p.holds()
			p.same("Close", p.s.Close(), api.OK)
			p.same("Blocks, Used", []any{p.r.Blocks(), p.r.Used()}, []any{p.others, 6})
			p.same("Close", p.s.Close(), api.ErrNil)
		}
	}
}

// P14.2: what is no object, wherever it stands, is refused ahead of what Flatten refuses, and too many ahead of that.
func TestWrongObjects(t *testing.T) {
	for _, kind := range kinds {
		for _, position := range []int{1, 2, 64} {
			p := newPair(t, 2000, kind, position, nil)
			good := at(position, num(1))
			p.insert(false, good)
			bad := append(wrong(), num(1), name("a"), null, cons(num(1), num(2)), fun(1, slices.Repeat([]api.Term{num(1)}, 64)...), tuple(slices.Repeat([]api.Term{num(1)}, position-1)...))
			for _, x := range bad {
				for _, l := range [][]api.Term{{x}, {good, x}, {at(position, name("new")), x, good}} {
					p.same("Insert of no object", p.s.Insert(l), api.ErrBadarg)
					ok, e := p.s.InsertNew(l)
					p.same("InsertNew of no object", []any{ok, e}, []any{false, api.ErrBadarg})
				}
				l := make([]api.Term, 257)
				l[3] = x
				p.same("Insert of 257", p.s.Insert(l), api.ErrLong)
				ok, e := p.s.InsertNew(l)
				p.same("InsertNew of 257", []any{ok, e}, []any{false, api.ErrLong})
			}
			p.same("atoms", p.a.Len(), 0)
			p.holds()
		}
	}
}

// P14.2: objects of 65,536 words, and of 64 elements with the key at the last place.
func TestWideObjects(t *testing.T) {
	wide := slices.Repeat([]api.Term{name("w")}, 64)
	for _, kind := range kinds {
		p := newPair(t, 1<<18, kind, 64, []api.Term{name("w"), ones(65470)})
		p.insert(false, tuple(wide...))
		long := tuple(slices.Concat(wide[:63], []api.Term{ones(65470)})...)
		if n := term.Words(long); n != 65536 {
			t.Fatal("words:", n)
		}
		p.insert(false, long)
		p.insert(false, long)
		p.holds()
		p.delete(ones(65470))
		p.same("Size", p.s.Size(), 1)
	}
}

// P14.2: up to 256 objects at once.
func TestMany(t *testing.T) {
	for _, kind := range kinds {
		for many, want := range map[int]api.Errno{0: api.OK, 1: api.OK, 255: api.OK, 256: api.OK, 257: api.ErrLong, 1000: api.ErrLong} {
			p := newPair(t, 10000, kind, 1, nil)
			l := make([]api.Term, many)
			for i := range l {
				l[i] = tuple(num(i % 200))
			}
			ok, e := p.s.InsertNew(l)
			p.same("InsertNew of "+strconv.Itoa(many), []any{ok, e}, []any{want == api.OK, want})
			if want == api.OK {
				for _, x := range l {
					p.m.put(x)
				}
			}
			p.holds()
			if e := p.s.Insert(l); e != want {
				t.Error("Insert of", many, e)
			}
		}
	}
}

// fill gives a table so many atoms, of its own.
func fill(a *atom.Table, many int) {
	for i := a.Len(); i < many; i++ {
		a.Intern("fill" + strconv.Itoa(i))
	}
}

// P14.2: what Flatten refuses is told behind all that are no objects, and ahead of want of words; atoms that were met have their numbers then.
func TestFullAtoms(t *testing.T) {
	for _, kind := range kinds {
		p := newPair(t, 300, kind, 1, keys()[:3])
		p.insert(false, tuple(num(1), name("a")))
		fill(p.a, api.MaxAtoms-1)
		l := []api.Term{tuple(num(2), name("a"), ones(900)), tuple(num(1), name("b"), name("c")), tuple(num(3), name("d"))}
		p.same("Insert", p.s.Insert(append(l, num(1))), api.ErrBadarg)
		p.same("atoms", p.a.Len(), api.MaxAtoms-1)
		p.same("Insert", p.s.Insert(l), api.ErrFull)
		n, there := p.a.Find("b")
		p.same("b", []any{n, there}, []any{api.MaxAtoms - 1, true})
		ok, e := p.s.InsertNew(l)
		p.same("InsertNew", []any{ok, e}, []any{false, api.ErrFull})
		ok, e = p.s.InsertNew([]api.Term{tuple(num(1), name("b")), tuple(num(2), name("c"))})
		p.same("InsertNew of a key that is there", []any{ok, e}, []any{false, api.ErrFull})
		p.holds()
		p.insert(false, tuple(num(1), name("b")))
		p.insert(false, tuple(name("b"), name("a")))
		p.holds()
	}
}

// P14.2: atoms have their numbers, whatever is answered, but where there is no object.
func TestMetAtoms(t *testing.T) {
	for _, kind := range kinds {
		p := newPair(t, 60, kind, 1, nil)
		p.same("Insert", p.s.Insert([]api.Term{tuple(name("x"), name("y")), num(1)}), api.ErrBadarg)
		p.same("atoms", p.a.Len(), 0)
		p.same("Insert", p.s.Insert([]api.Term{tuple(name("x"), name("y"), ones(200)), tuple(name("z"))}), api.ErrLimit)
		p.same("atoms", p.a.All(), []string{"x", "y", "z"})
		p.insert(false, tuple(num(1)))
		ok, e := p.s.InsertNew([]api.Term{tuple(name("v")), tuple(num(1), name("w"))})
		p.same("InsertNew", []any{ok, e}, []any{false, api.OK})
		p.same("atoms", p.a.All(), []string{"x", "y", "z", "v", "w"})
		p.s.Lookup(name("k"))
		p.s.Member(name("k"))
		p.s.Words(name("k"))
		p.s.Numbers(name("k"))
		p.s.Delete(name("k"))
		p.s.DeleteObject(tuple(num(1), name("k")))
		p.s.DeleteObject(name("k"))
		p.s.Bucket(name("k"))
		p.s.Next(name("k"))
		p.s.Update(name("k"), []api.Change{{Position: 2, T: name("k")}})
		p.s.Count(name("k"), []api.Step{{Position: 2, Add: 1}})
		p.same("atoms", p.a.Len(), 5)
		p.holds()
	}
}

// just asks that a call is refused where one word fewer is left than it needs, and done where just as many are; nothing is changed by the refused one.
func (p *pair) just(needed int, call func()) {
	p.t.Helper()
	few := []int{0, needed / 2, max(needed-1, 0), needed}
	for _, words := range slices.Compact(few) {
		p.leaveWords(words)
		blocks, numbers := p.r.Blocks(), p.m.last
		call()
		if words < needed {
			p.same("the blocks behind a call that was refused", p.r.Blocks(), blocks)
			p.same("the number that was given last", p.m.last, numbers)
		}
		p.holds()
	}
	for len(p.others) > 0 {
		p.giveBack()
	}
}

// P14.2, P14.8: arenas that have just the words that are needed, and one fewer: for one object, for some that take each other's place or are not put at all, and for the bucket that is wanted.
func TestJustEnough(t *testing.T) {
	x, y := tuple(num(1), name("a")), tuple(num(1), name("b"), num(2))
	for _, kind := range kinds {
		node, again := 4, 0
		switch kind {
		case 1:
			again = 4
		case 2:
			node, again = 6, 4
		case 4:
			again = 8
		}
		for _, fresh := range []bool{false, true} {
			p := newPair(t, 1000, kind, 1, keys()[:4])
			p.just(4+node, func() { p.insert(fresh, x) })
			if !fresh {
				// What is not put at all needs nothing, and what takes a place all of its words.
				p.just(again, func() { p.insert(false, x) })
				p.just(map[int]int{1: 6, 2: 6, 3: 10, 4: 10}[kind], func() { p.insert(false, y) })
			}
			p.clear()
			if kind == 1 || kind == 2 {
				p.just(4+node+6+4, func() { p.insert(fresh, x, y, x) })
			}
			if kind == 3 {
				p.just(4+node+6+node, func() { p.insert(fresh, x, x, y, x, y) })
			}
			if kind == 4 {
				p.just(2*(4+node)+6+node, func() { p.insert(fresh, x, y, x) })
			}
		}
	}
}

// P14.2: the bucket that is wanted may need words, behind some objects of the very call, too; of a store that is fixed it is not wanted.
func TestJustEnoughForBuckets(t *testing.T) {
	object := func(i int) api.Term { return tuple(num(i)) }
	for _, kind := range kinds {
		node, room, words := 4, 16, 3
		if kind == 2 {
			node, room = 6, 0
		}
		grown := func(many int) *pair {
			p := newPair(t, 4000, kind, 1, keys()[:2])
			for i := range many {
				p.insert(false, object(i))
			}
			return p
		}
		p := grown(32)
		p.just(words+node+room, func() { p.insert(false, object(32)) })
		p = grown(31)
		p.just(2*(words+node)+room, func() { p.insert(true, object(31), object(32)) })
		p = grown(33)
		p.just(31*(words+node), func() {
			var l []api.Term
			for i := range 31 {
				l = append(l, object(33+i))
			}
			p.insert(false, l...)
		})
		p.just(40*(words+node)+2*room, func() {
			var l []api.Term
			for i := range 40 {
				l = append(l, object(64+i))
			}
			p.insert(false, l...)
		})
		p = grown(32)
		p.fix(1)
		p.just(3*(words+node), func() { p.insert(false, object(32), object(33), object(34)) })
		// Each object that is put then makes one bucket more, as long as they are wanted.
		p.leaveWords(0)
		p.release(1)
		p.holds()
		p.just(words+node+room, func() { p.insert(false, object(35)) })
		p.just(2*(words+node), func() { p.insert(false, object(36), object(37)) })
	}
}

// P14.2, P14.3: keys that have the same hash are two keys.
func TestOneHash(t *testing.T) {
	two := keys()[3:7]
	if hash.Hash(two[0]) != hash.Hash(two[1]) || hash.Hash(two[2]) != hash.Hash(two[3]) {
		t.Fatal("the hashes are not the same")
	}
	for _, kind := range kinds {
		p := newPair(t, 1000, kind, 1, two)
		for i, key := range two {
			p.insert(true, tuple(key, num(i)))
			p.holds()
			p.insert(false, tuple(key, num(i+1)), tuple(key, num(i)))
			p.holds()
		}
		p.deleteObject(tuple(two[0], num(1)))
		p.update(two[1], api.Change{Position: 2, T: num(8)})
		p.count(two[3], api.Step{Position: 2, Add: 1})
		p.holds()
		p.fix(1)
		p.delete(two[2])
		p.holds()
		p.delete(two[1])
		p.insert(true, tuple(two[1]), tuple(two[2]))
		p.release(1)
		p.delete(two[0])
		p.holds()
	}
}

// P14.2: InsertNew puts nothing if a key is there, though there be no words; of one key several may be new.
func TestInsertNew(t *testing.T) {
	a, b := name("a"), name("b")
	for _, kind := range kinds {
		p := newPair(t, 300, kind, 1, keys())
		p.insert(true)
		p.insert(true, tuple(a, num(1)), tuple(a, num(2)), tuple(a, num(1)))
		p.holds()
		p.insert(true, tuple(b), tuple(a, num(1)))
		p.insert(true, tuple(b), tuple(a, num(3), ones(1000)))
		p.insert(true, tuple(b, ones(1000)))
		p.holds()
		p.fix(1)
		p.delete(a)
		p.holds()
		p.insert(true, tuple(b), tuple(a, num(4)))
		p.insert(true, tuple(a, num(4)))
		p.holds()
		p.delete(b)
		p.release(1)
		p.holds()
	}
}

// P1: no call panics, though others let go, or change, the blocks of a store, or its arena and its atoms be none any more.
func TestCalm(t *testing.T) {
	for _, kind := range kinds {
		for _, harm := range []func(p *pair){
			func(p *pair) {
				for _, block := range p.r.Blocks() {
					p.r.Drop(block)
				}
			},
			func(p *pair) {
				for _, block := range p.r.Blocks() {
					l, _ := p.r.Get(block)
					p.r.Set(block, make([]uint64, len(l)))
				}
			},
			func(p *pair) { *p.r = arena.Arena{} },
			func(p *pair) { *p.a = atom.Table{} },
		} {
			for _, fixed := range []bool{false, true} {
				p := newPair(t, 1000, kind, 1, nil)
				p.insert(false, tuple(name("a"), num(1)), tuple(name("b"), num(1)))
				p.grow(0, 40)
				if fixed {
					p.fix(1)
					p.delete(num(7))
				}
				harm(p)
				calls(p.s)
				calls(p.s)
				p.s.Objects()
				p.s.Clear()
				p.s.Close()
				wantNone(t, "a closed store", p.s)
			}
		}
	}
}

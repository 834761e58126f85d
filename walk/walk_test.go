package walk_test

import (
	"fmt"
	"reflect"
	"slices"
	"strings"
	"testing"

	"tenure/api"
	"tenure/arena"
	"tenure/atom"
	"tenure/hash"
	"tenure/order"
	"tenure/store"
	"tenure/term"
	"tenure/walk"
)

// Terms are written here field by field, so that no other layer is held against itself.
func num(n int) api.Term                  { return api.Term{Kind: 1, N: n} }
func name(s string) api.Term              { return api.Term{Kind: 2, S: s} }
func tuple(l ...api.Term) api.Term        { return api.Term{Kind: 7, L: l} }
func fun(n int, l ...api.Term) api.Term   { return api.Term{Kind: 5, N: n, L: l} }
func cons(head, tail api.Term) api.Term   { return api.Term{Kind: 9, L: []api.Term{head, tail}} }
func of(kind int, l ...api.Term) api.Term { return api.Term{Kind: kind, L: l} }

var null = api.Term{Kind: 8}

func list(l ...api.Term) api.Term {
	t := null
	for _, head := range slices.Backward(l) {
		t = cons(head, t)
	}
	return t
}

// ones is a list of so many words, less one.
func ones(words int) api.Term { return list(slices.Repeat([]api.Term{num(1)}, words/2)...) }

// at is an object with a key at a position, and others about it.
func at(position int, key api.Term, rest ...api.Term) api.Term {
	l := slices.Repeat([]api.Term{num(0)}, position-1)
	return tuple(slices.Concat(l, []api.Term{key}, rest)...)
}

var kinds = []int{1, 2, 3, 4}

// hashed are the kinds that have buckets.
var hashed = []int{1, 3, 4}

// keys are keys of all kinds of terms, no two the same; those from 3 to 6 have the same hashes, two by two.
func keys() []api.Term {
	return []api.Term{
		num(0), num(1), num(2), name("slayihc"), num(9096095670779), name("gooiisb"), name("csdxwfc"), num(-1), num(1<<59 - 1), num(-1 << 59),
		name(""), name("a"), name("b"), name(strings.Repeat("x", 64)), name("\x00"),
		{Kind: 3, N: 1}, {Kind: 4, N: 1}, {Kind: 6, N: 1}, {Kind: 6, N: 1 << 30},
		fun(1), fun(1, num(1)), tuple(), tuple(num(1)), tuple(name("a"), num(1)), null, list(num(1)), list(num(1), num(2)), cons(num(1), num(2)),
	}
}

// wrong are terms that may not be.
func wrong() []api.Term {
	return []api.Term{
		{}, {Kind: 10}, {Kind: -1}, {Kind: 1<<32 + 7}, num(1 << 59), num(-1<<59 - 1), {Kind: 1, S: "a"}, {Kind: 2, N: 1}, name(strings.Repeat("x", 65)),
		{Kind: 3, N: -1}, {Kind: 6, N: 1<<30 + 1}, fun(-1), of(9, num(1)), of(8, num(1)), tuple(num(1), num(1<<59)), tuple(num(1), of(9)), list(num(1), api.Term{}),
		{Kind: 7, N: 1, L: []api.Term{num(1)}}, tuple(slices.Repeat([]api.Term{num(1)}, 65)...), ones(65538), tuple(num(1), ones(65534)),
	}
}

// same asks that two things are alike as they are shown: nil and empty lists are.
func same(t *testing.T, what string, got, want any) {
	t.Helper()
	if reflect.DeepEqual(got, want) {
		return
	}
	if g, w := fmt.Sprint(got), fmt.Sprint(want); g != w {
		t.Errorf("%s: %s; want %s", what, g[:min(len(g), 300)], w[:min(len(w), 300)])
	}
}

// box is a store, with all that it stands on.
type box struct {
	t *testing.T
	r *arena.Arena
	a *atom.Table
	s *store.Store
}

func newBox(t *testing.T, words, kind, position int) *box {
	t.Helper()
	r, _ := arena.New(words)
	b := &box{t: t, r: r, a: atom.New()}
	var e api.Errno
	if b.s, e = store.New(b.r, b.a, kind, position); e != api.OK {
		t.Fatal("New:", e)
	}
	return b
}

// put and away ask that all is well.
func (b *box) put(l ...api.Term) {
	b.t.Helper()
	same(b.t, "Insert", b.s.Insert(l), api.OK)
}

func (b *box) away(key api.Term, want int) {
	b.t.Helper()
	n, e := b.s.Delete(key)
	same(b.t, "Delete", []any{n, e}, []any{want, api.OK})
}

// object is an object of the store, with a key.
func (b *box) object(key api.Term, rest ...api.Term) api.Term {
	return at(b.s.Position(), key, rest...)
}

// state is all that a store, its arena and its atoms tell, but how many comparisons there were.
func (b *box) state() []any {
	s := b.s
	l := []any{s.Objects(), s.Size(), s.Hidden(), s.Need(), s.Buckets(), s.Kind(), s.Position(), s.Fixed(), s.Holders(), b.r.Left(), b.r.Used(), b.r.Blocks(), b.a.All()}
	for bucket := range s.Buckets() {
		keys, _ := s.Keys(bucket)
		l = append(l, keys)
		for _, key := range keys {
			numbers, _ := s.Numbers(key)
			l = append(l, numbers)
		}
	}
	return l
}

// none is what is told where there is no key, or an error.
func none(e api.Errno) []any { return []any{api.Term{}, false, e} }

func key(t api.Term) []any { return []any{t, true, api.OK} }

// call is one of the calls that tell a key.
type call func(*store.Store, api.Term) (api.Term, bool, api.Errno)

func first(s *store.Store, _ api.Term) (api.Term, bool, api.Errno) { return walk.First(s) }
func last(s *store.Store, _ api.Term) (api.Term, bool, api.Errno)  { return walk.Last(s) }

// want asks for what a call tells.
func (b *box) want(what string, f call, asked api.Term, want []any) {
	b.t.Helper()
	near, there, e := f(b.s, asked)
	same(b.t, fmt.Sprintf("kind %d at %d: %s %v", b.s.Kind(), b.s.Position(), what, asked), []any{near, there, e}, want)
}

// has tells whether a key is among others.
func has(l []api.Term, key api.Term) bool {
	return slices.ContainsFunc(l, func(k api.Term) bool { return term.Same(k, key) })
}

// firstOf tells the first one of a list that is among others.
func firstOf(l, among []api.Term) []any {
	for _, k := range l {
		if has(among, k) {
			return key(k)
		}
	}
	return none(api.OK)
}

// wantWalk asks a hashed store for all, all its keys in the walk's order being known, which of them are met, and some that are not there.
func (b *box) wantWalk(all, met, others []api.Term) {
	b.t.Helper()
	b.want("First", first, api.Term{}, firstOf(all, met))
	b.want("Last", last, api.Term{}, firstOf(all, met))
	var l []api.Term
	for i, k := range all {
		b.want("Next", walk.Next, k, firstOf(all[i+1:], met))
		b.want("Prev", walk.Prev, k, firstOf(all[i+1:], met))
		if has(met, k) {
			l = append(l, k)
		}
	}
	b.wantKeys(l)
	for _, k := range others {
		if !has(all, k) {
			b.want("Next", walk.Next, k, none(api.ErrBadarg))
			b.want("Prev", walk.Prev, k, none(api.ErrBadarg))
		}
	}
}

// wantRising asks an ordered store for all, its keys being known in their order, and some that are not there.
func (b *box) wantRising(all, others []api.Term) {
	b.t.Helper()
	down := slices.Clone(all)
	slices.Reverse(down)
	b.want("First", first, api.Term{}, firstOf(all, all))
	b.want("Last", last, api.Term{}, firstOf(down, down))
	b.wantKeys(all)
	for _, k := range slices.Concat(all, others) {
		higher := slices.DeleteFunc(slices.Clone(all), func(x api.Term) bool { return order.Compare(x, k) <= 0 })
		lower := slices.DeleteFunc(slices.Clone(down), func(x api.Term) bool { return order.Compare(x, k) >= 0 })
		b.want("Next", walk.Next, k, firstOf(higher, higher))
		b.want("Prev", walk.Prev, k, firstOf(lower, lower))
	}
}

func (b *box) wantKeys(want []api.Term) {
	b.t.Helper()
	l, e := walk.Keys(b.s)
	same(b.t, fmt.Sprintf("kind %d at %d: Keys", b.s.Kind(), b.s.Position()), []any{l, e}, []any{want, api.OK})
}

// order tells a hashed store's keys in the walk's order.
func (b *box) order() []api.Term {
	var all []api.Term
	for bucket := range b.s.Buckets() {
		l, _ := b.s.Keys(bucket)
		all = append(all, l...)
	}
	return all
}

// wantAll asks any store for all, which of the keys are met being known.
func (b *box) wantAll(met, others []api.Term) {
	b.t.Helper()
	if b.s.Kind() == 2 {
		b.wantRising(order.Sort(met), others)
		return
	}
	b.wantWalk(b.order(), met, others)
}

// among are so many numbers whose bucket, of 4, is that one.
func among(bucket, many int) []api.Term {
	var l []api.Term
	for n := 0; len(l) < many; n++ {
		if is, _ := hash.Bucket(hash.Hash(num(n)), 4); is == bucket {
			l = append(l, num(n))
		}
	}
	return l
}

// P15.1, P15.2: the chapter's examples.
func TestExamples(t *testing.T) {
	for _, kind := range hashed {
		b := newBox(t, 200, kind, 1)
		l := []api.Term{among(1, 1)[0], among(2, 1)[0], among(3, 1)[0]}
		b.put(tuple(l[2]), tuple(l[1]), tuple(l[0]))
		b.want("First", first, api.Term{}, key(l[0]))
		b.want("Next", walk.Next, l[0], key(l[1]))
		b.want("Next", walk.Next, l[2], none(api.OK))
		b.want("Last", last, api.Term{}, key(l[0]))
		b.s.Fix(1)
		b.away(l[1], 1)
		b.want("Next", walk.Next, l[0], key(l[2]))
		b.want("Next", walk.Next, l[1], key(l[2]))
		b.want("Next", walk.Next, name("no"), none(api.ErrBadarg))
	}
	b := newBox(t, 200, 2, 1)
	b.put(tuple(num(3)), tuple(num(1)))
	b.want("Next", walk.Next, num(2), key(num(3)))
	b.want("Prev", walk.Prev, num(2), key(num(1)))
	b.want("Prev", walk.Prev, num(1), none(api.OK))
	b.want("Last", last, api.Term{}, key(num(3)))
}

// P15.1, P15.2: each way in which up to two keys a bucket lie in four buckets, each of them shown or hidden, asked when all is put, and each time when one is hidden.
func TestBuckets(t *testing.T) {
	var two [4][]api.Term
	for bucket := range two {
		two[bucket] = among(bucket, 2)
	}
	others := slices.Concat(two[:]...)
	for layout := range 81 {
		var all []api.Term
		for bucket, rest := 0, layout; bucket < 4; bucket, rest = bucket+1, rest/3 {
			all = append(all, two[bucket][:rest%3]...)
		}
		for shown := range 1 << len(all) {
			b := newBox(t, 300, hashed[(layout+shown)%3], 1+shown%3)
			for _, k := range all {
				b.put(b.object(k))
			}
			same(t, "Buckets", b.s.Buckets(), 4)
			b.s.Fix(1)
			met := slices.Clone(all)
			b.wantWalk(all, met, others)
			for i, k := range all {
				if shown>>i&1 == 0 {
					b.away(k, 1)
					met = slices.DeleteFunc(met, func(x api.Term) bool { return term.Same(x, k) })
				}
			}
			b.wantWalk(all, met, others)
			if t.Failed() {
				t.Fatal("layout", layout, "shown", shown)
			}
		}
	}
}

// P15.1, P15.2: stores of each kind with keys of all kinds of terms, at some positions, that grow and get fewer; keys that were taken away are not known.
func TestKinds(t *testing.T) {
	for _, kind := range kinds {
		for _, position := range []int{1, 2, 5, 64} {
			b := newBox(t, 5000, kind, position)
			b.wantAll(nil, keys())
			var met []api.Term
			for _, k := range keys() {
				b.put(b.object(k))
				met = append(met, k)
				b.wantAll(met, keys())
			}
			for len(met) > 0 {
				b.away(met[0], 1)
				met = met[1:]
				b.wantAll(met, keys())
			}
			if t.Failed() {
				return
			}
		}
	}
}

// P15.1, P15.2: keys with several objects, of which some, or all, are hidden, and that are put anew.
func TestSeveralObjects(t *testing.T) {
	for _, kind := range []int{3, 4} {
		b := newBox(t, 5000, kind, 2)
		l := slices.Concat(among(0, 3), among(3, 2))
		for n := range 3 {
			for _, k := range l {
				b.put(b.object(k, num(n)))
			}
		}
		b.wantAll(l, keys())
		b.s.Fix(7)
		all := b.order()
		for n := range 3 {
			b.s.DeleteObject(b.object(all[1], num(n)))
			if n < 2 {
				b.wantWalk(all, all, keys())
			}
		}
		b.wantWalk(all, slices.Concat(all[:1], all[2:]), keys())
		b.away(all[0], 3)
		b.wantWalk(all, all[2:], keys())
		b.away(all[4], 3)
		b.away(all[3], 3)
		b.wantWalk(all, all[2:3], keys())
		b.put(b.object(all[1], num(9)), b.object(all[4], num(9)))
		b.wantWalk(all, []api.Term{all[1], all[2], all[4]}, keys())
		b.s.Clear()
		b.wantWalk(all, nil, keys())
		b.put(b.object(all[3]))
		b.wantWalk(all, all[3:4], keys())
		b.s.Release(7)
		b.wantAll(all[3:4], slices.Concat(all, keys()))
	}
}

// P15.1, P15.2: many keys in many buckets, and a fixed store with few buckets.
func TestMany(t *testing.T) {
	for _, kind := range kinds {
		for _, fixed := range []bool{false, true} {
			b := newBox(t, 20000, kind, 1)
			if fixed {
				b.s.Fix(1)
			}
			var met []api.Term
			for n := range 400 {
				b.put(tuple(num(n)))
				met = append(met, num(n))
			}
			b.wantAll(met, keys()[3:])
			for n := 0; n < 400; n += 2 {
				b.away(num(n), 1)
			}
			b.wantAll(slices.DeleteFunc(met, func(k api.Term) bool { return k.N%2 == 0 }), keys()[3:])
		}
	}
}

// P11: of an ordered store of n keys Next and Prev make few comparisons, First and Last none.
func TestFewComparisons(t *testing.T) {
	b := newBox(t, 1<<16, 2, 1)
	for n := range 1000 {
		b.put(tuple(num(n)))
	}
	for n := -1; n <= 1000; n++ {
		for _, f := range []call{walk.Next, walk.Prev} {
			ahead := b.s.Compared()
			f(b.s, num(n))
			// 2 log2(1001) + 2 is some 21.9.
			if many := b.s.Compared() - ahead; many > 21 {
				t.Error(n, "comparisons:", many)
			}
		}
		ahead := b.s.Compared()
		walk.First(b.s)
		walk.Last(b.s)
		same(t, "comparisons", b.s.Compared(), ahead)
	}
}

// wantNone asks for ErrNil of all calls, whatever key they have.
func wantNone(t *testing.T, what string, s *store.Store) {
	t.Helper()
	for _, k := range []api.Term{num(1), name("a"), {}, num(1 << 59)} {
		for _, f := range []call{first, last, walk.Next, walk.Prev} {
			near, there, e := f(s, k)
			same(t, what, []any{near, there, e}, none(api.ErrNil))
		}
	}
	l, e := walk.Keys(s)
	same(t, what+": Keys", []any{len(l), e}, []any{0, api.ErrNil})
}

// Rule 5: stores that are none.
func TestNone(t *testing.T) {
	wantNone(t, "nil", nil)
	wantNone(t, "a zero store", &store.Store{})
	wantNone(t, "a new one", new(store.Store))
	for _, kind := range kinds {
		b := newBox(t, 300, kind, 1)
		b.put(tuple(name("a")), tuple(num(1)))
		two := *b.s
		wantNone(t, "a copy", &two)
		b.wantAll([]api.Term{name("a"), num(1)}, keys())
		b.s.Close()
		wantNone(t, "a closed one", b.s)
		wantNone(t, "a copy of one that is closed", &two)
		same(t, "Used", b.r.Used(), 0)
	}
}

// P15.2: keys that may not be, ahead of keys that are not known; rule 3 with both, and behind calls without an error.
func TestErrors(t *testing.T) {
	for _, kind := range kinds {
		b := newBox(t, 3000, kind, 1)
		for _, k := range keys() {
			b.put(tuple(k, name("rest")))
		}
		b.s.Fix(3)
		b.away(num(1), 1)
		b.away(name("b"), 1)
		state, compared := b.state(), b.s.Compared()
		for _, k := range wrong() {
			b.want("Next", walk.Next, k, none(api.ErrArg))
			b.want("Prev", walk.Prev, k, none(api.ErrArg))
		}
		unknown := []api.Term{name("unknown"), num(77), tuple(name("never"), name("met")), fun(2), list(num(9)), {Kind: 6, N: 2}}
		if kind != 2 {
			for _, k := range unknown {
				b.want("Next", walk.Next, k, none(api.ErrBadarg))
				b.want("Prev", walk.Prev, k, none(api.ErrBadarg))
			}
		}
		same(t, "comparisons", b.s.Compared(), compared)
		for _, k := range slices.Concat(keys(), unknown) {
			walk.First(b.s)
			walk.Last(b.s)
			walk.Next(b.s, k)
			walk.Prev(b.s, k)
			walk.Keys(b.s)
		}
		same(t, "what all tell", b.state(), state)
	}
}

// Rule 5, and P1: a store whose blocks somebody else dropped tells what it may, and no call panics.
func TestForeignHands(t *testing.T) {
	for _, kind := range kinds {
		for block := range 30 {
			b := newBox(t, 3000, kind, 2)
			for _, k := range keys()[:12] {
				b.put(b.object(k))
			}
			b.r.Drop(block)
			for _, k := range append(wrong()[:8], keys()...) {
				for _, f := range []call{first, last, walk.Next, walk.Prev} {
					f(b.s, k)
				}
			}
			if _, e := walk.Keys(b.s); e != api.OK {
				t.Error("Keys:", e)
			}
		}
	}
}

// P1: whatever is asked, each call ends.
func TestCalm(t *testing.T) {
	deep := null
	for range 32000 {
		deep = tuple(deep)
	}
	for _, kind := range kinds {
		b := newBox(t, 1<<18, kind, 1)
		b.put(tuple(deep), tuple(ones(65000)), tuple(num(1)))
		b.wantAll([]api.Term{deep, ones(65000), num(1)}, []api.Term{num(0)})
	}
}

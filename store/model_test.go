package store_test

import (
	"fmt"
	"reflect"
	"slices"
	"testing"

	"tenure/api"
	"tenure/arena"
	"tenure/atom"
	"tenure/flat"
	"tenure/hash"
	"tenure/need"
	"tenure/order"
	"tenure/store"
	"tenure/term"
)

// entry is an object of a model.
type entry struct {
	t      api.Term
	number int
	hidden bool
}

// model is plain lists that say what a store must tell: of a hashed one a list a bucket, of an ordered one a single list.
type model struct {
	kind, position int
	lists          [][]entry
	held           []int // a pid for each time that it has fixed
	last           int
}

func newModel(kind, position int) *model {
	m := &model{kind: kind, position: position, lists: make([][]entry, 1)}
	if m.hashed() {
		m.lists = make([][]entry, 4)
	}
	return m
}

func (m *model) hashed() bool { return m.kind != 2 }

func (m *model) single() bool { return m.kind == 1 || m.kind == 2 }

func (m *model) fixed() bool { return len(m.held) > 0 }

func (m *model) buckets() int {
	if !m.hashed() {
		return 0
	}
	return len(m.lists)
}

func (m *model) key(t api.Term) api.Term { return t.L[m.position-1] }

// all tells all objects in their order.
func (m *model) all() []entry { return slices.Concat(m.lists...) }

func (m *model) count() int { return len(m.all()) }

// shown tells those that are not hidden and that are wanted.
func (m *model) shown(want func(e entry) bool) []entry {
	var l []entry
	for _, e := range m.all() {
		if !e.hidden && want(e) {
			l = append(l, e)
		}
	}
	return l
}

func (m *model) under(key api.Term) []entry {
	return m.shown(func(e entry) bool { return term.Same(m.key(e.t), key) })
}

func (m *model) hidden() int {
	return m.count() - len(m.shown(func(entry) bool { return true }))
}

func terms(l []entry) []api.Term {
	var ts []api.Term
	for _, e := range l {
		ts = append(ts, e.t)
	}
	return ts
}

// need tells the words in use.
func (m *model) need() int {
	words, _ := need.Sum(m.kind, m.buckets(), terms(m.all()))
	return words
}

// copy tells a model that may be changed by itself.
func (m *model) copy() *model {
	other := *m
	other.lists = nil
	for _, l := range m.lists {
		other.lists = append(other.lists, slices.Clone(l))
	}
	other.held = slices.Clone(m.held)
	return &other
}

// bucket tells the bucket of a key, of so many.
func bucket(key api.Term, many int) int {
	power := 1
	for power < many {
		power *= 2
	}
	n := int(hash.Hash(key)) % power
	if n >= many {
		n -= power / 2
	}
	return n
}

// regroup gives the objects so many buckets; those of a bucket that is there no more come behind the others.
func (m *model) regroup(many int) {
	lists := make([][]entry, many)
	for _, e := range m.all() {
		n := bucket(m.key(e.t), many)
		lists[n] = append(lists[n], e)
	}
	m.lists = lists
}

// fewer takes away the buckets that are too many.
func (m *model) fewer() {
	for m.hashed() && m.buckets() > 4 && 2*m.count() < m.buckets() {
		m.regroup(m.buckets() - 1)
	}
}

// each goes through pointers to all objects.
func (m *model) each(do func(e *entry) bool) {
	for _, l := range m.lists {
		for i := range l {
			if !do(&l[i]) {
				return
			}
		}
	}
}

// put puts an object, and tells what it needed.
func (m *model) put(t api.Term) int {
	alone, _ := need.Object(t)
	words := -1
	m.each(func(e *entry) bool {
		switch {
		case e.hidden:
		case m.single() && term.Same(m.key(e.t), m.key(t)):
			e.t, words = t, alone
		case m.kind == 3 && term.Same(e.t, t):
			words = 0
		}
		return words < 0
	})
	if words >= 0 {
		return words
	}
	m.last++
	words, _ = need.Put(m.kind, m.buckets(), m.count(), t)
	n := 0
	if m.hashed() {
		n = bucket(m.key(t), m.buckets())
	}
	m.lists[n] = append(m.lists[n], entry{t: t, number: m.last})
	switch {
	case !m.hashed():
		slices.SortFunc(m.lists[0], func(a, b entry) int { return order.Compare(m.key(a.t), m.key(b.t)) })
	case m.fixed():
		words = alone + need.Node(m.kind)
	case m.count() > 2*m.buckets():
		m.regroup(m.buckets() + 1)
	}
	return words
}

// away takes away, or hides, those that are wanted: how many.
func (m *model) away(want func(e entry) bool) int {
	gone := m.shown(want)
	for _, g := range gone {
		if m.hashed() && m.fixed() {
			m.each(func(e *entry) bool {
				e.hidden = e.hidden || e.number == g.number
				return true
			})
			continue
		}
		m.remove(func(e entry) bool { return e.number == g.number })
		m.fewer()
	}
	return len(gone)
}

// remove makes objects be there no more.
func (m *model) remove(want func(e entry) bool) {
	for i := range m.lists {
		m.lists[i] = slices.DeleteFunc(m.lists[i], want)
	}
}

// settle does what is done when the store is not fixed any more, with so many words left.
func (m *model) settle(left int) {
	left += m.need()
	m.remove(func(e entry) bool { return e.hidden })
	m.fewer()
	for m.hashed() && m.count() > 2*m.buckets() {
		more := m.copy()
		more.regroup(m.buckets() + 1)
		if more.need() > left {
			return
		}
		*m = *more
	}
}

// release takes one time out, or all.
func (m *model) release(pid, times, left int) {
	was := m.fixed()
	for range times {
		if i := slices.Index(m.held, pid); i >= 0 {
			m.held = slices.Delete(m.held, i, i+1)
		}
	}
	if was && !m.fixed() {
		m.settle(left)
	}
}

// replace gives an object other words.
func (m *model) replace(number int, t api.Term) {
	m.each(func(e *entry) bool {
		if e.number == number {
			e.t = t
		}
		return true
	})
}

// wrongPlace tells whether a place of an object may not be changed.
func (m *model) wrongPlace(t api.Term, position int) bool {
	return position < 1 || position > len(t.L) || position == m.position
}

// update tells what Update answers, and does it.
func (m *model) update(key api.Term, l []api.Change, left int) (bool, api.Errno) {
	for _, x := range append([]api.Change{{T: key}}, l...) {
		if term.Check(x.T) != api.OK {
			return false, api.ErrArg
		}
	}
	if !m.single() || len(l) == 0 {
		return false, api.ErrBadarg
	}
	old := m.under(key)
	if len(old) == 0 {
		return false, api.OK
	}
	t := term.Copy(old[0].t)
	for _, c := range l {
		if m.wrongPlace(t, c.Position) {
			return false, api.ErrBadarg
		}
	}
	for _, c := range l {
		t.L[c.Position-1] = c.T
	}
	if term.Check(t) != api.OK {
		return false, api.ErrLong
	}
	if words, _ := need.Object(t); words > left {
		return false, api.ErrLimit
	}
	m.replace(old[0].number, t)
	return true, api.OK
}

func outside(n int) bool { return n < -1<<59 || n > 1<<59-1 }

// add tells the number that a step makes of another one, and whether it may.
func add(n int, x api.Step) (int, bool) {
	sum := n + x.Add
	switch {
	case outside(x.Add), x.Capped && (outside(x.Cap) || outside(x.Reset)):
		return 0, false
	case x.Capped && x.Add >= 0 && sum > x.Cap, x.Capped && x.Add < 0 && sum < x.Cap:
		return x.Reset, true
	}
	return sum, !outside(sum)
}

// steps tells what Count answers, and does it.
func (m *model) steps(key api.Term, l []api.Step) ([]int, api.Errno) {
	if term.Check(key) != api.OK {
		return nil, api.ErrArg
	}
	old := m.under(key)
	if !m.single() || len(old) == 0 || len(l) == 0 {
		return nil, api.ErrBadarg
	}
	t := term.Copy(old[0].t)
	var sums []int
	for _, x := range l {
		if m.wrongPlace(t, x.Position) || t.L[x.Position-1].Kind != 1 {
			return nil, api.ErrBadarg
		}
		n, ok := add(t.L[x.Position-1].N, x)
		if !ok {
			return nil, api.ErrBadarg
		}
		t.L[x.Position-1].N = n
		sums = append(sums, n)
	}
	m.replace(old[0].number, t)
	return sums, api.OK
}

// pair is a store beside a model; keys are asked for each time, and others have some words of the arena.
type pair struct {
	t      *testing.T
	r      *arena.Arena
	a      *atom.Table
	s      *store.Store
	m      *model
	keys   []api.Term
	others []int
}

func newPair(t *testing.T, words, kind, position int, keys []api.Term) *pair {
	t.Helper()
	p := &pair{t: t, a: atom.New(), m: newModel(kind, position), keys: keys}
	var e api.Errno
	if p.r, e = arena.New(words); e != api.OK {
		t.Fatal("arena.New:", e)
	}
	if p.s, e = store.New(p.r, p.a, kind, position); e != api.OK || p.s == nil {
		t.Fatal("New:", e)
	}
	return p
}

// same asks that two things are alike as they are shown: nil and empty lists are.
func (p *pair) same(what string, got, want any) {
	p.t.Helper()
	if reflect.DeepEqual(got, want) {
		return
	}
	if g, w := fmt.Sprint(got), fmt.Sprint(want); g != w {
		p.t.Errorf("kind %d at %d, %s: %s; want %s", p.m.kind, p.m.position, what, g[:min(len(g), 300)], w[:min(len(w), 300)])
	}
}

// holds asks for everything that the store tells.
func (p *pair) holds() {
	p.t.Helper()
	m, s := p.m, p.s
	p.same("Objects", s.Objects(), terms(m.shown(func(entry) bool { return true })))
	p.same("Size, Hidden", []int{s.Size(), s.Hidden()}, []int{m.count() - m.hidden(), m.hidden()})
	p.same("Kind, Position, Buckets", []int{s.Kind(), s.Position(), s.Buckets()}, []int{m.kind, m.position, m.buckets()})
	slices.Sort(m.held)
	p.same("Fixed", s.Fixed(), m.fixed())
	p.same("Holders", s.Holders(), slices.Compact(slices.Clone(m.held)))
	p.words()
	for _, key := range p.keys {
		p.holdsKey(key)
	}
	if m.hashed() {
		p.holdsBuckets()
	} else {
		p.holdsOrder()
	}
}

// words asks for the words in use, and for the blocks that have them.
func (p *pair) words() {
	p.t.Helper()
	p.same("Need", p.s.Need(), p.m.need())
	used := p.m.need()
	sizes := []int{16}
	for _, e := range p.m.all() {
		sizes = append(sizes, term.Words(e.t), need.Node(p.m.kind))
	}
	for range (p.m.buckets() + 15) / 16 {
		sizes = append(sizes, 16)
	}
	for _, block := range p.others {
		l, _ := p.r.Get(block)
		sizes = append(sizes, len(l))
		used += arena.Round(len(l))
	}
	p.same("Used", p.r.Used(), used)
	var got []int
	for _, block := range p.r.Blocks() {
		l, _ := p.r.Get(block)
		got = append(got, len(l))
	}
	slices.Sort(got)
	slices.Sort(sizes)
	p.same("the blocks' words", got, sizes)
}

func (p *pair) holdsKey(key api.Term) {
	p.t.Helper()
	l := p.m.under(key)
	var words [][]uint64
	var numbers []int
	for _, e := range l {
		w, _ := flat.Flatten(p.a, e.t)
		words, numbers = append(words, w), append(numbers, e.number)
	}
	got, e := p.s.Lookup(key)
	p.same("Lookup", []any{got, e}, []any{terms(l), api.OK})
	there, e := p.s.Member(key)
	p.same("Member", []any{there, e}, []any{len(l) > 0, api.OK})
	gotWords, e := p.s.Words(key)
	p.same("Words", []any{gotWords, e}, []any{words, api.OK})
	gotNumbers, e := p.s.Numbers(key)
	p.same("Numbers", []any{gotNumbers, e}, []any{numbers, api.OK})
	n, e := p.s.Bucket(key)
	if p.m.hashed() {
		p.same("Bucket", []any{n, e}, []any{bucket(key, p.m.buckets()), api.OK})
	} else {
		p.same("Bucket", []any{n, e}, []any{0, api.ErrArg})
	}
}

// holdsBuckets asks for the keys of each bucket, and beside the first and the last one.
func (p *pair) holdsBuckets() {
	p.t.Helper()
	for n, l := range p.m.lists {
		var keys []api.Term
		for _, e := range l {
			key := p.m.key(e.t)
			if !slices.ContainsFunc(keys, func(k api.Term) bool { return term.Same(k, key) }) {
				keys = append(keys, key)
			}
		}
		got, e := p.s.Keys(n)
		p.same("Keys", []any{got, e}, []any{keys, api.OK})
	}
	for _, n := range []int{-1, p.m.buckets()} {
		got, e := p.s.Keys(n)
		p.same("Keys of no bucket", []any{len(got), e}, []any{0, api.ErrArg})
	}
	if n := p.s.Compared(); n != 0 {
		p.t.Error("Compared of a hashed store:", n)
	}
	key, there, e := p.s.First()
	p.same("First", []any{key, there, e}, []any{api.Term{}, false, api.ErrState})
	key, there, e = p.s.Next(num(1))
	p.same("Next", []any{key, there, e}, []any{api.Term{}, false, api.ErrState})
}

// place tells the key at a place of a list, as First and others do.
func place(l []api.Term, i int) []any {
	if i < 0 || i >= len(l) {
		return []any{api.Term{}, false, api.OK}
	}
	return []any{l[i], true, api.OK}
}

// holdsOrder asks for the keys at the ends, and about all.
func (p *pair) holdsOrder() {
	p.t.Helper()
	var l []api.Term
	for _, e := range p.m.all() {
		l = append(l, p.m.key(e.t))
	}
	key, there, e := p.s.First()
	p.same("First", []any{key, there, e}, place(l, 0))
	key, there, e = p.s.Last()
	p.same("Last", []any{key, there, e}, place(l, len(l)-1))
	for _, k := range p.keys {
		ahead := 0
		for ahead < len(l) && order.Compare(l[ahead], k) < 0 {
			ahead++
		}
		behind := ahead
		if behind < len(l) && term.Same(l[behind], k) {
			behind++
		}
		key, there, e = p.s.Next(k)
		p.same("Next", []any{key, there, e}, place(l, behind))
		key, there, e = p.s.Prev(k)
		p.same("Prev", []any{key, there, e}, place(l, ahead-1))
	}
	for _, n := range []int{-1, 0, 1, 4} {
		got, e := p.s.Keys(n)
		p.same("Keys of an ordered store", []any{len(got), e}, []any{0, api.ErrArg})
	}
}

// spend runs a call and asks that it made no more comparisons than it may; none, if it was refused.
func (p *pair) spend(what string, bounded bool, call func() api.Errno) {
	p.t.Helper()
	n, before := p.s.Size(), p.s.Compared()
	e := call()
	spent := p.s.Compared() - before
	if spent < 0 || p.m.hashed() && spent > 0 || bounded && !few(spent, n) || e != api.OK && spent > 0 {
		p.t.Errorf("%s: %d comparisons of %d keys, %v", what, spent, n, e)
	}
}

// insert puts objects, by Insert or by InsertNew.
func (p *pair) insert(fresh bool, l ...api.Term) api.Errno {
	p.t.Helper()
	m, needed, ok, want := p.m.copy(), 0, true, api.OK
	for _, t := range l {
		ok = ok && len(p.m.under(m.key(t))) == 0
		needed += m.put(t)
	}
	if needed > p.r.Left() {
		want = api.ErrLimit
	}
	if fresh && !ok {
		want = api.OK
	}
	done := want == api.OK && (ok || !fresh)
	p.spend("Insert", len(l) == 1, func() api.Errno {
		if fresh {
			got, e := p.s.InsertNew(l)
			p.same("InsertNew", []any{got, e}, []any{done, want})
			return e
		}
		e := p.s.Insert(l)
		p.same("Insert", e, want)
		return e
	})
	if done {
		p.m = m
	}
	return want
}

func (p *pair) delete(key api.Term) {
	p.t.Helper()
	want := p.m.away(func(e entry) bool { return term.Same(p.m.key(e.t), key) })
	p.spend("Delete", true, func() api.Errno {
		n, e := p.s.Delete(key)
		p.same("Delete", []any{n, e}, []any{want, api.OK})
		return e
	})
}

func (p *pair) deleteObject(t api.Term) {
	p.t.Helper()
	want := p.m.away(func(e entry) bool { return term.Same(e.t, t) })
	n, e := p.s.DeleteObject(t)
	p.same("DeleteObject", []any{n, e}, []any{want, api.OK})
}

func (p *pair) clear() {
	p.t.Helper()
	want := p.m.away(func(entry) bool { return true })
	n, e := p.s.Clear()
	p.same("Clear", []any{n, e}, []any{want, api.OK})
}

func (p *pair) update(key api.Term, l ...api.Change) {
	p.t.Helper()
	want, errno := p.m.update(key, l, p.r.Left())
	p.spend("Update", true, func() api.Errno {
		got, e := p.s.Update(key, l)
		p.same("Update", []any{got, e}, []any{want, errno})
		return e
	})
}

func (p *pair) count(key api.Term, l ...api.Step) {
	p.t.Helper()
	want, errno := p.m.steps(key, l)
	p.spend("Count", true, func() api.Errno {
		got, e := p.s.Count(key, l)
		p.same("Count", []any{got, e}, []any{want, errno})
		return e
	})
}

func (p *pair) fix(pid int) {
	p.t.Helper()
	p.m.held = append(p.m.held, pid)
	p.same("Fix", p.s.Fix(pid), api.OK)
}

func (p *pair) release(pid int) {
	p.t.Helper()
	want := api.OK
	if !slices.Contains(p.m.held, pid) {
		want = api.ErrState
	}
	p.m.release(pid, 1, p.r.Left())
	p.same("Release", p.s.Release(pid), want)
}

func (p *pair) leave(pid int) {
	p.t.Helper()
	p.m.release(pid, len(p.m.held), p.r.Left())
	p.same("Leave", p.s.Leave(pid), api.OK)
}

// borrow lets others have some words of the arena, or fewer, if there are none left; giveBack takes the last ones back.
func (p *pair) borrow(words int) {
	if block, e := p.r.Take(make([]uint64, words)); e == api.OK {
		p.others = append(p.others, block)
	}
}

func (p *pair) giveBack() {
	if last := len(p.others) - 1; last >= 0 {
		p.r.Drop(p.others[last])
		p.others = p.others[:last]
	}
}

// leaveWords lets others have all words but so many, of at least two more.
func (p *pair) leaveWords(words int) {
	p.t.Helper()
	for p.r.Left() < words+2 && len(p.others) > 0 {
		p.giveBack()
	}
	for over := p.r.Left() - words; over > 1; over = p.r.Left() - words {
		class := over
		for arena.Round(class) != class || over-class == 1 {
			class--
		}
		p.borrow(class)
	}
	if left := p.r.Left(); left != words {
		p.t.Fatalf("%d words are left; wanted %d", left, words)
	}
}

package store_test

import (
	"fmt"
	"math"
	"slices"
	"strconv"
	"strings"
	"testing"

	"tenure/api"
	"tenure/arena"
	"tenure/atom"
	"tenure/store"
	"tenure/term"
)

// P14.3: objects of a key are told in their order, of several keys that stand in one bucket each its own.
func TestLookup(t *testing.T) {
	for _, kind := range kinds {
		for _, position := range []int{1, 2, 5, 64} {
			p := newPair(t, 20000, kind, position, keys())
			p.holds()
			for round := range 3 {
				for i, key := range keys() {
					object := at(position, key)
					if position < 64 {
						object = at(position, key, num(i*round), name("x"))
					}
					p.insert(false, object)
					p.insert(round == 1, object)
				}
				p.holds()
			}
		}
	}
}

// P14.3: a key, or an object, that may not be.
func TestWrongKeys(t *testing.T) {
	for _, kind := range kinds {
		p := newPair(t, 500, kind, 1, keys())
		p.insert(false, tuple(num(1), name("a")))
		p.fix(3)
		for _, key := range wrong() {
			l, e := p.s.Lookup(key)
			p.same("Lookup", []any{len(l), e}, []any{0, api.ErrArg})
			ok, e := p.s.Member(key)
			p.same("Member", []any{ok, e}, []any{false, api.ErrArg})
			words, e := p.s.Words(key)
			p.same("Words", []any{len(words), e}, []any{0, api.ErrArg})
			numbers, e := p.s.Numbers(key)
			p.same("Numbers", []any{len(numbers), e}, []any{0, api.ErrArg})
			n, e := p.s.Delete(key)
			p.same("Delete", []any{n, e}, []any{0, api.ErrArg})
			n, e = p.s.DeleteObject(key)
			p.same("DeleteObject", []any{n, e}, []any{0, api.ErrArg})
			n, e = p.s.Bucket(key)
			p.same("Bucket", []any{n, e}, []any{0, api.ErrArg})
			want := api.ErrArg
			if kind != 2 {
				want = api.ErrState
			}
			near, ok, e := p.s.Next(key)
			p.same("Next", []any{near, ok, e}, []any{api.Term{}, false, want})
			near, ok, e = p.s.Prev(key)
			p.same("Prev", []any{near, ok, e}, []any{api.Term{}, false, want})
			p.update(key)
			p.update(key, api.Change{Position: 7, T: num(1)})
			p.update(num(1), api.Change{Position: 1, T: num(1)}, api.Change{Position: 2, T: key})
			p.update(num(9), api.Change{Position: 2, T: key})
			p.count(key)
			p.count(key, api.Step{Position: 2, Add: 1})
		}
		p.holds()
	}
}

// P14.3: Delete, DeleteObject and Clear, of a store that is fixed and of one that is not.
func TestAway(t *testing.T) {
	a, b := name("a"), name("b")
	l := []api.Term{tuple(a, num(1)), tuple(b, num(1)), tuple(a, num(2)), tuple(a, num(1)), tuple(a, num(1), num(1)), tuple(b, num(1)), tuple(num(7), tuple(a)), tuple(b)}
	for _, kind := range kinds {
		for _, fixed := range []bool{false, true} {
			p := newPair(t, 1000, kind, 1, keys())
			if fixed {
				p.fix(1)
			}
			puts := func() {
				p.insert(false, l...)
				p.holds()
			}
			puts()
			for _, x := range []api.Term{tuple(a, num(1)), tuple(a, num(1)), tuple(a, num(3)), a, cons(a, num(1)), fun(0, a, num(1)), tuple(), tuple(b), num(7)} {
				p.deleteObject(x)
				p.holds()
			}
			puts()
			for _, key := range []api.Term{b, b, name("c"), tuple(a), num(7), a, a} {
				p.delete(key)
				p.holds()
			}
			puts()
			p.clear()
			p.holds()
			p.clear()
			p.delete(a)
			p.holds()
			puts()
			p.leave(1)
			p.holds()
		}
	}
}

// P14.3: objects that may be, but whose key position they do not have, are the same as none.
func TestShortObject(t *testing.T) {
	for _, kind := range kinds {
		p := newPair(t, 1000, kind, 3, keys())
		p.insert(false, tuple(num(0), num(0), num(1)), tuple(num(0), num(0), tuple()))
		for _, x := range []api.Term{tuple(), tuple(num(1)), tuple(num(0), num(0)), null, num(1), fun(0, num(0), num(0), num(1))} {
			p.deleteObject(x)
		}
		p.holds()
	}
}

// P14.4: Update, of each place, of several at once, and of one twice.
func TestUpdate(t *testing.T) {
	for _, kind := range kinds {
		for _, position := range []int{1, 2, 3} {
			p := newPair(t, 2000, kind, position, keys())
			object := at(position, name("a"), num(5), num(6))
			p.insert(false, object, at(position, name("b")))
			for _, l := range [][]api.Change{
				{{Position: 4, T: name("x")}}, {{Position: 5, T: name("y")}, {Position: 4, T: name("z")}}, {{Position: 5, T: num(1)}, {Position: 4, T: num(1)}, {Position: 5, T: num(2)}}, {{Position: 1, T: list(num(1))}}, {{Position: 2, T: tuple()}}, {{Position: 3, T: ones(40)}},
				{{Position: 4, T: num(7)}, {Position: 0, T: num(1)}}, {{Position: 4, T: num(7)}, {Position: position, T: name("a")}}, {{Position: -1, T: num(1)}}, {{Position: 6, T: num(1)}}, {{Position: position + 3, T: num(1)}}, {{Position: position + 2, T: num(1)}},
				{{Position: 1<<32 + 4, T: num(1)}}, {{Position: math.MinInt, T: num(1)}}, {{Position: math.MaxInt, T: num(1)}}, {{Position: 4, T: ones(3000)}, {Position: 4, T: num(1)}}, {{Position: 4, T: num(1)}, {Position: 4, T: ones(3000)}},
			} {
				for _, key := range []api.Term{name("a"), name("b"), name("c")} {
					p.update(key, l...)
					p.holds()
				}
			}
			p.update(name("a"))
			p.update(name("c"))
			p.insert(false, object)
			p.fix(1)
			p.update(name("a"), api.Change{Position: position + 1, T: num(9)})
			p.delete(name("a"))
			p.update(name("a"), api.Change{Position: position + 1, T: num(10)})
			p.holds()
			p.insert(false, object)
			p.update(name("a"), api.Change{Position: position + 1, T: num(11)})
			p.holds()
		}
	}
}

// P14.4: the errors of Update, each ahead of those behind it.
func TestUpdateErrors(t *testing.T) {
	long, bad := ones(65530), []api.Change{{Position: 2, T: num(1 << 59)}}
	for _, kind := range []int{1, 2} {
		p := newPair(t, 300, kind, 1, keys()[:5])
		p.insert(false, tuple(num(1), num(2), num(3)))
		fill(p.a, api.MaxAtoms)
		full := []api.Change{{Position: 2, T: name("new")}}
		for _, x := range []struct {
			key   api.Term
			l     []api.Change
			errno api.Errno
		}{
			{num(1), bad, api.ErrArg}, {num(9), bad, api.ErrArg}, {num(1), append(slices.Clone(full), bad...), api.ErrArg}, {num(1 << 59), nil, api.ErrArg}, {num(1), []api.Change{{Position: 2, T: ones(65538)}}, api.ErrArg},
			{num(1), nil, api.ErrBadarg}, {num(9), nil, api.ErrBadarg}, {num(1), []api.Change{{Position: 2, T: long}, {Position: 3, T: long}, {Position: 4, T: num(1)}}, api.ErrBadarg}, {num(1), []api.Change{{Position: 2, T: name("new")}, {Position: 1, T: num(1)}}, api.ErrBadarg},
			{num(9), []api.Change{{Position: 4, T: long}, {Position: 4, T: long}}, api.OK},
			{num(1), []api.Change{{Position: 2, T: long}, {Position: 3, T: long}}, api.ErrLong}, {num(1), []api.Change{{Position: 3, T: name("new")}, {Position: 2, T: ones(65535)}}, api.ErrLong},
			{num(1), full, api.ErrFull}, {num(1), []api.Change{{Position: 2, T: long}, {Position: 3, T: name("new")}}, api.ErrFull},
			{num(1), []api.Change{{Position: 2, T: long}, {Position: 3, T: name("fill7")}}, api.ErrLimit}, {num(1), []api.Change{{Position: 3, T: name("new")}, {Position: 2, T: long}, {Position: 3, T: num(1)}}, api.ErrLimit},
		} {
			p.spend("Update", true, func() api.Errno {
				ok, e := p.s.Update(x.key, x.l)
				p.same(fmt.Sprint("Update ", len(x.l)), []any{ok, e}, []any{false, x.errno})
				return e
			})
			p.holds()
		}
	}
}

// P14.4: atoms have their numbers behind an Update that is done, or that is refused for want of numbers; not behind one that is refused for want of words.
func TestUpdateAtoms(t *testing.T) {
	for _, kind := range []int{1, 2} {
		p := newPair(t, 200, kind, 1, nil)
		p.insert(false, tuple(num(1), num(2), num(3)))
		p.update(num(1), api.Change{Position: 2, T: name("x")}, api.Change{Position: 2, T: name("y")})
		p.same("atoms", p.a.All(), []string{"y"})
		p.update(num(1), api.Change{Position: 2, T: name("z")}, api.Change{Position: 3, T: ones(300)})
		p.same("atoms", p.a.All(), []string{"y"})
		fill(p.a, api.MaxAtoms-1)
		for _, big := range []api.Term{num(1), ones(300)} {
			ok, e := p.s.Update(num(1), []api.Change{{Position: 2, T: list(name("v"), name("w"))}, {Position: 3, T: big}})
			p.same("Update", []any{ok, e}, []any{false, api.ErrFull})
		}
		last, _ := p.a.Name(api.MaxAtoms - 1)
		p.same("the last atom", last, "v")
		p.holds()
	}
}

// P14.4, P14.8: what takes the place has a block of its own ahead of the other one's end, and just needs that.
func TestUpdateNeeds(t *testing.T) {
	for _, kind := range []int{1, 2} {
		for _, fixed := range []bool{false, true} {
			p := newPair(t, 400, kind, 1, keys()[:4])
			p.insert(false, tuple(num(1), num(2)), tuple(num(2), num(2)))
			if fixed {
				p.fix(1)
			}
			p.just(4, func() { p.update(num(1), api.Change{Position: 2, T: num(3)}) })
			p.just(24, func() { p.update(num(2), api.Change{Position: 2, T: ones(18)}) })
			p.just(4, func() { p.update(num(2), api.Change{Position: 2, T: num(3)}) })
			blocks := p.r.Blocks()
			p.update(num(1), api.Change{Position: 2, T: num(3)})
			got := p.r.Blocks()
			if len(got) != len(blocks) || got[len(got)-1] <= blocks[len(blocks)-1] {
				t.Errorf("blocks behind an Update: %v; were %v", got, blocks)
			}
			numbers, e := p.s.Numbers(num(1))
			p.same("Numbers", []any{numbers, e}, []any{[]int{1}, api.OK})
		}
	}
}

// P14.4: Count, of each place, of several at once, and of one more than once; nothing is changed where a step may not be done.
func TestCount(t *testing.T) {
	const most, least = 1<<59 - 1, -1 << 59
	steps := [][]api.Step{
		nil, {{Position: 2}}, {{Position: 2, Add: 1}}, {{Position: 3, Add: -4}, {Position: 2, Add: 5}, {Position: 3, Add: 1}}, {{Position: 2, Add: 1}, {Position: 4, Add: 1}}, {{Position: 2, Add: 1}, {Position: 1, Add: 1}},
		{{Position: 5, Add: 1}}, {{Position: 6, Add: 1}}, {{Position: 0, Add: 1}}, {{Position: -1, Add: 1}}, {{Position: 1<<32 + 2, Add: 1}}, {{Position: math.MaxInt}}, {{Position: math.MinInt}},
		{{Position: 2, Add: 1}, {Position: 3, Add: most + 1}}, {{Position: 2, Add: least - 1}}, {{Position: 2, Add: math.MaxInt}}, {{Position: 2, Add: math.MinInt}},
		{{Position: 2, Cap: math.MaxInt, Reset: math.MinInt}}, {{Position: 2, Capped: true, Cap: most + 1}}, {{Position: 2, Capped: true, Cap: least - 1}}, {{Position: 2, Capped: true, Reset: most + 1}}, {{Position: 2, Capped: true, Reset: least - 1}},
		{{Position: 2, Capped: true, Cap: most, Reset: least}}, {{Position: 2, Capped: true, Cap: least, Reset: most}, {Position: 2, Add: -most}},
		{{Position: 2, Add: most, Capped: true, Cap: most, Reset: 7}, {Position: 2, Add: 1, Capped: true, Cap: 8, Reset: 3}, {Position: 2, Add: 1, Capped: true, Cap: 8, Reset: 3}},
		{{Position: 2, Add: -1, Capped: true, Cap: 2, Reset: 9}, {Position: 2, Add: -1, Capped: true, Cap: 2, Reset: 9}, {Position: 2, Add: -1, Capped: true, Cap: 10, Reset: 9}},
		{{Position: 2, Add: 0, Capped: true, Cap: 8, Reset: 1}, {Position: 2, Add: 0, Capped: true, Cap: 0, Reset: 1}},
		{{Position: 2, Add: most, Capped: true, Cap: 5, Reset: most}, {Position: 2, Add: most, Capped: true, Cap: most, Reset: most - 1}}, {{Position: 2, Add: 1}}, {{Position: 2, Add: 1}}, {{Position: 2, Add: least}},
		{{Position: 2, Add: least, Capped: true, Cap: -3, Reset: least}, {Position: 2, Add: 1, Capped: true, Cap: -3, Reset: -3}, {Position: 2, Add: -1}, {Position: 3, Add: 2}}, {{Position: 2, Add: -1}}, {{Position: 2, Add: -1, Capped: true, Cap: least, Reset: 0}},
	}
	for _, kind := range kinds {
		for _, fixed := range []bool{false, true} {
			p := newPair(t, 1000, kind, 1, []api.Term{name("a"), name("b"), num(1)})
			p.insert(false, tuple(name("a"), num(5), num(most), name("x"), list(num(1))), tuple(name("b"), num(-5)))
			if fixed {
				p.fix(1)
			}
			blocks := p.r.Blocks()
			for _, l := range steps {
				for _, key := range []api.Term{name("a"), name("b"), num(1)} {
					p.count(key, l...)
					p.holds()
				}
			}
			p.same("the blocks behind Count", p.r.Blocks(), blocks)
			// It needs no words.
			p.leaveWords(0)
			p.count(name("a"), api.Step{Position: 3, Add: -1})
			p.delete(name("a"))
			p.count(name("a"), api.Step{Position: 3, Add: -1})
			p.holds()
		}
	}
}

// P14.4: the numbers stand about the key, behind what is boxed and ahead of it.
func TestCountPlaces(t *testing.T) {
	for _, kind := range []int{1, 2} {
		for position := 1; position <= 4; position++ {
			p := newPair(t, 1000, kind, position, []api.Term{num(3)})
			p.insert(false, tuple(slices.Concat(slices.Repeat([]api.Term{num(3)}, position), []api.Term{tuple(num(3), list(num(3))), num(3), {Kind: 3, N: 3}, {Kind: 6, N: 3}, null})...))
			for i := range position + 7 {
				p.count(num(3), api.Step{Position: i, Add: i})
				p.count(num(3), api.Step{Position: i, Add: i}, api.Step{Position: i, Add: -2 * i})
				p.holds()
			}
		}
	}
}

// P14.4: a number at each bound, and what is just beyond it.
func TestCountBounds(t *testing.T) {
	const most, least = 1<<59 - 1, -1 << 59
	numbers := []int{least, least + 1, -1, 0, 1, most - 1, most}
	wide := append([]int{least - 1, most + 1, math.MinInt, math.MaxInt}, numbers...)
	p := newPair(t, 1000, 1, 1, nil)
	for _, n := range numbers {
		for _, add := range wide {
			p.insert(false, tuple(num(1), num(n)))
			p.count(num(1), api.Step{Position: 2, Add: add})
			for _, limit := range wide {
				for _, reset := range wide {
					p.insert(false, tuple(num(1), num(n)))
					p.count(num(1), api.Step{Position: 2, Add: add, Capped: true, Cap: limit, Reset: reset})
					p.count(num(1), api.Step{Position: 2})
				}
			}
		}
	}
	p.holds()
}

// P14.5: Fix, Release, Leave, by one and by several; what was put off is done behind the last release alone.
func TestFix(t *testing.T) {
	a, b := name("a"), name("b")
	for _, kind := range kinds {
		p := newPair(t, 1000, kind, 1, keys())
		p.insert(false, tuple(a), tuple(b), tuple(num(1)))
		for _, pid := range []int{7, 0, 1 << 30, 7} {
			p.fix(pid)
			p.holds()
		}
		for _, pid := range []int{-1, 1<<30 + 1, math.MinInt, math.MaxInt, 1<<32 + 7} {
			p.same("Fix", p.s.Fix(pid), api.ErrArg)
			p.same("Release", p.s.Release(pid), api.ErrState)
			p.same("Leave", p.s.Leave(pid), api.OK)
		}
		p.delete(a)
		p.insert(false, tuple(a, num(1)))
		p.delete(b)
		p.delete(a)
		p.insert(false, tuple(a, num(2)), tuple(a, num(2)))
		p.holds()
		for _, pid := range []int{8, 7, 0, 0} {
			p.release(pid)
			p.leave(9)
			p.holds()
		}
		p.leave(7)
		p.leave(7)
		p.release(7)
		p.holds()
		p.release(1 << 30)
		p.holds()
		p.release(1 << 30)
		p.leave(1 << 30)
		p.delete(a)
		p.insert(false, tuple(b))
		p.holds()
		p.fix(3)
		p.fix(3)
		p.delete(b)
		p.fix(4)
		p.leave(4)
		p.holds()
		p.leave(3)
		p.holds()
	}
}

// grow puts as many objects as are asked for, with keys from a number on.
func (p *pair) grow(from, many int) {
	for i := from; i < from+many; i += 250 {
		var l []api.Term
		for j := i; j < min(i+250, from+many); j++ {
			l = append(l, tuple(num(j)))
		}
		p.insert(false, l...)
	}
}

func (p *pair) shrink(from, many int) {
	for i := range many {
		p.delete(num(from + i))
	}
}

// P14.5: behind the last release there are as many Joins, or Splits, as are wanted, by Release and by Leave.
func TestSettle(t *testing.T) {
	for _, kind := range kinds {
		for _, let := range []func(p *pair, pid int){(*pair).release, (*pair).leave} {
			p := newPair(t, 20000, kind, 1, keys()[:6])
			p.fix(1)
			p.grow(0, 300)
			p.holds()
			let(p, 1)
			p.holds()
			p.fix(1)
			p.shrink(3, 280)
			p.holds()
			p.grow(10, 20)
			let(p, 1)
			p.holds()
			p.fix(1)
			p.clear()
			p.grow(0, 12)
			p.clear()
			p.holds()
			let(p, 1)
			p.holds()
			p.same("Buckets", p.s.Buckets(), p.m.buckets())
		}
	}
}

// P14.5: the Splits behind the last release are as many as there are words for; those that need none are made without.
func TestSettleWithFewWords(t *testing.T) {
	for _, kind := range kinds {
		for _, words := range []int{0, 15, 16, 17, 31, 32, 33, 47, 48, 400} {
			p := newPair(t, 20000, kind, 1, keys()[:6])
			p.fix(2)
			p.grow(0, 120)
			p.leaveWords(words)
			p.release(2)
			p.holds()
			// Hidden objects' words serve for buckets.
			p.fix(2)
			p.shrink(0, 9)
			p.leaveWords(words)
			p.release(2)
			p.holds()
			for p.r.Left() < 200 {
				p.giveBack()
			}
			p.grow(200, 10)
			p.holds()
			p.fix(1)
			p.release(1)
			p.holds()
		}
	}
}

// P14.3: buckets are split and joined just where they want it.
func TestSplitsAndJoins(t *testing.T) {
	for _, kind := range kinds {
		p := newPair(t, 20000, kind, 1, keys()[:6])
		for i := range 90 {
			p.grow(i, 1)
			p.holds()
		}
		for i := range 90 {
			p.shrink(i, 1)
			p.holds()
		}
		p.grow(0, 90)
		p.clear()
		p.holds()
		p.same("Buckets", p.s.Buckets(), len(p.m.lists)*min(1, p.m.buckets()))
	}
}

// P14.7: objects of many keys in a bucket, hidden and not, whose keys are told once each.
func TestKeys(t *testing.T) {
	for _, kind := range []int{1, 3, 4} {
		p := newPair(t, 20000, kind, 2, keys())
		p.fix(1)
		for round := range 4 {
			for i, key := range keys() {
				p.insert(false, at(2, key, num(round)), at(2, key, num(round+1)))
				if (i+round)%3 == 0 {
					p.delete(key)
				}
			}
			p.holds()
		}
		for _, n := range []int{-1, 4, math.MinInt, math.MaxInt, 1 << 32} {
			l, e := p.s.Keys(n)
			p.same("Keys", []any{len(l), e}, []any{0, api.ErrArg})
		}
		p.release(1)
		p.holds()
	}
}

// scribble changes all that a term has, and writes behind it.
func scribble(t *api.Term) {
	for i := range t.L {
		scribble(&t.L[i])
	}
	spare := t.L[len(t.L):cap(t.L)]
	for i := range spare {
		spare[i] = name("spare")
	}
	t.L = append(t.L, name("more"))
	t.Kind, t.N, t.S = 1, 77, "scribbled"
}

// roomy gives each list of a term spare room.
func roomy(t api.Term) api.Term {
	l := make([]api.Term, len(t.L), len(t.L)+3)
	for i, part := range t.L {
		l[i] = roomy(part)
	}
	if len(l) > 0 {
		t.L = l
	}
	return t
}

// Rule 4: what was handed in may be changed behind the call, and what was told may be changed or appended to.
func TestMemory(t *testing.T) {
	for _, kind := range kinds {
		p := newPair(t, 3000, kind, 2, keys())
		for i, key := range keys() {
			object := at(2, key, list(num(i), name("a")), num(i))
			p.m.put(object)
			l := make([]api.Term, 1, 4)
			l[0] = roomy(term.Copy(object))
			spare := l[1:4]
			spare[0] = name("mine")
			p.same("Insert", p.s.Insert(l), api.OK)
			p.same("the room behind what was handed in", spare, []api.Term{name("mine"), {}, {}})
			p.same("what was handed in", l[0], object)
			scribble(&l[0])
		}
		p.holds()
		if p.m.single() {
			changes := []api.Change{{Position: 3, T: roomy(list(num(1), name("b")))}}
			p.update(name("a"), api.Change{Position: 3, T: term.Copy(changes[0].T)})
			p.s.Update(name("a"), changes)
			p.same("what was handed in", changes, []api.Change{{Position: 3, T: list(num(1), name("b"))}})
			scribble(&changes[0].T)
			steps := make([]api.Step, 1, 2)
			steps[0] = api.Step{Position: 4, Add: 3}
			p.count(name("a"), steps[0])
			sums, _ := p.s.Count(name("a"), []api.Step{{Position: 4}})
			sums[0] = 99
			p.same("what was handed in", steps[:2], []api.Step{{Position: 4, Add: 3}, {}})
		}
		p.holds()
		p.scribbleAll()
		p.holds()
		p.fix(1)
		p.fix(2)
		p.delete(name("a"))
		p.scribbleAll()
		p.holds()
	}
}

// scribbleAll changes all that a store tells.
func (p *pair) scribbleAll() {
	all := p.s.Objects()
	for bucket := range p.s.Buckets() {
		l, _ := p.s.Keys(bucket)
		all = append(all, l...)
	}
	for _, key := range p.keys {
		l, _ := p.s.Lookup(key)
		all = append(all, l...)
		words, _ := p.s.Words(key)
		for _, l := range words {
			clear(l[:cap(l)])
		}
		numbers, _ := p.s.Numbers(key)
		clear(numbers[:cap(numbers)])
		for _, call := range []func(api.Term) (api.Term, bool, api.Errno){p.s.Next, p.s.Prev} {
			near, _, _ := call(key)
			all = append(all, near)
		}
	}
	for _, call := range []func() (api.Term, bool, api.Errno){p.s.First, p.s.Last} {
		end, _, _ := call()
		all = append(all, end)
	}
	for i := range all {
		scribble(&all[i])
	}
	holders := p.s.Holders()
	clear(holders[:cap(holders)])
}

// P14.9: comparisons of an ordered store, whose keys come rising, falling and in no order; pair.spend holds the other calls to their bound.
func TestFewComparisons(t *testing.T) {
	for _, many := range []int{0, 1, 2, 3, 5, 9, 30, 100, 700} {
		for turn := range 3 {
			p := newPair(t, 10*many+1000, 2, 1, nil)
			for i := range many {
				key := []int{i, many - i, i * 7919 % 1000}[turn]
				p.insert(i%2 == 0, tuple(num(2*key), num(1)))
			}
			for i := range min(many, 40) + 2 {
				for key := range 4 {
					p.compare(num(2*many*i/40 + key - 1))
				}
			}
			p.holds()
			if many > 1 && p.s.Compared() < many-1 {
				t.Error("Compared:", p.s.Compared(), "of", many)
			}
		}
	}
}

// compare asks for each call about a key.
func (p *pair) compare(key api.Term) {
	p.t.Helper()
	for what, call := range map[string]func() api.Errno{
		"Lookup":  func() api.Errno { _, e := p.s.Lookup(key); return e },
		"Words":   func() api.Errno { _, e := p.s.Words(key); return e },
		"Numbers": func() api.Errno { _, e := p.s.Numbers(key); return e },
		"Member":  func() api.Errno { _, e := p.s.Member(key); return e },
		"Next":    func() api.Errno { _, _, e := p.s.Next(key); return e },
		"Prev":    func() api.Errno { _, _, e := p.s.Prev(key); return e },
	} {
		p.spend(what, true, call)
	}
	before := p.s.Compared()
	p.s.First()
	p.s.Last()
	p.same("comparisons of First and Last", p.s.Compared()-before, 0)
	p.update(key, api.Change{Position: 2, T: num(3)})
	p.update(key, api.Change{Position: 1, T: num(3)})
	p.count(key, api.Step{Position: 2, Add: 1})
	p.insert(false, tuple(key, num(5)))
	p.insert(false, tuple(key, num(6)))
	p.insert(true, tuple(key, num(6)))
	p.delete(key)
	p.insert(true, tuple(key, num(6)))
	p.insert(false, tuple(key, ones(2000)))
}

// P14.9: the buckets stay in a band about the number of objects.
func TestBand(t *testing.T) {
	draw := draws(5)
	for _, kind := range []int{1, 3, 4} {
		r, _ := arena.New(1 << 20)
		s, _ := store.New(r, atom.New(), kind, 1)
		band := func() {
			size, buckets := s.Size(), s.Buckets()
			if size > 2*buckets || buckets != 4 && 2*size < buckets {
				t.Fatalf("kind %d: %d objects in %d buckets", kind, size, buckets)
			}
		}
		for _, goal := range []int{3000, 10, 500, 0, 40, 2000, 1} {
			for s.Size() < goal {
				s.Insert([]api.Term{tuple(num(draw(1 << 20)))})
				band()
			}
			for s.Size() > goal {
				l, _ := s.Keys(draw(s.Buckets()))
				for _, key := range l {
					s.Delete(key)
					band()
				}
			}
		}
	}
}

// draws tells numbers below others, the same ones for one seed.
func draws(seed uint64) func(below int) int {
	return func(below int) int {
		seed = seed*6364136223846793005 + 1442695040888963407
		return int(seed>>33) % below
	}
}

// drawn is an object of few keys and few others.
func drawn(draw func(int) int, position int, all []api.Term) api.Term {
	key := all[draw(len(all))]
	switch draw(6) {
	case 0:
		return at(position, key)
	case 1:
		return at(position, key, num(draw(3)), name(strings.Repeat("y", draw(3))))
	case 2:
		return at(position, key, list(slices.Repeat([]api.Term{num(draw(2))}, draw(9))...))
	}
	return at(position, key, num(draw(3)))
}

// step does one call that is drawn.
func (p *pair) step(draw func(int) int) {
	p.t.Helper()
	position, all := p.m.position, p.keys
	key := all[draw(len(all))]
	switch draw(20) {
	case 0, 1, 2, 3, 4:
		p.insert(false, drawn(draw, position, all))
	case 5, 6, 7:
		var l []api.Term
		for range draw(8) {
			l = append(l, drawn(draw, position, all))
		}
		p.insert(draw(3) == 0, l...)
	case 8, 9:
		p.delete(key)
	case 10, 11:
		p.deleteObject(drawn(draw, position, all))
	case 12:
		if draw(6) == 0 {
			p.clear()
		}
	case 13, 14:
		p.update(key, api.Change{Position: 1 + draw(position+2), T: all[draw(len(all))]}, api.Change{Position: position + 1, T: num(draw(9))})
	case 15:
		p.count(key, api.Step{Position: position + 1, Add: draw(9) - 4, Capped: draw(2) == 0, Cap: draw(9), Reset: draw(3)}, api.Step{Position: position + 1, Add: draw(3)})
	case 16:
		p.fix(draw(3))
	case 17:
		p.release(draw(3))
	case 18:
		if draw(3) == 0 {
			p.leave(draw(3))
		}
	default:
		if draw(2) == 0 {
			p.borrow(1 + draw(60))
		} else {
			p.giveBack()
		}
	}
}

// P14.1 to P14.8: drawn calls, held against plain lists, in arenas of few words and of many.
func TestDrawn(t *testing.T) {
	for seed := range 96 {
		kind, position, words := 1+seed%4, 1+seed/4%3, []int{90, 200, 500, 3000}[seed/12%4]
		many := []int{3, 10, 24}[seed%3]
		draw := draws(uint64(seed))
		p := newPair(t, words, kind, position, keys()[:many])
		for i := range 300 {
			p.step(draw)
			if i%4 == seed%4 {
				p.holds()
			}
			if t.Failed() {
				t.Fatal("seed", seed)
			}
		}
	}
}

// P14.8: many more keys, drawn, so that there are many buckets.
func TestDrawnWide(t *testing.T) {
	var all []api.Term
	for i := range 300 {
		all = append(all, num(i), name("k"+strconv.Itoa(i)))
	}
	for seed := range 8 {
		draw := draws(uint64(1000 + seed))
		p := newPair(t, 12000, 1+seed%4, 1, all)
		for i := range 3000 {
			p.step(draw)
			if i%300 == 0 {
				p.holds()
			}
			if t.Failed() {
				t.Fatal("seed", seed)
			}
		}
	}
}

// P14.2, P14.8: there are no more than 2^20 buckets, so that objects for which one more would be wanted need none.
func TestMostBuckets(t *testing.T) {
	const most = api.MaxBuckets
	p := newPair(t, api.MaxArena, 4, 1, nil)
	l := slices.Repeat([]api.Term{tuple(num(1))}, 256)
	for n := 0; n < 2*most; n += len(l) {
		for i := range l {
			l[i] = tuple(num(n + i))
		}
		if n == most+most/2 {
			// Half as many buckets more are wanted as objects are put, still.
			p.leaveWords(7*len(l) + len(l)/2)
		}
		if e := p.s.Insert(l); e != api.OK {
			t.Fatal("Insert:", n, e)
		}
		for len(p.others) > 0 {
			p.giveBack()
		}
	}
	for _, want := range []api.Errno{api.ErrLimit, api.OK, api.ErrLimit, api.OK} {
		words := 7 * 3
		if want != api.OK {
			words--
		}
		p.leaveWords(words)
		needed := p.s.Need()
		p.same("Insert into as many buckets as there may be", p.s.Insert(l[:3]), want)
		if want == api.OK {
			needed += words
		}
		p.same("Buckets, Need", []int{p.s.Buckets(), p.s.Need()}, []int{most, needed})
		p.same("Need of so many", needed, 16+most+7*p.s.Size())
	}
}

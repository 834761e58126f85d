package walk_test

import (
	"fmt"
	"slices"
	"testing"

	"tenure/api"
	"tenure/order"
	"tenure/term"
	"tenure/walk"
)

// scribble changes all that a term has, and writes behind it.
func scribble(t *api.Term) {
	for i := range t.L {
		scribble(&t.L[i])
	}
	spare := t.L[len(t.L):cap(t.L)]
	for i := range spare {
		spare[i] = name("spare")
	}
	t.L = append(t.L, name("more"))
	t.Kind, t.N, t.S = 1, 77, "scribbled"
}

// roomy gives each list of a term spare room.
func roomy(t api.Term) api.Term {
	l := make([]api.Term, len(t.L), len(t.L)+3)
	for i, part := range t.L {
		l[i] = roomy(part)
	}
	if len(l) > 0 {
		t.L = l
	}
	return t
}

// scribbleTold changes what all calls tell, each key by itself, and asks that the others that were told are as they were.
func (b *box) scribbleTold(l []api.Term) {
	b.t.Helper()
	told, _ := walk.Keys(b.s)
	for i := range told {
		behind := make([]api.Term, 0, len(told))
		for _, k := range told[i+1:] {
			behind = append(behind, term.Copy(k))
		}
		scribble(&told[i])
		same(b.t, "the keys behind one that was changed", told[i+1:], behind)
	}
	spare := told[len(told):cap(told)]
	for i := range spare {
		spare[i] = name("spare")
	}
	for _, k := range l {
		for _, f := range []call{first, last, walk.Next, walk.Prev} {
			asked := roomy(term.Copy(k))
			near, _, _ := f(b.s, asked)
			again, _, _ := f(b.s, asked)
			scribble(&near)
			same(b.t, "what was handed in", asked, k)
			scribble(&asked)
			wanted, _, _ := f(b.s, k)
			same(b.t, "what was told, when the rest is changed", again, wanted)
		}
	}
}

// Rule 4: what was handed in may be changed behind the call, and what was told may be changed or appended to.
func TestMemory(t *testing.T) {
	for _, kind := range kinds {
		b := newBox(t, 5000, kind, 2)
		for _, k := range keys() {
			b.put(b.object(k, k))
		}
		b.wantAll(keys(), keys())
		state := b.state()
		b.scribbleTold(keys())
		same(t, "what all tell", b.state(), state)
		b.wantAll(keys(), keys())
		b.s.Fix(1)
		for _, k := range keys()[20:] {
			b.away(k, 1)
		}
		state = b.state()
		b.scribbleTold(keys())
		same(t, "what all tell", b.state(), state)
		b.wantAll(keys()[:20], keys())
	}
}

// draws tells numbers below others, the same ones for one seed.
func draws(seed uint64) func(below int) int {
	return func(below int) int {
		seed = seed*6364136223846793005 + 1442695040888963407
		return int(seed>>33) % below
	}
}

// journey is a walk over a store to which something is done between the steps.
type journey struct {
	*box
	draw   func(below int) int
	stay   []api.Term // the keys that are there all the time
	come   []api.Term // those that may come and go
	fixes  int        // how often it is fixed, beside the time that stays
	met    []api.Term
	ground string
}

// drawn tells one of some keys.
func (j *journey) drawn(l []api.Term) api.Term { return l[j.draw(len(l))] }

// disturb puts, changes or deletes something, but what stays.
func (j *journey) disturb() {
	k := j.drawn(j.come)
	switch j.draw(9) {
	case 0, 1, 2:
		j.s.Insert([]api.Term{j.object(k, num(j.draw(3))), j.object(j.drawn(j.come), num(j.draw(3)))})
	case 3, 4, 5:
		j.s.Delete(k)
	case 6:
		j.s.DeleteObject(j.object(k, num(j.draw(3))))
	case 7:
		j.change()
	default:
		j.refix()
	}
}

// change changes the objects of a key that stays, or puts others under it.
func (j *journey) change() {
	if len(j.stay) == 0 {
		j.s.Clear()
		return
	}
	k := j.drawn(j.stay)
	j.s.Update(k, []api.Change{{Position: j.s.Position() + 1, T: num(j.draw(9))}})
	j.s.Count(k, []api.Step{{Position: j.s.Position() + 1, Add: j.draw(9)}})
	j.s.Insert([]api.Term{j.object(k, num(j.draw(9)))})
	l, _ := j.s.Lookup(k)
	gone := l[j.draw(len(l))]
	if slices.ContainsFunc(l, func(x api.Term) bool { return !term.Same(x, gone) }) {
		j.s.DeleteObject(gone)
	}
}

// refix fixes once more, or releases one of those times.
func (j *journey) refix() {
	if j.draw(2) == 0 {
		j.s.Fix(2)
		j.fixes++
		return
	}
	if j.fixes > 0 {
		j.s.Release(2)
		j.fixes--
	}
}

// meet notes a key that was told, which must be there, and new.
func (j *journey) meet(k api.Term) {
	j.t.Helper()
	if there, _ := j.s.Member(k); !there {
		j.t.Error(j.ground, "not there:", k)
	}
	if has(j.met, k) {
		j.t.Error(j.ground, "twice:", k)
	}
	j.met = append(j.met, k)
}

// walk goes through the store, forwards or, of an ordered one, backwards, and asks that all that stay are met.
func (j *journey) walk(begin, step call) {
	j.t.Helper()
	k, there, e := begin(j.s, api.Term{})
	for there {
		j.meet(k)
		for range j.draw(5) {
			j.disturb()
		}
		if j.draw(3) == 0 && !has(j.stay, k) {
			j.s.Delete(k)
		}
		k, there, e = step(j.s, k)
		if e != api.OK {
			j.t.Error(j.ground, "error", e)
		}
	}
	same(j.t, j.ground+": the end", []any{k, there, e}, none(api.OK))
	for _, k := range j.stay {
		if !has(j.met, k) {
			j.t.Error(j.ground, "never met:", k)
		}
	}
}

// P15.3: drawn walks over fixed stores and ordered ones, to which much is done between the steps, in arenas of many words and of few.
func TestSteady(t *testing.T) {
	for seed := range 400 {
		draw := draws(uint64(seed))
		kind, position := 1+seed%4, 1+seed/4%3
		all := keys()
		for n := range 10 * (seed / 16 % 4) {
			all = append(all, num(1000+n))
		}
		stays := []int{0, 1, 5, len(all) / 2}[draw(4)]
		for i := range all {
			other := draw(len(all))
			all[i], all[other] = all[other], all[i]
		}
		words := 20000
		if draw(2) == 0 {
			words = 32 + len(all)*12
		}
		j := &journey{box: newBox(t, words, kind, position), draw: draw, stay: all[:stays], come: all[stays:], ground: fmt.Sprint("seed ", seed)}
		for _, k := range j.stay {
			j.put(j.object(k, num(0)))
		}
		for range draw(40) {
			j.s.Insert([]api.Term{j.object(j.drawn(j.come), num(draw(3)))})
		}
		if kind != 2 || draw(2) == 0 {
			j.s.Fix(1)
		}
		for range 3 {
			j.met = nil
			j.walk(first, walk.Next)
		}
		j.met = nil
		if kind == 2 {
			j.walk(last, walk.Prev)
		} else {
			j.walk(first, walk.Prev)
		}
		if t.Failed() {
			t.FailNow()
		}
	}
}

// P15.3: of a key that was deleted meanwhile Next has no error, be the store fixed or ordered; if it is neither, it has one, and so has a fixed one when it is released.
func TestDeletedMeanwhile(t *testing.T) {
	for _, kind := range kinds {
		for _, k := range keys() {
			b := newBox(t, 5000, kind, 1)
			for _, k := range keys() {
				b.put(tuple(k))
			}
			rest := slices.DeleteFunc(keys(), func(x api.Term) bool { return term.Same(x, k) })
			if kind == 2 {
				b.away(k, 1)
				b.wantRising(order.Sort(rest), keys())
				continue
			}
			b.s.Fix(1)
			b.s.Fix(2)
			all := b.order()
			b.away(k, 1)
			b.wantWalk(all, rest, keys())
			b.s.Release(1)
			b.wantWalk(all, rest, keys())
			b.s.Release(2)
			b.wantWalk(slices.DeleteFunc(b.order(), func(x api.Term) bool { return term.Same(x, k) }), rest, keys())
			b.put(tuple(k))
			b.wantAll(keys(), nil)
			b.away(k, 1)
			b.want("Next", walk.Next, k, none(api.ErrBadarg))
			b.want("Prev", walk.Prev, k, none(api.ErrBadarg))
		}
	}
}

package tree_test

import (
	"cmp"
	"fmt"
	"math"
	"slices"
	"strings"
	"testing"
	"unsafe"

	"tenure/api"
	"tenure/term"
	"tenure/tree"
)

// Terms are written here field by field, so that no other layer is held against itself.
func num(n int) api.Term                  { return api.Term{Kind: 1, N: n} }
func atom(s string) api.Term              { return api.Term{Kind: 2, S: s} }
func tuple(l ...api.Term) api.Term        { return api.Term{Kind: 7, L: l} }
func fun(n int, l ...api.Term) api.Term   { return api.Term{Kind: 5, N: n, L: l} }
func cons(head, tail api.Term) api.Term   { return api.Term{Kind: 9, L: []api.Term{head, tail}} }
func of(kind int, l ...api.Term) api.Term { return api.Term{Kind: kind, L: l} }

// whole is a term of a kind that has a number alone.
func whole(kind, n int) api.Term { return api.Term{Kind: kind, N: n} }

var null = api.Term{Kind: 8}

func list(l ...api.Term) api.Term {
	t := null
	for _, head := range slices.Backward(l) {
		t = cons(head, t)
	}
	return t
}

// nums tells the numbers from 0 on, rising.
func nums(many int) []api.Term {
	l := make([]api.Term, many)
	for i := range l {
		l[i] = num(i)
	}
	return l
}

// rising are terms of all kinds that may be, each ahead of the next one.
func rising() []api.Term {
	one, wide := num(1), slices.Repeat([]api.Term{num(1)}, 64)
	return []api.Term{
		num(-1 << 59), num(-1<<59 + 1), num(-1), num(0), one, num(2), num(1<<59 - 1),
		atom(""), atom("\x00"), atom("A"), atom("a"), atom("a\x00"), atom("ab"), atom("b"), atom("\xff"), atom(strings.Repeat("\xff", 64)),
		whole(3, 0), whole(3, 1), whole(3, 1<<30), whole(4, 0), whole(4, 1), whole(4, 1<<30),
		fun(0), fun(0, num(0)), fun(0, one), fun(0, null), fun(0, num(0), num(0)), fun(1), fun(1, list(one)), fun(1, wide...), fun(1 << 30),
		whole(6, 0), whole(6, 1), whole(6, 1<<30),
		tuple(), tuple(one), tuple(atom("a")), tuple(tuple()), tuple(tuple(one)), tuple(null), tuple(list(one)), tuple(num(0), num(2)), tuple(one, num(0)), tuple(one, one), tuple(wide[:63]...), tuple(wide...),
		null,
		cons(num(0), one), cons(num(0), atom("a")), list(num(0)), list(num(0), one), cons(one, one), list(one), list(one, one), list(one, num(2)), list(num(2)), list(atom("a")), list(null), list(list(one)),
	}
}

// show tells the beginning of a term, or of some, which may be long.
func show(x any) string {
	s := fmt.Sprint(x)
	return s[:min(len(s), 80)]
}

func wantPut(t *testing.T, tr *tree.Tree, key api.Term, n, had int, there bool) {
	t.Helper()
	if got, ok, e := tr.Put(key, n); got != had || ok != there || e != api.OK {
		t.Errorf("Put(%s, %d): %d, %v, %v; want %d, %v, %v", show(key), n, got, ok, e, had, there, api.OK)
	}
}

func wantRefused(t *testing.T, tr *tree.Tree, key api.Term, errno api.Errno) {
	t.Helper()
	if got, ok, e := tr.Put(key, 7); got != 0 || ok || e != errno {
		t.Errorf("Put(%s, 7): %d, %v, %v; want 0, false, %v", show(key), got, ok, e, errno)
	}
}

func wantKey(t *testing.T, what string, key api.Term, n int, ok bool, want api.Term, number int) {
	t.Helper()
	if !term.Same(key, want) || n != number || !ok {
		t.Errorf("%s: %s, %d, %v; want %s, %d, true", what, show(key), n, ok, show(want), number)
	}
}

func wantNone(t *testing.T, what string, key api.Term, n int, ok bool) {
	t.Helper()
	if !term.Same(key, api.Term{}) || key.L != nil || n != 0 || ok {
		t.Errorf("%s: %s, %d, %v; want none", what, show(key), n, ok)
	}
}

// P11.1, P11.2: the chapter's examples.
func TestExamples(t *testing.T) {
	tr := tree.New()
	wantPut(t, tr, num(5), 1, 0, false)
	wantPut(t, tr, num(3), 2, 0, false)
	wantPut(t, tr, num(5), 7, 1, true)
	key, n, ok := tr.First()
	wantKey(t, "First", key, n, ok, num(3), 2)
	key, n, ok = tr.Last()
	wantKey(t, "Last", key, n, ok, num(5), 7)
	for _, x := range []int{3, 4} {
		key, n, ok = tr.Next(num(x))
		wantKey(t, "Next", key, n, ok, num(5), 7)
	}
	key, n, ok = tr.Prev(num(3))
	wantNone(t, "Prev", key, n, ok)
	if n, ok := tr.Remove(num(5)); n != 7 || !ok {
		t.Error("Remove(5):", n, ok)
	}
	if n, ok := tr.Get(num(5)); n != 0 || ok {
		t.Error("Get(5):", n, ok)
	}
	if l := tr.Keys(); tr.Len() != 1 || len(l) != 1 || !term.Same(l[0], num(3)) {
		t.Error("Len, Keys:", tr.Len(), l)
	}
}

// P11.1 to P11.3: a tree without keys, a new one and one that had some, has nothing and makes no comparison.
func TestNoKey(t *testing.T) {
	row := rising()
	p := newPair(t, row)
	if n := p.tree.Compared(); n != 0 {
		t.Error("Compared of a new tree:", n)
	}
	ask := func() {
		p.free("all of no key", func() {
			p.all()
			for place := range row {
				p.remove(place)
			}
		})
	}
	ask()
	for place := range row {
		p.put(place, place+1)
		p.remove(place)
		ask()
	}
}

// each goes through all orders of so many places.
func each(many int, do func(order []int)) {
	order := make([]int, many)
	for i := range order {
		order[i] = i
	}
	var swap func(from int)
	swap = func(from int) {
		if from == many {
			do(order)
			return
		}
		for i := from; i < many; i++ {
			order[from], order[i] = order[i], order[from]
			swap(from + 1)
			order[from], order[i] = order[i], order[from]
		}
	}
	swap(0)
}

// P11.1 to P11.4: up to five keys, put in each order and taken out in each; what is beside them and between is asked for each time.
func TestFewKeys(t *testing.T) {
	for many := range 6 {
		row := nums(2*many + 1)
		each(many, func(puts []int) {
			each(many, func(removes []int) {
				p := newPair(t, row)
				for i, place := range puts {
					p.put(2*place+1, i+1)
				}
				p.all()
				for _, place := range removes {
					p.remove(2*place + 1)
					p.remove(2 * place)
					p.all()
				}
				if t.Failed() {
					t.Fatalf("put as %v, removed as %v", puts, removes)
				}
			})
		})
	}
}

// P11.1 to P11.4: eight keys, put in each order; then one goes, each once.
func TestMoreKeys(t *testing.T) {
	row := nums(8)
	each(8, func(puts []int) {
		p := newPair(t, row)
		for i, place := range puts {
			p.put(place, i)
		}
		p.ends()
		p.keys()
		p.stands()
		p.remove(puts[(puts[0]+puts[7])%8])
		p.ends()
		p.keys()
		p.stands()
		for place := range row {
			p.get(place)
		}
		if t.Failed() {
			t.Fatalf("put as %v", puts)
		}
	})
}

// P11.1: a key's number is any number, and may be turned as often as one likes; it stays one key.
func TestNumbers(t *testing.T) {
	row := rising()
	for many := 1; many <= len(row); many += 7 {
		p := newPair(t, row)
		for place := range many {
			p.put(place, -place)
		}
		height := p.tree.Height()
		for i, n := range []int{0, 1, -1, 1 << 31, 1 << 32, -1 << 31, math.MinInt, math.MaxInt, 0, 0, 7} {
			for place := range many {
				p.put(place, n+i*place)
				p.put(place, n)
			}
			p.all()
		}
		if h := p.tree.Height(); h != height {
			t.Errorf("Height: %d, behind numbers that were turned; was %d", h, height)
		}
		for place := range many {
			p.remove(place)
			p.remove(place)
			p.put(place, 3)
			p.remove(place)
		}
		p.all()
	}
}

// wrong are terms that may not be, and the error that each has.
func wrong() map[api.Errno][]api.Term {
	long := list(slices.Repeat([]api.Term{num(1)}, 32768)...)
	deep := num(1)
	for range 32768 {
		deep = tuple(deep)
	}
	bad := []api.Term{
		{}, of(-1), of(10), of(11), of(17), of(1 << 32), of(1<<32 + 1), of(math.MinInt), of(math.MaxInt),
		num(1 << 59), num(-1<<59 - 1), num(math.MaxInt), num(math.MinInt), {Kind: 1, S: "a"}, {Kind: 1, L: nums(1)},
		atom(strings.Repeat("a", 65)), {Kind: 2, S: "a", N: 1}, {Kind: 2, S: "a", L: nums(1)},
		whole(3, -1), whole(3, 1<<30+1), whole(4, -1), whole(4, 1<<30+1), whole(6, -1), whole(6, 1<<30+1), {Kind: 3, S: "a"}, {Kind: 4, L: nums(1)}, {Kind: 6, S: "a"},
		fun(-1), fun(1<<30 + 1), fun(1, nums(65)...), {Kind: 5, S: "a"}, tuple(nums(65)...), {Kind: 7, N: 1}, {Kind: 7, S: "a"},
		whole(8, 1), {Kind: 8, S: "a"}, of(8, nums(1)...), of(9), of(9, nums(1)...), of(9, nums(3)...), {Kind: 9, N: 1, L: []api.Term{num(1), null}}, {Kind: 9, S: "a", L: []api.Term{num(1), null}},
	}
	for _, x := range slices.Clone(bad) {
		bad = append(bad, tuple(num(1), x), cons(num(1), x), list(x), fun(1, x), tuple(list(num(1), tuple(x)), num(2)))
	}
	bad = append(bad, tuple(long, of(10)), cons(of(0), long), tuple(deep, num(1<<59)))
	return map[api.Errno][]api.Term{
		api.ErrArg:  bad,
		api.ErrLong: {long, deep, tuple(long), cons(long, null), fun(1, long, long), tuple(num(1), deep)},
	}
}

// P11.1: a key that may not be is refused by term.Check's error, ahead of any comparison; nothing changes.
func TestWrongKeys(t *testing.T) {
	row := rising()
	for _, many := range []int{0, 1, 2, 3, len(row)} {
		p := newPair(t, row)
		for place := range many {
			p.put(place, place)
		}
		height := p.tree.Height()
		for errno, l := range wrong() {
			for _, x := range l {
				p.free("Put of a term that may not be", func() { wantRefused(t, p.tree, x, errno) })
				p.ends()
			}
		}
		p.all()
		if h := p.tree.Height(); h != height {
			t.Errorf("Height: %d, behind keys that were refused; was %d", h, height)
		}
	}
}

// greatest are terms of just 65,536 words, rising: a deep tuple, a long list, and conses deep in their heads.
func greatest() []api.Term {
	long := list(append(slices.Repeat([]api.Term{num(1)}, 32766), tuple())...)
	deep, heads := tuple(), tuple()
	for range 32767 {
		deep, heads = tuple(deep), cons(heads, null)
	}
	return []api.Term{deep, long, heads}
}

// P11.1, P11.2: keys may have 65,536 words, and be as deep as that lets them be.
func TestGreatKeys(t *testing.T) {
	row := greatest()
	for i, x := range row {
		if n := term.Words(x); n != 65536 {
			t.Fatalf("the key %d has %d words", i, n)
		}
	}
	each(len(row), func(puts []int) {
		p := newPair(t, row)
		for i, place := range puts {
			p.put(place, i)
			p.all()
		}
		for _, place := range puts {
			p.remove(place)
			p.all()
		}
	})
}

// P11.1, P11.2: terms that may not be are looked for where order.Compare puts them, though they are never keys.
func TestAskedForWhatMayNotBe(t *testing.T) {
	row := []api.Term{
		of(math.MinInt), of(-1), {}, num(math.MinInt), num(-1<<59 - 1), num(-1 << 59), num(0), num(1<<59 - 1), num(1 << 59), num(math.MaxInt),
		atom(""), atom("a"), atom(strings.Repeat("a", 65)), atom("b"), whole(3, -1), whole(3, 0), whole(3, 1<<30), whole(3, 1<<30+1), whole(4, -1), whole(4, 5),
		fun(-1, num(5)), fun(0), fun(0, of(0)), fun(0, num(1)), fun(0, nums(65)...), fun(1), fun(1<<30 + 1), whole(6, -1), whole(6, 5),
		tuple(), tuple(of(0)), tuple(num(1)), tuple(nums(65)...), null, of(9), of(9, num(1)), list(num(1)), cons(num(1), of(10)), of(9, nums(3)...), of(10), of(1 << 32), of(math.MaxInt),
	}
	p := newPair(t, row)
	for place, x := range row {
		if term.Check(x) == api.OK {
			p.put(place, place)
		}
	}
	p.all()
	for _, place := range slices.Clone(p.places) {
		for at, x := range row {
			if term.Check(x) != api.OK {
				p.remove(at)
			}
		}
		p.remove(place)
		p.all()
	}
}

// P11.1, P11.2: what is alike to a key by order.Compare is that key, whatever else it has: it is found, and taken out.
func TestAskedForWhatIsAlike(t *testing.T) {
	for _, x := range []struct{ key, alike api.Term }{
		{atom("a"), api.Term{Kind: 2, S: "a", N: 1}}, {num(5), api.Term{Kind: 1, N: 5, S: "a"}}, {null, of(8, num(1))}, {whole(6, 5), api.Term{Kind: 6, N: 5, L: nums(1)}},
		{tuple(num(1)), api.Term{Kind: 7, N: 1, L: []api.Term{num(1)}}}, {list(null), list(whole(8, 1))},
	} {
		p := newPair(t, []api.Term{num(-1), x.key, list(list(null))})
		for place := range p.row {
			p.put(place, place+5)
		}
		p.row[1] = x.alike
		p.get(1)
		key, n, ok := p.tree.Next(x.alike)
		p.wantKey("Next", 2, key, n, ok)
		key, n, ok = p.tree.Prev(x.alike)
		p.wantKey("Prev", 0, key, n, ok)
		wantRefused(t, p.tree, x.alike, api.ErrArg)
		p.remove(1)
		p.get(1)
		p.keys()
	}
}

// rows tells orders in which keys come and go.
func rows(many int) map[string][]int {
	rise := make([]int, many)
	for i := range rise {
		rise[i] = i
	}
	fall := slices.Clone(rise)
	slices.Reverse(fall)
	var inward []int
	for i := range many {
		inward = append(inward, []int{i / 2, many - 1 - i/2}[i%2])
	}
	outward := slices.Clone(inward)
	slices.Reverse(outward)
	strides := slices.SortedStableFunc(slices.Values(rise), func(a, b int) int { return cmp.Compare(a%17, b%17) })
	drawn, draw := slices.Clone(rise), draws(11)
	for i := many - 1; i > 0; i-- {
		j := draw(i + 1)
		drawn[i], drawn[j] = drawn[j], drawn[i]
	}
	again := slices.Clone(drawn)
	slices.Reverse(again[many/2:])
	return map[string][]int{"rise": rise, "fall": fall, "inward": inward, "outward": outward, "strides": strides, "drawn": drawn, "again": again}
}

// deepest asks for each key alone: there is one behind as many comparisons as the tree is high, and none behind more.
func (p *pair) deepest() {
	p.t.Helper()
	p.stands()
	most := 0
	for _, place := range p.places {
		before := p.tree.Compared()
		p.get(place)
		most = max(most, p.tree.Compared()-before)
	}
	if h := p.tree.Height(); most != h {
		p.t.Errorf("Get made %d comparisons at most, in a height of %d", most, h)
	}
}

// P11.3: whatever the order in which keys come and go, the tree is not too high, no call makes too many comparisons, and the height is that of the deepest key.
func TestRows(t *testing.T) {
	const many = 600
	row := nums(2*many + 1)
	for in, puts := range rows(many) {
		for out, removes := range rows(many) {
			p := newPair(t, row)
			// Beside each key that comes or goes its neighbours are asked for, and what is between.
			ask := func(place int) {
				t.Helper()
				p.ends()
				for at := place - 1; at <= place+1; at++ {
					p.get(at)
					p.next(at)
					p.prev(at)
				}
				if len(p.places)%29 == 0 {
					p.deepest()
					p.keys()
				}
				if t.Failed() {
					t.Fatalf("put as %s, removed as %s, of %d keys", in, out, len(p.places))
				}
			}
			for i, place := range puts {
				p.put(2*place+1, i)
				ask(2*place + 1)
			}
			for _, place := range removes {
				p.remove(2*place + 1)
				ask(2*place + 1)
			}
		}
	}
}

// P11.3: of many keys, that rise or fall and go away from either end, or come back meanwhile.
func TestLongRows(t *testing.T) {
	const many = 1 << 16
	for _, form := range []struct{ start, step, gone, away int }{{0, 1, 0, 1}, {0, 1, many - 1, -1}, {many - 1, -1, 0, 1}, {many - 1, -1, many - 1, -1}, {0, 40503, 0, 1}, {0, 1, 0, 40503}} {
		tr := tree.New()
		p := &pair{t: t, tree: tr}
		place := func(start, step, i int) api.Term { return num((start + step*i) & (many - 1)) }
		for i := range many {
			p.spend("Put", func() { wantPut(t, tr, place(form.start, form.step, i), i, 0, false) })
			wantHeight(t, tr, i+1)
		}
		for i := range many {
			key := place(form.gone, form.away, i)
			p.spend("Remove", func() {
				if _, ok := tr.Remove(key); !ok {
					t.Errorf("Remove(%v): false", key)
				}
			})
			wantHeight(t, tr, many-i-1)
			if t.Failed() {
				t.Fatalf("behind %d removes of %+v", i+1, form)
			}
		}
	}
}

// sparse tells the places of a tree that is as high with as few keys as may be, if neither side of a key is higher than the other by more than one: those nearest to the root first, so that they stand so.
func sparse(height int) []int {
	type spot struct{ place, depth int }
	var l []spot
	var lay func(height, from, depth int) int
	lay = func(height, from, depth int) int {
		if height <= 0 {
			return from
		}
		place := lay(height-1, from, depth+1)
		l = append(l, spot{place, depth})
		return lay(height-2, place+1, depth+1)
	}
	lay(height, 0, 0)
	slices.SortStableFunc(l, func(a, b spot) int { return cmp.Compare(a.depth, b.depth) })
	var places []int
	for _, s := range l {
		places = append(places, s.place)
	}
	return places
}

// P11.3: a tree that is as sparse as may be keeps its bounds where keys go on its low side, so that it is turned on all of the way.
func TestSparseTree(t *testing.T) {
	for height := 1; height <= 13; height++ {
		places := sparse(height)
		many := len(places)
		row := nums(many)
		// Either as it was laid, the low side being the one of the great keys, or turned round; keys go from either end.
		for form := range 4 {
			p := newPair(t, row)
			for i, place := range places {
				if form%2 == 1 {
					place = many - 1 - place
				}
				p.put(place, i)
			}
			p.deepest()
			for n := range many {
				place := p.places[0]
				if form/2 == 1 {
					place = p.places[len(p.places)-1]
				}
				p.remove(place)
				p.ends()
				p.stands()
				if n%50 == 0 || many-n < 20 {
					p.deepest()
					p.keys()
				}
				if t.Failed() {
					t.Fatalf("behind %d removes, height %d, form %d", n+1, height, form)
				}
			}
		}
	}
}

// P11.3: comparisons are counted: there are as many as must be made to tell keys apart, and calls that need none make none.
func TestCompared(t *testing.T) {
	p := newPair(t, nums(257))
	p.free("the first Put", func() { p.put(128, 1) })
	before := p.tree.Compared()
	p.get(128)
	p.get(0)
	p.next(128)
	p.prev(256)
	p.put(128, 2)
	if n := p.tree.Compared() - before; n != 5 {
		t.Errorf("%d comparisons by five calls of one key", n)
	}
	for place := range p.row {
		p.put(place, place)
		most := 0
		for at := range place + 1 {
			before := p.tree.Compared()
			p.get(at)
			most = max(most, p.tree.Compared()-before)
		}
		// So many keys can't be told apart by fewer comparisons each.
		if len(p.places) > 1<<most-1 {
			t.Errorf("%d comparisons at most among %d keys", most, len(p.places))
		}
	}
	before = p.tree.Compared()
	p.remove(256)
	if p.tree.Compared() == before {
		t.Error("Remove made no comparison")
	}
	p.free("what needs none", func() {
		for range 3 {
			p.ends()
			p.keys()
			p.tree.Compared()
			wantRefused(t, p.tree, api.Term{}, api.ErrArg)
		}
	})
}

// none are trees that New did not answer: none at all, one without anything, and a copy of one that has keys.
func none(t *testing.T) map[string]*tree.Tree {
	t.Helper()
	tr := tree.New()
	for i := range 9 {
		wantPut(t, tr, num(i), i, 0, false)
	}
	copied := *tr
	return map[string]*tree.Tree{"nil": nil, "zero": {}, "new": new(tree.Tree), "copy": &copied}
}

// P1, rule 5: trees that New did not answer tell that they are none ahead of all else, and have nothing.
func TestNoTree(t *testing.T) {
	for name, tr := range none(t) {
		t.Run(name, func(t *testing.T) {
			for _, key := range slices.Concat(nums(10), wrong()[api.ErrLong], []api.Term{{}, num(1 << 59), atom(strings.Repeat("a", 65)), of(9)}) {
				wantRefused(t, tr, key, api.ErrNil)
				if n, ok := tr.Get(key); n != 0 || ok {
					t.Errorf("Get(%s): %d, %v", show(key), n, ok)
				}
				if n, ok := tr.Remove(key); n != 0 || ok {
					t.Errorf("Remove(%s): %d, %v", show(key), n, ok)
				}
				k, n, ok := tr.Next(key)
				wantNone(t, "Next", k, n, ok)
				k, n, ok = tr.Prev(key)
				wantNone(t, "Prev", k, n, ok)
				k, n, ok = tr.First()
				wantNone(t, "First", k, n, ok)
				k, n, ok = tr.Last()
				wantNone(t, "Last", k, n, ok)
				if l, h, c := tr.Len(), tr.Height(), tr.Compared(); l != 0 || h != 0 || c != 0 || len(tr.Keys()) != 0 {
					t.Errorf("Len, Height, Compared, Keys: %d, %d, %d, %v", l, h, c, tr.Keys())
				}
			}
		})
	}
}

// Rule 5: what is asked of a copy leaves the tree that New answered as it is.
func TestCopyChangesNothing(t *testing.T) {
	p := newPair(t, nums(20))
	for place := range 10 {
		p.put(2*place, place)
	}
	copied, before := *p.tree, p.tree.Compared()
	for i := range 20 {
		copied.Put(num(i), -1)
		copied.Get(num(i))
		copied.Remove(num(i + 1))
		copied.Next(num(i))
	}
	if n := p.tree.Compared(); n != before {
		t.Errorf("Compared: %d; was %d", n, before)
	}
	p.all()
}

// Trees have their keys each by itself.
func TestTreesAreApart(t *testing.T) {
	row := nums(12)
	p, q := newPair(t, row), newPair(t, row)
	if p.tree == q.tree {
		t.Fatal("New: the same tree twice")
	}
	for place := range row {
		p.put(place, place)
		q.put(11-place, -place)
		if place%3 == 0 {
			p.remove(place)
		}
		before := p.tree.Compared()
		q.all()
		if n := p.tree.Compared(); n != before {
			t.Errorf("Compared: %d; was %d, ahead of what was asked of another tree", n, before)
		}
		p.all()
	}
}

// rooms are terms that have lists, as deep as that, with spare room behind each, and texts that can be changed; made anew each time.
func rooms() []api.Term {
	text := func(s string) api.Term {
		b := []byte(s)
		return atom(unsafe.String(&b[0], len(b)))
	}
	room := func(kind, n int, l ...api.Term) api.Term {
		return api.Term{Kind: kind, N: n, L: append(make([]api.Term, 0, len(l)+3), l...)}
	}
	return []api.Term{
		text("abc"), text("abd"), room(5, 1), room(5, 2, text("x"), room(7, 0, num(1))), room(7, 0), room(7, 0, text("x")), room(7, 0, room(7, 0, room(7, 0, num(5)))), room(7, 0, num(1), text("y")), room(9, 0, text("h"), room(9, 0, room(7, 0, num(1)), null)),
	}
}

// scribble changes all of a term: its lists with their spare room, and, if its texts were made to be changed, these.
func scribble(x api.Term, texts bool) {
	if texts && len(x.S) > 0 {
		clear(unsafe.Slice(unsafe.StringData(x.S), len(x.S)))
	}
	_ = append(x.L, num(4711))
	l := x.L[:cap(x.L)]
	for i := range l {
		scribble(l[i], texts)
		l[i] = atom("scribbled")
	}
}

// Rule 4: a key that was handed in is not kept: whatever is done to it later, the tree tells what it told.
func TestKeysHandedIn(t *testing.T) {
	p := newPair(t, rooms())
	for round := range 3 {
		for place, key := range rooms() {
			had, there := 0, round > 0
			if there {
				had = place + round - 1
			}
			wantPut(t, p.tree, key, place+round, had, there)
			scribble(key, true)
		}
		for place, key := range rooms() {
			if round == 0 {
				p.places, p.numbers = append(p.places, place), append(p.numbers, 0)
			}
			p.numbers[place] = place + round
			for range 2 {
				p.tree.Get(key)
				p.tree.Next(key)
				p.tree.Prev(key)
			}
			scribble(key, true)
		}
		p.all()
	}
	for _, key := range rooms() {
		n, ok := p.tree.Remove(key)
		scribble(key, true)
		wantPut(t, p.tree, rooms()[n-2], n, 0, false)
		if !ok {
			t.Error("Remove: false")
		}
	}
	p.all()
}

// Rule 4: what is handed in stays as it is, its spare room too.
func TestKeysStay(t *testing.T) {
	p := newPair(t, rooms())
	given := rooms()
	want := rooms()
	var full func(x api.Term) api.Term
	full = func(x api.Term) api.Term {
		l := slices.Clone(x.L[:cap(x.L)])
		for i := range l {
			l[i] = full(l[i])
		}
		return api.Term{Kind: x.Kind, N: x.N, S: x.S, L: l}
	}
	for range 2 {
		for place := range given {
			p.row[place] = given[place]
			p.put(place, place)
			p.all()
		}
		p.remove(4)
		p.all()
		for place := range given {
			if got, want := full(given[place]), full(want[place]); !term.Same(got, want) || len(given[place].L) != len(rooms()[place].L) {
				t.Errorf("the key %d was changed: %v; was %v", place, got, want)
			}
		}
	}
}

// told tells all that a tree answers, each key of it once from each call that tells it.
func told(p *pair) []api.Term {
	l := p.tree.Keys()
	for _, x := range []func() (api.Term, int, bool){p.tree.First, p.tree.Last} {
		key, _, _ := x()
		l = append(l, key)
	}
	for _, x := range p.row {
		for _, beside := range []func(api.Term) (api.Term, int, bool){p.tree.Next, p.tree.Prev} {
			key, _, _ := beside(x)
			l = append(l, key)
		}
	}
	return l
}

// memory gathers how often each place that a term has is met: those of its texts, of its lists with their spare room.
func memory(x api.Term, found map[unsafe.Pointer]int) {
	if len(x.S) > 0 {
		found[unsafe.Pointer(unsafe.StringData(x.S))]++
	}
	l := x.L[:cap(x.L)]
	for i := range l {
		found[unsafe.Pointer(&l[i])]++
		memory(l[i], found)
	}
}

// Rule 4: what is told is new memory, its spare room too: it shares none with what was handed in, nor with another answer.
func TestAnswersAreTheirOwn(t *testing.T) {
	p := newPair(t, rooms())
	for place := range p.row {
		p.put(place, place)
	}
	first, second := told(p), told(p)
	found := map[unsafe.Pointer]int{}
	for _, x := range slices.Concat(p.row, first, second) {
		memory(x, found)
	}
	for _, often := range found {
		if often > 1 {
			t.Fatal("memory is shared:", often)
		}
	}
	for _, x := range first {
		scribble(x, true)
	}
	p.all()
	for i, x := range told(p) {
		if !term.Same(x, second[i]) {
			t.Errorf("%v was told, behind changes of what was told ahead; want %v", x, second[i])
		}
	}
}

// Rule 4: the list of keys is the asker's own: it may be changed, and appended to.
func TestListIsItsOwn(t *testing.T) {
	for many := range 20 {
		p := newPair(t, nums(20))
		for place := range many {
			p.put(place, place)
		}
		l, other := p.tree.Keys(), p.tree.Keys()
		_ = append(l, num(-1))
		l = l[:cap(l)]
		for i := range l {
			l[i] = atom("scribbled")
		}
		p.all()
		for place := range 20 {
			p.put(place, place)
		}
		if want := nums(many); !slices.EqualFunc(other, want, term.Same) {
			t.Errorf("Keys: %v, behind changes; want %v", other, want)
		}
		p.all()
	}
}

package tree_test

import (
	"slices"
	"testing"

	"tenure/api"
	"tenure/term"
	"tenure/tree"
)

// few tells whether a number is at most 2 log2(n + 1) + 2, as the chapter says it of a height and of comparisons, without logarithms.
func few(number, n int) bool {
	return number <= 2 || number < 60 && (n+1)*(n+1) >= 1<<(number-2)
}

// pair is a tree beside a sorted list that says what it must tell: the places of its keys in a row of rising terms, and their numbers.
type pair struct {
	t       *testing.T
	tree    *tree.Tree
	row     []api.Term
	places  []int
	numbers []int
}

func newPair(t *testing.T, row []api.Term) *pair {
	t.Helper()
	p := &pair{t: t, tree: tree.New(), row: row}
	if p.tree == nil {
		t.Fatal("New: nil")
	}
	return p
}

// spend runs a call and asks that it made no more comparisons than it may among the keys that there were.
func (p *pair) spend(what string, call func()) {
	p.t.Helper()
	n, before := p.tree.Len(), p.tree.Compared()
	call()
	if spent := p.tree.Compared() - before; spent < 0 || !few(spent, n) {
		p.t.Errorf("%s: %d comparisons of %d keys", what, spent, n)
	}
}

// free runs a call and asks that it made no comparison.
func (p *pair) free(what string, call func()) {
	p.t.Helper()
	before := p.tree.Compared()
	call()
	if spent := p.tree.Compared() - before; spent != 0 {
		p.t.Errorf("%s: %d comparisons", what, spent)
	}
}

// numberAt tells the number of a key by its place in the row.
func (p *pair) numberAt(place int) (i, n int, there bool) {
	if i, there = slices.BinarySearch(p.places, place); there {
		n = p.numbers[i]
	}
	return i, n, there
}

func (p *pair) put(place, n int) {
	p.t.Helper()
	i, had, there := p.numberAt(place)
	p.spend("Put", func() {
		if got, ok, e := p.tree.Put(p.row[place], n); got != had || ok != there || e != api.OK {
			p.t.Errorf("Put(%s, %d): %d, %v, %v; want %d, %v, %v", show(p.row[place]), n, got, ok, e, had, there, api.OK)
		}
	})
	if there {
		p.numbers[i] = n
		return
	}
	p.places, p.numbers = slices.Insert(p.places, i, place), slices.Insert(p.numbers, i, n)
}

func (p *pair) get(place int) {
	p.t.Helper()
	_, n, there := p.numberAt(place)
	p.spend("Get", func() {
		if got, ok := p.tree.Get(p.row[place]); got != n || ok != there {
			p.t.Errorf("Get(%s): %d, %v; want %d, %v", show(p.row[place]), got, ok, n, there)
		}
	})
}

func (p *pair) remove(place int) {
	p.t.Helper()
	i, n, there := p.numberAt(place)
	p.spend("Remove", func() {
		if got, ok := p.tree.Remove(p.row[place]); got != n || ok != there {
			p.t.Errorf("Remove(%s): %d, %v; want %d, %v", show(p.row[place]), got, ok, n, there)
		}
	})
	if there {
		p.places, p.numbers = slices.Delete(p.places, i, i+1), slices.Delete(p.numbers, i, i+1)
	}
}

// wantKey asks that the key number i of the list was told; none, if there is no such one.
func (p *pair) wantKey(what string, i int, key api.Term, n int, ok bool) {
	p.t.Helper()
	if i < 0 || i >= len(p.places) {
		if !term.Same(key, api.Term{}) || key.L != nil || n != 0 || ok {
			p.t.Errorf("%s: %s, %d, %v; want none", what, show(key), n, ok)
		}
		return
	}
	if want := p.row[p.places[i]]; !term.Same(key, want) || n != p.numbers[i] || !ok {
		p.t.Errorf("%s: %s, %d, %v; want %s, %d, true", what, show(key), n, ok, show(want), p.numbers[i])
	}
}

func (p *pair) next(place int) {
	p.t.Helper()
	i, _, there := p.numberAt(place)
	if there {
		i++
	}
	p.spend("Next", func() {
		key, n, ok := p.tree.Next(p.row[place])
		p.wantKey("Next", i, key, n, ok)
	})
}

func (p *pair) prev(place int) {
	p.t.Helper()
	i, _, _ := p.numberAt(place)
	p.spend("Prev", func() {
		key, n, ok := p.tree.Prev(p.row[place])
		p.wantKey("Prev", i-1, key, n, ok)
	})
}

// ends asks for what is told without a comparison, but for the list of all keys.
func (p *pair) ends() {
	p.t.Helper()
	p.free("First, Last, Len, Height", func() {
		key, n, ok := p.tree.First()
		p.wantKey("First", 0, key, n, ok)
		key, n, ok = p.tree.Last()
		p.wantKey("Last", len(p.places)-1, key, n, ok)
		if n := p.tree.Len(); n != len(p.places) {
			p.t.Errorf("Len: %d; want %d", n, len(p.places))
		}
		wantHeight(p.t, p.tree, len(p.places))
	})
}

// wantHeight asks that a tree is neither higher than it may be, nor so low that its keys had no room.
func wantHeight(t *testing.T, tr *tree.Tree, n int) {
	t.Helper()
	if h := tr.Height(); !few(h, n) || n > 1<<h-1 || h > n {
		t.Errorf("Height: %d of %d keys", h, n)
	}
}

// keys asks for the list of all keys.
func (p *pair) keys() {
	p.t.Helper()
	var want []api.Term
	for _, place := range p.places {
		want = append(want, p.row[place])
	}
	p.free("Keys", func() {
		if l := p.tree.Keys(); !slices.EqualFunc(l, want, term.Same) {
			p.t.Errorf("Keys: %s (%d); want %s (%d)", show(l), len(l), show(want), len(want))
		}
	})
}

// stands asks that the tree stands as it should.
func (p *pair) stands() {
	p.t.Helper()
	if fault := p.tree.Faulty(); fault != "" {
		p.t.Errorf("of %d keys: %s", p.tree.Len(), fault)
	}
}

// all asks the tree for all that it can tell, of each term of the row.
func (p *pair) all() {
	p.t.Helper()
	p.stands()
	p.ends()
	p.keys()
	for place := range p.row {
		p.get(place)
		p.next(place)
		p.prev(place)
	}
}

// draws tells numbers that look drawn, the same ones each time.
func draws(seed uint64) func(below int) int {
	return func(below int) int {
		seed = seed*6364136223846793005 + 1442695040888963407
		return int(seed>>33) % below
	}
}

// step asks one thing of the tree and of the list; of the most terms that it may be of, the most keys stay.
func (p *pair) step(draw func(int) int, most int) {
	p.t.Helper()
	place, number := draw(len(p.row)), draw(9)-4
	switch draw(12) {
	case 0, 1, 2, 3:
		if len(p.places) < most {
			p.put(place, number)
		} else {
			p.remove(p.places[draw(len(p.places))])
		}
	case 4, 5:
		p.remove(place)
	case 6, 7:
		if len(p.places) > 0 {
			p.remove(p.places[draw(len(p.places))])
		}
	case 8:
		if len(p.places) > 0 {
			p.put(p.places[draw(len(p.places))], number)
		}
	case 9:
		p.get(place)
	case 10:
		p.next(place)
	case 11:
		p.prev(place)
	}
}

// P11.1 to P11.4: whatever is asked in whatever order, a tree tells what a sorted list of its keys tells.
func TestAgainstList(t *testing.T) {
	for seed, form := range []struct{ row, most, steps int }{{1, 1, 200}, {2, 2, 500}, {3, 3, 1000}, {5, 5, 2000}, {9, 7, 3000}, {16, 16, 3000}, {40, 20, 2000}, {100, 100, 2000}, {300, 200, 1500}} {
		p, draw := newPair(t, nums(form.row)), draws(uint64(seed))
		for n := range form.steps {
			p.step(draw, form.most)
			p.all()
			if t.Failed() {
				t.Fatalf("behind %d steps of %+v", n+1, form)
			}
		}
	}
}

// P11.4: likewise of terms of all kinds.
func TestTermsAgainstList(t *testing.T) {
	row := rising()
	for seed := range uint64(3) {
		p, draw := newPair(t, row), draws(seed)
		for n := range 1500 {
			p.step(draw, len(row))
			if n%5 == 0 {
				p.all()
			}
			if t.Failed() {
				t.Fatalf("behind %d steps", n+1)
			}
		}
	}
}

// P11.3, P11.4: likewise of more keys than are asked for each time: trees grow, go up and down, and get empty.
func TestManyAgainstList(t *testing.T) {
	const most = 3000
	row := nums(3 * most)
	p, draw := newPair(t, row), draws(7)
	for round := range 4 * most {
		grows := round < most || round < 2*most && draw(2) == 0
		if grows {
			p.put(draw(len(row)), round)
		} else if len(p.places) > 0 {
			p.remove(p.places[draw(len(p.places))])
		}
		p.ends()
		for range 3 {
			place := draw(len(row))
			p.get(place)
			p.next(place)
			p.prev(place)
		}
		if round%500 == 0 {
			p.all()
		}
		if t.Failed() {
			t.Fatalf("behind %d rounds", round+1)
		}
	}
	if len(p.places) != 0 {
		t.Error("keys are left:", len(p.places))
	}
}

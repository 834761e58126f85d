package linhash_test

import (
	"slices"
	"testing"

	"tenure/api"
	"tenure/linhash"
)

// own tells the bucket of a hash among so many, as chapter 4 says it, by doubling alone.
func own(h uint32, count int) int {
	power := 1
	for power < count {
		power *= 2
	}
	if n := int(h) % power; n < count {
		return n
	}
	return int(h) % (power / 2)
}

// model is what a table of buckets must tell: plain lists of items, in each the ones of one bucket.
type model struct {
	least int
	lists [][]api.Item
}

func newModel(least int) *model {
	return &model{least: least, lists: make([][]api.Item, least)}
}

func (m *model) len() int {
	sum := 0
	for _, l := range m.lists {
		sum += len(l)
	}
	return sum
}

func (m *model) wants() int {
	items, count := m.len(), len(m.lists)
	if items > 2*count && count < mostBuckets {
		return 1
	}
	if count > m.least && 2*items < count {
		return -1
	}
	return 0
}

func (m *model) add(h uint32, id int) int {
	n := own(h, len(m.lists))
	m.lists[n] = append(m.lists[n], api.Item{Hash: h, ID: id})
	return n
}

func (m *model) remove(h uint32, id int) bool {
	n := own(h, len(m.lists))
	place := slices.Index(m.lists[n], api.Item{Hash: h, ID: id})
	if place < 0 {
		return false
	}
	m.lists[n] = slices.Concat(m.lists[n][:place], m.lists[n][place+1:])
	return true
}

func (m *model) chain(h uint32) []api.Item {
	var l []api.Item
	for _, item := range m.lists[own(h, len(m.lists))] {
		if item.Hash == h {
			l = append(l, item)
		}
	}
	return l
}

// split looks at all items anew: those that do not belong where they stand any more go to the new bucket.
func (m *model) split() {
	m.lists = append(m.lists, nil)
	last := len(m.lists) - 1
	for n, l := range m.lists {
		var stay []api.Item
		for _, item := range l {
			if to := own(item.Hash, len(m.lists)); to == n {
				stay = append(stay, item)
			} else {
				m.lists[to] = append(m.lists[to], item)
			}
		}
		if n != last {
			m.lists[n] = stay
		}
	}
}

func (m *model) join() bool {
	if len(m.lists) <= m.least {
		return false
	}
	last := len(m.lists) - 1
	l := m.lists[last]
	m.lists = slices.Clone(m.lists[:last])
	for _, item := range l {
		m.add(item.Hash, item.ID)
	}
	return true
}

// want asks that a table has just what the model has.
func (m *model) want(t *testing.T, b *linhash.Buckets) {
	t.Helper()
	wantCounts(t, b, m.len(), len(m.lists), m.wants())
	for n, l := range m.lists {
		wantAt(t, b, n, l)
		for _, item := range l {
			wantChain(t, b, item.Hash, m.chain(item.Hash)...)
		}
	}
	for _, n := range []int{-1, len(m.lists), len(m.lists) + 1} {
		wantNoBucket(t, b, n)
	}
}

// draws tells numbers that look drawn, the same ones each time.
func draws(seed uint64) func(below int) int {
	return func(below int) int {
		seed = seed*6364136223846793005 + 1442695040888963407
		return int(seed>>33) % below
	}
}

// drawHash tells a hash out of few ones, of which some differ in their highest bits alone.
func drawHash(draw func(int) int, most int) uint32 {
	h := uint32(draw(most))
	switch draw(4) {
	case 0:
		h |= 1 << 31
	case 1:
		h = ^h
	}
	return h
}

// step asks one thing of a table and of the model alike.
func step(t *testing.T, b *linhash.Buckets, m *model, draw func(int) int, most int) {
	t.Helper()
	h, id := drawHash(draw, most), draw(4)-1
	switch draw(10) {
	case 0, 1, 2, 3:
		wantAdd(t, b, h, id, m.add(h, id))
	case 4, 5, 6:
		wantRemove(t, b, h, id, m.remove(h, id))
	case 7:
		wantChain(t, b, h, m.chain(h)...)
	case 8:
		m.split()
		wantSplit(t, b, api.OK)
	case 9:
		errno := api.OK
		if !m.join() {
			errno = api.ErrState
		}
		wantJoin(t, b, errno)
	}
}

// P10.1 to P10.3, P10.5: whatever is asked in whatever order, the buckets tell what plain lists tell.
func TestAgainstLists(t *testing.T) {
	for seed, form := range []struct{ least, most, calls int }{{1, 1, 300}, {1, 4, 600}, {1, 40, 1000}, {2, 16, 1000}, {3, 100, 1000}, {4, 64, 1500}, {5, 9, 1000}, {7, 1000, 1500}, {8, 300, 1500}, {16, 64, 1000}, {100, 1000, 500}} {
		b, m, draw := newBuckets(t, form.least), newModel(form.least), draws(uint64(seed))
		for call := range form.calls {
			step(t, b, m, draw, form.most)
			m.want(t, b)
			if t.Failed() {
				t.Fatalf("behind %d calls of %+v", call+1, form)
			}
		}
	}
}

// settle splits and joins as a table wants, as long as it wants, and tells how many steps that were.
func settle(t *testing.T, b *linhash.Buckets, m *model) int {
	t.Helper()
	steps := 0
	for b.Wants() != 0 && !t.Failed() {
		steps++
		if b.Wants() > 0 {
			m.split()
			wantSplit(t, b, api.OK)
		} else {
			m.join()
			wantJoin(t, b, api.OK)
		}
		wantCounts(t, b, m.len(), len(m.lists), m.wants())
	}
	return steps
}

// wantBand asks that there are neither too many nor too few buckets.
func wantBand(t *testing.T, b *linhash.Buckets, least int) {
	t.Helper()
	items, count := b.Len(), b.Count()
	if items > 2*count || 2*items < count && count > least || count < least {
		t.Errorf("%d items in %d buckets, which began with %d", items, count, least)
	}
}

// P10.4: who splits and joins as the table wants, behind each item that comes or goes, keeps it in its band by at most two steps each.
func TestBand(t *testing.T) {
	for seed, form := range []struct{ least, items, most int }{{1, 100, 1000}, {1, 40, 1}, {2, 60, 8}, {3, 70, 100}, {4, 300, 1 << 20}, {7, 200, 50}, {30, 200, 200}} {
		b, m, draw := newBuckets(t, form.least), newModel(form.least), draws(uint64(seed))
		for round := range 4 * form.items {
			// First it grows, then it goes up and down, and then it gets empty.
			grows := round < form.items || round < 3*form.items && draw(2) == 0
			if grows || b.Len() == 0 {
				h := drawHash(draw, form.most)
				wantAdd(t, b, h, round, m.add(h, round))
			} else {
				l := slices.Concat(m.lists...)
				item := l[draw(len(l))]
				wantRemove(t, b, item.Hash, item.ID, m.remove(item.Hash, item.ID))
			}
			if steps := settle(t, b, m); steps > 2 {
				t.Errorf("%d steps", steps)
			}
			wantBand(t, b, form.least)
			if round%7 == 0 {
				m.want(t, b)
			}
			if t.Failed() {
				t.Fatalf("behind %d items of %+v", round+1, form)
			}
		}
		m.want(t, b)
	}
}

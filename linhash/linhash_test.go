package linhash_test

import (
	"math"
	"slices"
	"testing"

	"tenure/api"
	"tenure/linhash"
)

// Bounds, written anew from the chapter.
const (
	greatestLeast = 1024
	mostBuckets   = 1 << 20
	mostItems     = 1 << 24
)

func newBuckets(t *testing.T, least int) *linhash.Buckets {
	t.Helper()
	b, e := linhash.New(least)
	if b == nil || e != api.OK {
		t.Fatalf("New(%d): %v, %v", least, b, e)
	}
	return b
}

func wantAdd(t *testing.T, b *linhash.Buckets, h uint32, id, bucket int) {
	t.Helper()
	if n, e := b.Add(h, id); n != bucket || e != api.OK {
		t.Errorf("Add(%d, %d): %d, %v; want %d, %v", h, id, n, e, bucket, api.OK)
	}
}

func wantRemove(t *testing.T, b *linhash.Buckets, h uint32, id int, there bool) {
	t.Helper()
	if got := b.Remove(h, id); got != there {
		t.Errorf("Remove(%d, %d): %v; want %v", h, id, got, there)
	}
}

func wantChain(t *testing.T, b *linhash.Buckets, h uint32, want ...api.Item) {
	t.Helper()
	if l := b.Chain(h); !slices.Equal(l, want) {
		t.Errorf("Chain(%d): %.20v (%d); want %.20v (%d)", h, l, len(l), want, len(want))
	}
}

func wantAt(t *testing.T, b *linhash.Buckets, n int, want []api.Item) {
	t.Helper()
	if l, e := b.At(n); !slices.Equal(l, want) || e != api.OK {
		t.Errorf("At(%d): %.20v (%d), %v; want %.20v (%d), %v", n, l, len(l), e, want, len(want), api.OK)
	}
}

func wantNoBucket(t *testing.T, b *linhash.Buckets, n int) {
	t.Helper()
	if l, e := b.At(n); len(l) != 0 || e != api.ErrArg {
		t.Errorf("At(%d): %.20v (%d), %v; want none, %v", n, l, len(l), e, api.ErrArg)
	}
}

func wantSplit(t *testing.T, b *linhash.Buckets, errno api.Errno) {
	t.Helper()
	if e := b.Split(); e != errno {
		t.Errorf("Split: %v; want %v", e, errno)
	}
}

func wantJoin(t *testing.T, b *linhash.Buckets, errno api.Errno) {
	t.Helper()
	if e := b.Join(); e != errno {
		t.Errorf("Join: %v; want %v", e, errno)
	}
}

func wantCounts(t *testing.T, b *linhash.Buckets, items, count, wants int) {
	t.Helper()
	if i, c, w := b.Len(), b.Count(), b.Wants(); i != items || c != count || w != wants {
		t.Errorf("Len, Count, Wants: %d, %d, %d; want %d, %d, %d", i, c, w, items, count, wants)
	}
}

// items tells items of hashes and numbers, one behind the other.
func items(l ...int) []api.Item {
	var out []api.Item
	for i := 0; i < len(l); i += 2 {
		out = append(out, api.Item{Hash: uint32(l[i]), ID: l[i+1]})
	}
	return out
}

// filled tells a table that began with so many buckets, with items of the hashes 0, 1, 2 and so on.
func filled(t *testing.T, least, many int) (*linhash.Buckets, *model) {
	t.Helper()
	b, m := newBuckets(t, least), newModel(least)
	for i := range many {
		wantAdd(t, b, uint32(i), i, m.add(uint32(i), i))
	}
	return b, m
}

// P10.1 to P10.3: the chapter's examples.
func TestExamples(t *testing.T) {
	b := newBuckets(t, 2)
	wantAdd(t, b, 0, 5, 0)
	wantAdd(t, b, 2, 6, 0)
	wantAdd(t, b, 1, 7, 1)
	wantChain(t, b, 2, items(2, 6)...)
	wantAdd(t, b, 3, 8, 1)
	wantCounts(t, b, 4, 2, 0)
	wantAdd(t, b, 4, 9, 0)
	wantCounts(t, b, 5, 2, 1)
	wantSplit(t, b, api.OK)
	wantCounts(t, b, 5, 3, 0)
	wantAt(t, b, 0, items(0, 5, 4, 9))
	wantAt(t, b, 2, items(2, 6))
	wantJoin(t, b, api.OK)
	wantAt(t, b, 0, items(0, 5, 4, 9, 2, 6))
	wantRemove(t, b, 0, 5, true)
	wantRemove(t, b, 0, 5, false)
	wantJoin(t, b, api.ErrState)
	wantNoBucket(t, b, 2)
}

// P10.1: a table begins with 1 to 1,024 empty buckets, and wants none more, none fewer.
func TestNew(t *testing.T) {
	for least := 1; least <= greatestLeast; least++ {
		b := newBuckets(t, least)
		newModel(least).want(t, b)
		wantJoin(t, b, api.ErrState)
		newModel(least).want(t, b)
	}
}

// P10.1: no table begins with none or fewer, nor with more than 1,024.
func TestNewOfWrongNumbers(t *testing.T) {
	for _, least := range []int{0, -1, -2, -1024, 1025, 1026, 2048, mostBuckets, 1<<31 - 1, 1 << 31, 1 << 32, 1<<32 + 1, 1<<32 + 1024, 1 << 62, math.MinInt, math.MinInt + 1, math.MaxInt} {
		if b, e := linhash.New(least); b != nil || e != api.ErrArg {
			t.Errorf("New(%d): %v, %v; want nil, %v", least, b, e, api.ErrArg)
		}
	}
}

// P10.1: one more is wanted of one item more than twice as many as buckets, not of just twice as many.
func TestWantsMore(t *testing.T) {
	for least := 1; least <= 40; least++ {
		b, m := filled(t, least, 2*least)
		wantCounts(t, b, 2*least, least, 0)
		for extra := range 5 {
			wantAdd(t, b, 7, extra, m.add(7, extra))
			wantCounts(t, b, 2*least+extra+1, least, 1)
		}
		for extra := range 5 {
			wantRemove(t, b, 7, extra, true)
			wants := 1
			if extra == 4 {
				wants = 0
			}
			wantCounts(t, b, 2*least+4-extra, least, wants)
		}
	}
}

// P10.1: one fewer is wanted where twice the items are fewer than the buckets, not where they are as many, and not of as many buckets as it began with.
func TestWantsFewer(t *testing.T) {
	for least := 1; least <= 12; least++ {
		for more := range 12 {
			for many := range least + more + 2 {
				b, m := filled(t, least, many)
				for range more {
					wantSplit(t, b, api.OK)
					m.split()
				}
				wants := 0
				if 2*many > 4*(least+more) {
					wants = 1
				}
				if more > 0 && 2*many < least+more {
					wants = -1
				}
				wantCounts(t, b, many, least+more, wants)
				m.want(t, b)
			}
		}
	}
}

// P10.2: items stand behind one another in their bucket, and Chain tells those of just one hash.
func TestChain(t *testing.T) {
	b := newBuckets(t, 4)
	hashes := []int{1, 5, 9, 1, 1 << 31, 1, 1<<31 + 1, 5, math.MaxUint32, 3}
	bucket := []int{1, 1, 1, 1, 0, 1, 1, 1, 3, 3}
	for id, h := range hashes {
		wantAdd(t, b, uint32(h), id, bucket[id])
	}
	wantAt(t, b, 0, items(1<<31, 4))
	wantAt(t, b, 1, items(1, 0, 5, 1, 9, 2, 1, 3, 1, 5, 1<<31+1, 6, 5, 7))
	wantAt(t, b, 2, nil)
	wantAt(t, b, 3, items(math.MaxUint32, 8, 3, 9))
	wantChain(t, b, 1, items(1, 0, 1, 3, 1, 5)...)
	wantChain(t, b, 5, items(5, 1, 5, 7)...)
	wantChain(t, b, 9, items(9, 2)...)
	wantChain(t, b, 1<<31, items(1<<31, 4)...)
	wantChain(t, b, 1<<31+1, items(1<<31+1, 6)...)
	wantChain(t, b, math.MaxUint32, items(math.MaxUint32, 8)...)
	for _, h := range []uint32{0, 2, 4, 13, 17, 7, 1 << 30, math.MaxUint32 - 4} {
		wantChain(t, b, h)
	}
}

// P10.2: numbers of items are any numbers, and one that is there already is put anew.
func TestAnyNumber(t *testing.T) {
	ids := []int{0, -1, 1, 1 << 31, 1 << 32, -1 << 31, math.MinInt, math.MaxInt, 0, 0, math.MaxInt}
	b, m := newBuckets(t, 1), newModel(1)
	for _, id := range ids {
		wantAdd(t, b, 0, id, m.add(0, id))
	}
	m.want(t, b)
	for _, id := range append(ids, 0) {
		wantRemove(t, b, 0, id, m.remove(0, id))
		m.want(t, b)
	}
	wantRemove(t, b, 0, 0, false)
}

// P10.2: of items that are there more than once the first goes, and the others keep their order.
func TestRemoveFirst(t *testing.T) {
	b := newBuckets(t, 2)
	for _, item := range items(4, 1, 2, 1, 4, 2, 4, 1, 2, 1, 4, 1) {
		wantAdd(t, b, item.Hash, item.ID, 0)
	}
	wantRemove(t, b, 4, 1, true)
	wantAt(t, b, 0, items(2, 1, 4, 2, 4, 1, 2, 1, 4, 1))
	wantRemove(t, b, 4, 1, true)
	wantAt(t, b, 0, items(2, 1, 4, 2, 2, 1, 4, 1))
	wantRemove(t, b, 2, 1, true)
	wantAt(t, b, 0, items(4, 2, 2, 1, 4, 1))
	wantRemove(t, b, 4, 1, true)
	wantAt(t, b, 0, items(4, 2, 2, 1))
	wantRemove(t, b, 4, 1, false)
	wantCounts(t, b, 2, 2, 0)
	wantRemove(t, b, 2, 1, true)
	wantRemove(t, b, 4, 2, true)
	wantCounts(t, b, 0, 2, 0)
	wantAt(t, b, 0, nil)
}

// P10.2: an item goes just if its hash and its number are both those that are asked for; else nothing goes.
func TestRemoveOthers(t *testing.T) {
	m := newModel(3)
	b := newBuckets(t, 3)
	for _, item := range items(0, 1, 4, 2, 8, 1, 1, 1, 2, 5) {
		wantAdd(t, b, item.Hash, item.ID, m.add(item.Hash, item.ID))
	}
	for _, item := range items(0, 2, 4, 1, 8, 2, 12, 1, 1, 2, 5, 1, 2, 1, 6, 5, 3, 1, 1<<31, 1, 0, -1, 0, 0, 0, 1<<32+1) {
		wantRemove(t, b, item.Hash, item.ID, false)
		m.want(t, b)
	}
}

// P10.2: there is a bucket of each number from 0 to the last one, behind splits and joins as well.
func TestAtOfNoBucket(t *testing.T) {
	b, m := filled(t, 3, 20)
	ask := func() {
		t.Helper()
		m.want(t, b)
		for _, n := range []int{-2, -3, b.Count() + 5, 1024, mostBuckets - 1, mostBuckets, 1 << 31, 1 << 32, 1<<32 + 1, math.MinInt, math.MaxInt} {
			wantNoBucket(t, b, n)
		}
	}
	ask()
	for range 6 {
		wantSplit(t, b, api.OK)
		m.split()
		ask()
	}
	for range 6 {
		wantJoin(t, b, api.OK)
		m.join()
		ask()
	}
}

// P10.3: a split takes just the items of the new bucket out of the one that had them, and both keep their order.
func TestSplitKeepsOrder(t *testing.T) {
	b := newBuckets(t, 1)
	for id, h := range []uint32{3, 0, 2, 1, 7, 3, 4, 2, 5, 3} {
		wantAdd(t, b, h, id, 0)
	}
	wantSplit(t, b, api.OK)
	wantAt(t, b, 0, items(0, 1, 2, 2, 4, 6, 2, 7))
	wantAt(t, b, 1, items(3, 0, 1, 3, 7, 4, 3, 5, 5, 8, 3, 9))
	wantSplit(t, b, api.OK)
	wantAt(t, b, 0, items(0, 1, 4, 6))
	wantAt(t, b, 1, items(3, 0, 1, 3, 7, 4, 3, 5, 5, 8, 3, 9))
	wantAt(t, b, 2, items(2, 2, 2, 7))
	wantSplit(t, b, api.OK)
	wantAt(t, b, 1, items(1, 3, 5, 8))
	wantAt(t, b, 3, items(3, 0, 7, 4, 3, 5, 3, 9))
	wantSplit(t, b, api.OK)
	wantAt(t, b, 0, items(0, 1))
	wantAt(t, b, 4, items(4, 6))
	wantCounts(t, b, 10, 5, 0)
}

// P10.3: a join puts the last bucket's items behind those of the one that has them then.
func TestJoinKeepsOrder(t *testing.T) {
	b := newBuckets(t, 1)
	for range 4 {
		wantSplit(t, b, api.OK)
	}
	for id, h := range []uint32{4, 3, 0, 8, 2, 1, 12, 7, 9, 0} {
		wantAdd(t, b, h, id, own(h, 5))
	}
	wantAt(t, b, 4, items(4, 0, 12, 6))
	wantJoin(t, b, api.OK)
	wantAt(t, b, 0, items(0, 2, 8, 3, 0, 9, 4, 0, 12, 6))
	wantJoin(t, b, api.OK)
	wantAt(t, b, 1, items(1, 5, 9, 8, 3, 1, 7, 7))
	wantJoin(t, b, api.OK)
	wantAt(t, b, 0, items(0, 2, 8, 3, 0, 9, 4, 0, 12, 6, 2, 4))
	wantJoin(t, b, api.OK)
	wantAt(t, b, 0, items(0, 2, 8, 3, 0, 9, 4, 0, 12, 6, 2, 4, 1, 5, 9, 8, 3, 1, 7, 7))
	wantJoin(t, b, api.ErrState)
	wantCounts(t, b, 10, 1, 1)
}

// P10.3, P10.5: splits and joins one behind the other, from each number of buckets on past the powers of two, leave each item in the bucket of its hash.
func TestSplitsAndJoins(t *testing.T) {
	for _, least := range []int{1, 2, 3, 4, 5, 7, 8, 9, 15, 16, 17} {
		b, m := newBuckets(t, least), newModel(least)
		for id := range 150 {
			h := uint32(id*id*2654435761 + id)
			wantAdd(t, b, h, id, m.add(h, id))
		}
		for count := least + 1; count <= 70; count++ {
			wantSplit(t, b, api.OK)
			m.split()
			m.want(t, b)
		}
		for count := 69; count >= least; count-- {
			wantJoin(t, b, api.OK)
			m.join()
			m.want(t, b)
		}
		wantJoin(t, b, api.ErrState)
		m.want(t, b)
	}
}

// P10.3: splitting and joining at one place, at a power of two or beside it, to and fro.
func TestToAndFro(t *testing.T) {
	for least := 1; least <= 18; least++ {
		b, m := filled(t, least, 60)
		for range 3 {
			wantSplit(t, b, api.OK)
			m.split()
			m.want(t, b)
			wantAdd(t, b, uint32(least), -1, m.add(uint32(least), -1))
			wantJoin(t, b, api.OK)
			m.join()
			m.want(t, b)
			wantJoin(t, b, api.ErrState)
		}
	}
}

// P10.2, P10.3: a bucket that was joined is empty of old items when it is there again.
func TestBucketsComeBackEmpty(t *testing.T) {
	b := newBuckets(t, 4)
	for range 4 {
		wantSplit(t, b, api.OK)
	}
	for h := range uint32(8) {
		wantAdd(t, b, h, int(h), int(h))
	}
	for range 4 {
		wantJoin(t, b, api.OK)
	}
	for h := range uint32(8) {
		wantRemove(t, b, h, int(h), true)
	}
	for range 4 {
		wantSplit(t, b, api.OK)
	}
	for n := range 8 {
		wantAt(t, b, n, nil)
	}
	wantCounts(t, b, 0, 8, -1)
}

// P10.1 to P10.3: there are at most 2^20 buckets, of which none more is wanted, and at most 2^24 items.
func TestMost(t *testing.T) {
	b := newBuckets(t, greatestLeast)
	for i := range mostItems {
		if n, e := b.Add(uint32(i), i); n != i%greatestLeast || e != api.OK {
			t.Fatalf("Add(%d, %d): %d, %v", i, i, n, e)
		}
	}
	for range 2 {
		if n, e := b.Add(1, 1); n != 0 || e != api.ErrFull {
			t.Fatalf("Add: %d, %v; want 0, %v", n, e, api.ErrFull)
		}
	}
	wantCounts(t, b, mostItems, greatestLeast, 1)
	for count := greatestLeast; count < mostBuckets; count++ {
		if w, e := b.Wants(), b.Split(); w != 1 || e != api.OK {
			t.Fatalf("Wants, Split: %d, %v, of %d buckets", w, e, count)
		}
	}
	for range 2 {
		wantSplit(t, b, api.ErrFull)
		wantCounts(t, b, mostItems, mostBuckets, 0)
	}
	for _, n := range []int{0, 1, 1024, mostBuckets / 2, mostBuckets - 1} {
		var want []api.Item
		for i := n; i < mostItems; i += mostBuckets {
			want = append(want, api.Item{Hash: uint32(i), ID: i})
		}
		wantAt(t, b, n, want)
	}
	wantNoBucket(t, b, mostBuckets)
	wantRemove(t, b, mostItems-1, mostItems-1, true)
	wantAdd(t, b, 5, 5, 5)
	if n, e := b.Add(5, 6); n != 0 || e != api.ErrFull {
		t.Errorf("Add: %d, %v; want 0, %v", n, e, api.ErrFull)
	}
	wantChain(t, b, 5, items(5, 5, 5, 5)...)
	wantJoin(t, b, api.OK)
	wantCounts(t, b, mostItems, mostBuckets-1, 1)
}

// P10.1: one fewer is wanted of as many buckets as there may be, too.
func TestMostBucketsWithoutItems(t *testing.T) {
	b := newBuckets(t, 1)
	for count := 1; count < mostBuckets; count++ {
		if e := b.Split(); e != api.OK {
			t.Fatalf("Split: %v, of %d buckets", e, count)
		}
	}
	wantSplit(t, b, api.ErrFull)
	wantCounts(t, b, 0, mostBuckets, -1)
	wantAdd(t, b, math.MaxUint32, 1, mostBuckets-1)
	for b.Count() > 2 {
		if w, e := b.Wants(), b.Join(); w != -1 || e != api.OK {
			t.Fatalf("Wants, Join: %d, %v, of %d buckets", w, e, b.Count())
		}
	}
	wantCounts(t, b, 1, 2, 0)
	wantAt(t, b, 1, items(math.MaxUint32, 1))
}

// none are tables that New did not answer: none at all, one without anything, and a copy of one that has items.
func none(t *testing.T) map[string]*linhash.Buckets {
	t.Helper()
	b, _ := filled(t, 2, 9)
	wantSplit(t, b, api.OK)
	copied := *b
	return map[string]*linhash.Buckets{"nil": nil, "zero": {}, "new": new(linhash.Buckets), "copy": &copied}
}

// P1, rule 5: buckets that New did not answer tell that they are none ahead of all else, and have nothing.
func TestNoBuckets(t *testing.T) {
	for name, b := range none(t) {
		t.Run(name, func(t *testing.T) {
			for range 2 {
				for _, h := range []uint32{0, 1, 2, math.MaxUint32} {
					if n, e := b.Add(h, int(h)); n != 0 || e != api.ErrNil {
						t.Errorf("Add: %d, %v; want 0, %v", n, e, api.ErrNil)
					}
					wantRemove(t, b, h, int(h), false)
					wantChain(t, b, h)
				}
				for _, n := range []int{-1, 0, 1, 2, 3, math.MinInt, math.MaxInt} {
					if l, e := b.At(n); len(l) != 0 || e != api.ErrNil {
						t.Errorf("At(%d): %v, %v; want none, %v", n, l, e, api.ErrNil)
					}
				}
				wantSplit(t, b, api.ErrNil)
				wantJoin(t, b, api.ErrNil)
				wantCounts(t, b, 0, 0, 0)
			}
		})
	}
}

// Rule 5: what is asked of a copy leaves the table that New answered as it is.
func TestCopyChangesNothing(t *testing.T) {
	b, m := filled(t, 2, 9)
	wantSplit(t, b, api.OK)
	m.split()
	copied := *b
	copied.Add(1, 1)
	copied.Remove(0, 0)
	copied.Split()
	copied.Join()
	m.want(t, b)
}

// Tables have their buckets each by itself.
func TestTablesAreApart(t *testing.T) {
	a, m := filled(t, 2, 9)
	b, n := filled(t, 2, 3)
	if a == b {
		t.Fatal("New: the same table twice")
	}
	wantSplit(t, b, api.OK)
	n.split()
	wantRemove(t, a, 1, 1, m.remove(1, 1))
	wantAdd(t, b, 2, 7, n.add(2, 7))
	m.want(t, a)
	n.want(t, b)
}

// scribble changes all items of a list, those of its spare room too, and appends to it.
func scribble(l []api.Item) {
	_ = append(l, api.Item{Hash: 47, ID: 11})
	l = l[:cap(l)]
	for i := range l {
		l[i] = api.Item{Hash: 4711, ID: -4711}
	}
}

// Rule 4: what Chain and At answer is not the buckets' own, nor is its spare room: whatever is done to it changes nothing, neither there nor in another answer.
func TestAnswersAreTheirOwn(t *testing.T) {
	for many := range 40 {
		b, m := filled(t, 3, many)
		for range 5 {
			// There is room left behind what was taken away.
			wantAdd(t, b, 1, -1, m.add(1, -1))
			wantAdd(t, b, 1, -2, m.add(1, -2))
			wantRemove(t, b, 1, -1, m.remove(1, -1))
			for n := range b.Count() {
				first, _ := b.At(n)
				second, _ := b.At(n)
				scribble(first)
				if !slices.Equal(second, m.lists[n]) {
					t.Errorf("At(%d): %v, behind a change of another answer", n, second)
				}
				m.want(t, b)
			}
			first, second := b.Chain(1), b.Chain(1)
			scribble(first)
			if !slices.Equal(second, m.chain(1)) {
				t.Errorf("Chain(1): %v, behind a change of another answer", second)
			}
			m.want(t, b)
			scribble(second)
			wantSplit(t, b, api.OK)
			m.split()
			m.want(t, b)
		}
	}
}

// Rule 4: an answer stays as it was, whatever is done to the buckets behind it.
func TestAnswersStay(t *testing.T) {
	b, m := filled(t, 1, 30)
	for range 4 {
		wantAdd(t, b, 0, 9, m.add(0, 9))
	}
	at, _ := b.At(0)
	chain := b.Chain(0)
	all, own := slices.Clone(m.lists[0]), m.chain(0)
	wantRemove(t, b, 0, 9, true)
	wantRemove(t, b, 0, 0, true)
	for range 4 {
		wantSplit(t, b, api.OK)
	}
	for id := range 40 {
		wantAdd(t, b, 0, id, 0)
	}
	for range 4 {
		wantJoin(t, b, api.OK)
	}
	if !slices.Equal(at, all) || !slices.Equal(chain, own) {
		t.Errorf("At, Chain: %v, %v, behind changes of the buckets; want %v, %v", at, chain, all, own)
	}
}

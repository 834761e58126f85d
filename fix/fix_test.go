package fix_test

import (
	"math"
	"slices"
	"testing"

	"tenure/api"
	"tenure/fix"
)

// Bounds, written anew from the chapter.
const (
	least    = 0
	greatest = 1 << 30
	most     = 1 << 30
)

// wrong are numbers that name no process.
var wrong = []int{-1, -2, -1 << 30, -1<<30 - 1, -1 << 31, math.MinInt, math.MinInt + 1, greatest + 1, greatest + 2, 1<<31 - 1, 1 << 31, 1 << 32, 1<<32 + 1, 1<<32 + greatest, math.MaxInt - 1, math.MaxInt}

// edges are processes beside the bounds.
var edges = []int{0, 1, greatest - 1, greatest}

func newCount(t *testing.T) *fix.Count {
	t.Helper()
	c := fix.New()
	if c == nil {
		t.Fatal("New: nil")
	}
	return c
}

// counted tells a count in which these processes have fixed, each as often as it is named.
func counted(t *testing.T, pids ...int) both {
	t.Helper()
	b := newBoth(t)
	for _, pid := range pids {
		b.add(pid)
	}
	return b
}

func wantAdd(t *testing.T, c *fix.Count, pid int, errno api.Errno) {
	t.Helper()
	if e := c.Add(pid); e != errno {
		t.Errorf("Add(%d): %v; want %v", pid, e, errno)
	}
}

func wantRelease(t *testing.T, c *fix.Count, pid int, last bool, errno api.Errno) {
	t.Helper()
	if got, e := c.Release(pid); got != last || e != errno {
		t.Errorf("Release(%d): %v, %v; want %v, %v", pid, got, e, last, errno)
	}
}

func wantDrop(t *testing.T, c *fix.Count, pid, times int, last bool) {
	t.Helper()
	if n, got := c.Drop(pid); n != times || got != last {
		t.Errorf("Drop(%d): %d, %v; want %d, %v", pid, n, got, times, last)
	}
}

func wantOf(t *testing.T, c *fix.Count, pid, times int) {
	t.Helper()
	if n := c.Of(pid); n != times {
		t.Errorf("Of(%d): %d; want %d", pid, n, times)
	}
}

func wantTotal(t *testing.T, c *fix.Count, total int) {
	t.Helper()
	if n := c.Total(); n != total {
		t.Errorf("Total: %d; want %d", n, total)
	}
}

func wantHolders(t *testing.T, c *fix.Count, pids ...int) {
	t.Helper()
	if l := c.Holders(); !slices.Equal(l, pids) {
		t.Errorf("Holders: %.20v (%d); want %.20v (%d)", l, len(l), pids, len(pids))
	}
}

// wantNone asks that a process has not fixed, and that there is nothing to be let go.
func (b both) wantNone(pid int) {
	b.t.Helper()
	wantOf(b.t, b.c, pid, 0)
	wantRelease(b.t, b.c, pid, false, api.ErrState)
	wantDrop(b.t, b.c, pid, 0, false)
	wantOf(b.t, b.c, pid, 0)
}

// P12.1, P12.2: the chapter's examples.
func TestExamples(t *testing.T) {
	c := newCount(t)
	wantAdd(t, c, 7, api.OK)
	wantAdd(t, c, 7, api.OK)
	wantAdd(t, c, 3, api.OK)
	wantRelease(t, c, 7, false, api.OK)
	wantOf(t, c, 7, 1)
	wantTotal(t, c, 2)
	wantHolders(t, c, 3, 7)
	wantDrop(t, c, 7, 1, false)
	wantDrop(t, c, 7, 0, false)
	wantRelease(t, c, 3, true, api.OK)
	wantRelease(t, c, 3, false, api.ErrState)
}

// P12.1, P12.2: in a count with nobody, a new one and one that had some, nobody has fixed, and nothing is the last.
func TestNobody(t *testing.T) {
	b := newBoth(t)
	look := func() {
		t.Helper()
		b.want()
		for _, pid := range slices.Concat(edges, wrong, []int{4, 1 << 20}) {
			b.wantNone(pid)
		}
		b.want()
	}
	look()
	b.add(4)
	b.release(4)
	look()
	b.add(4)
	b.drop(4)
	look()
	for _, pid := range edges {
		b.add(pid)
		b.add(pid)
	}
	for _, pid := range edges {
		b.release(pid)
		b.drop(pid)
	}
	look()
}

// P12.1, P12.2: processes from 0 to 2^30 fix, each alone, once, twice, and often; what is let go one by one is the last where it was the last.
func TestOneProcess(t *testing.T) {
	for _, pid := range slices.Concat(edges, []int{2, 7, 255, 256, 65535, 65536, 1 << 29}) {
		for times := 1; times <= 20; times++ {
			c := newCount(t)
			for n := 1; n <= times; n++ {
				wantAdd(t, c, pid, api.OK)
				wantOf(t, c, pid, n)
				wantTotal(t, c, n)
				wantHolders(t, c, pid)
			}
			for n := times - 1; n > 0; n-- {
				wantRelease(t, c, pid, false, api.OK)
				wantOf(t, c, pid, n)
				wantTotal(t, c, n)
				wantHolders(t, c, pid)
			}
			wantRelease(t, c, pid, true, api.OK)
			wantRelease(t, c, pid, false, api.ErrState)
			wantOf(t, c, pid, 0)
			wantTotal(t, c, 0)
			wantHolders(t, c)
		}
	}
}

// P12.1: a drop tells how often a process had fixed by then, however often that was, and lets all of it go.
func TestDrop(t *testing.T) {
	for _, pid := range edges {
		for adds := 1; adds <= 12; adds++ {
			for releases := range adds {
				b := newBoth(t)
				for range adds {
					b.add(pid)
				}
				for range releases {
					b.release(pid)
				}
				wantDrop(t, b.c, pid, adds-releases, true)
				b.m.drop(pid)
				b.want()
				b.wantNone(pid)
				b.add(pid)
				b.want()
				wantDrop(t, b.c, pid, 1, true)
			}
		}
	}
}

// P12.1, P12.2: what one process does leaves the others as often as they have; to leave one that has is not to leave nobody.
func TestOthersStay(t *testing.T) {
	for _, other := range edges {
		for _, pid := range edges {
			if pid == other {
				continue
			}
			b := counted(t, other, pid, pid, other, pid, other)
			b.want()
			wantRelease(t, b.c, pid, false, api.OK)
			b.m.release(pid)
			b.want()
			wantDrop(t, b.c, pid, 2, false)
			b.m.drop(pid)
			b.want()
			b.wantNone(pid)
			b.want()
			b.release(other)
			b.release(other)
			b.add(pid)
			wantDrop(t, b.c, other, 1, false)
			wantRelease(t, b.c, pid, true, api.OK)
			b.m.pids = nil
			b.want()
			b.add(pid)
			b.add(other)
			b.add(pid)
			wantRelease(t, b.c, other, false, api.OK)
			wantDrop(t, b.c, pid, 2, true)
			b.m.pids = nil
			b.want()
		}
	}
}

// P12.1: what is not from 0 to 2^30 fixes nothing, and so has not fixed; nothing changes.
func TestWrongProcesses(t *testing.T) {
	for _, b := range []both{counted(t), counted(t, 3), counted(t, 0, greatest, 1, 1, greatest-1)} {
		for _, pid := range wrong {
			for range 2 {
				wantAdd(t, b.c, pid, api.ErrArg)
				b.wantNone(pid)
				b.want()
			}
		}
		for _, pid := range edges {
			b.add(pid)
			b.want()
		}
	}
}

// P12.2, rule 8: many processes are told rising, each once, in whatever order they came and how often.
func TestManyProcesses(t *testing.T) {
	const many = 5000
	// Each number is met once, since the factor has none in common with the power of two.
	numbered := func(i int) int { return i * 40503 % (1 << 16) * (1 << 14) }
	c, total := newCount(t), 0
	var pids []int
	for i := range many {
		for range i%3 + 1 {
			wantAdd(t, c, numbered(i), api.OK)
			total++
		}
		pids = append(pids, numbered(i))
	}
	slices.Sort(pids)
	for range 3 {
		wantHolders(t, c, pids...)
	}
	wantTotal(t, c, total)
	for i := range many {
		wantOf(t, c, numbered(i), i%3+1)
		wantOf(t, c, numbered(i)+1, 0)
	}
	for i := range many {
		times, last := i%3+1, i == many-1
		if i%2 == 0 {
			wantDrop(t, c, numbered(i), times, last)
			continue
		}
		for n := range times {
			wantRelease(t, c, numbered(i), last && n == times-1, api.OK)
		}
		if i%1000 == 1 {
			rest := slices.DeleteFunc(slices.Clone(pids), func(pid int) bool { return c.Of(pid) == 0 })
			wantHolders(t, c, rest...)
			if len(rest) != many-i-1 {
				t.Errorf("%d processes; want %d", len(rest), many-i-1)
			}
		}
	}
	wantHolders(t, c)
	wantTotal(t, c, 0)
}

// none are counts that New did not answer: none at all, one without anything, and a copy of one that has somebody.
func none(t *testing.T) map[string]*fix.Count {
	t.Helper()
	copied := *counted(t, 3, 7, 7).c
	return map[string]*fix.Count{"nil": nil, "zero": {}, "new": new(fix.Count), "copy": &copied}
}

// P1, rule 5: counts that New did not answer tell that they are none ahead of all else, and have nobody.
func TestNoCount(t *testing.T) {
	for name, c := range none(t) {
		t.Run(name, func(t *testing.T) {
			for range 2 {
				for _, pid := range slices.Concat(edges, wrong, []int{3, 7}) {
					wantAdd(t, c, pid, api.ErrNil)
					wantRelease(t, c, pid, false, api.ErrNil)
					wantDrop(t, c, pid, 0, false)
					wantOf(t, c, pid, 0)
				}
				wantTotal(t, c, 0)
				wantHolders(t, c)
			}
		})
	}
}

// Rule 5: what is asked of a copy leaves the count that New answered as it is.
func TestCopyChangesNothing(t *testing.T) {
	b := counted(t, 3, 7, 7)
	copied := *b.c
	copied.Add(3)
	copied.Add(4)
	copied.Release(7)
	copied.Drop(3)
	b.want()
}

// Counts have their processes each by itself.
func TestCountsAreApart(t *testing.T) {
	a, b := counted(t, 3, 7, 7), counted(t, 7)
	if a.c == b.c {
		t.Fatal("New: the same count twice")
	}
	b.add(4)
	b.release(7)
	a.drop(3)
	a.want()
	b.want()
}

// scribble changes all of a list, its spare room too, and appends to it.
func scribble(l []int) {
	_ = append(l, 4711)
	l = l[:cap(l)]
	for i := range l {
		l[i] = -4711
	}
}

// Rule 4: a list of holders is the asker's own, its spare room too: whatever is done to it changes nothing, neither in the count nor in another answer.
func TestHoldersAreTheirOwn(t *testing.T) {
	for many := range 40 {
		b := newBoth(t)
		for pid := range many {
			b.add(many - pid)
			b.add(many - pid)
		}
		first, second := b.c.Holders(), b.c.Holders()
		scribble(first)
		if !slices.Equal(second, b.m.holders()) {
			t.Errorf("Holders: %v, behind a change of another answer", second)
		}
		b.want()
		scribble(second)
		third := b.c.Holders()
		// Room that was left for more is not written to by what comes later.
		third = append(third, -1)
		b.add(many + 1)
		fourth := b.c.Holders()
		if !slices.Equal(third[:many], fourth[:many]) || third[many] != -1 || fourth[many] != many+1 {
			t.Errorf("Holders: %v, %v, behind an append to the first one", third, fourth)
		}
		b.want()
	}
}

// Rule 4: a list of holders stays as it was, whatever is done to the count behind it.
func TestHoldersStay(t *testing.T) {
	b := counted(t, 9, 2, 5, 5)
	l := b.c.Holders()
	b.add(1)
	b.drop(5)
	b.release(9)
	b.c.Holders()
	if !slices.Equal(l, []int{2, 5, 9}) {
		t.Errorf("Holders: %v, behind changes of the count; want 2 5 9", l)
	}
	b.want()
}

// wantFull asks that nobody can fix any more, neither who has nor who has not, that it is told of what is no process first, and that nothing changes by it.
func wantFull(t *testing.T, c *fix.Count, holders ...int) {
	t.Helper()
	for range 2 {
		for _, pid := range slices.Concat(holders, edges) {
			before := c.Of(pid)
			wantAdd(t, c, pid, api.ErrFull)
			wantOf(t, c, pid, before)
		}
		for _, pid := range wrong {
			wantAdd(t, c, pid, api.ErrArg)
			wantOf(t, c, pid, 0)
		}
	}
	wantTotal(t, c, most)
	wantHolders(t, c, holders...)
}

// P12.1, P12.2: there are at most 2^30 in all, of one process or of several, and as many again where some were let go.
func TestMost(t *testing.T) {
	c := newCount(t)
	for n := range most {
		if e := c.Add(7); e != api.OK {
			t.Fatalf("Add(7): %v, of %d in all", e, n)
		}
	}
	wantOf(t, c, 7, most)
	wantFull(t, c, 7)
	wantRelease(t, c, 7, false, api.OK)
	wantTotal(t, c, most-1)
	wantAdd(t, c, greatest, api.OK)
	wantFull(t, c, 7, greatest)
	wantRelease(t, c, 7, false, api.OK)
	wantRelease(t, c, 7, false, api.OK)
	wantAdd(t, c, 0, api.OK)
	wantAdd(t, c, 7, api.OK)
	wantFull(t, c, 0, 7, greatest)
	wantDrop(t, c, greatest, 1, false)
	wantAdd(t, c, 0, api.OK)
	wantFull(t, c, 0, 7)
	wantDrop(t, c, 0, 2, false)
	wantTotal(t, c, most-2)
	wantAdd(t, c, 7, api.OK)
	wantAdd(t, c, 7, api.OK)
	wantFull(t, c, 7)
	wantDrop(t, c, 7, most, true)
	wantTotal(t, c, 0)
	wantHolders(t, c)
	wantAdd(t, c, 7, api.OK)
	wantOf(t, c, 7, 1)
}

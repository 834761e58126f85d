package fix_test

import (
	"slices"
	"testing"

	"tenure/api"
	"tenure/fix"
)

// model is what a count must tell: a plain list of all who have fixed, each as often as it has.
type model struct {
	pids []int
}

func (m *model) add(pid int) api.Errno {
	if pid < least || pid > greatest {
		return api.ErrArg
	}
	m.pids = append(m.pids, pid)
	return api.OK
}

func (m *model) release(pid int) (bool, api.Errno) {
	place := slices.Index(m.pids, pid)
	if place < 0 {
		return false, api.ErrState
	}
	m.pids = slices.Concat(m.pids[:place], m.pids[place+1:])
	return len(m.pids) == 0, api.OK
}

func (m *model) drop(pid int) (int, bool) {
	var others []int
	for _, other := range m.pids {
		if other != pid {
			others = append(others, other)
		}
	}
	times := len(m.pids) - len(others)
	m.pids = others
	return times, times > 0 && len(others) == 0
}

func (m *model) of(pid int) int {
	times := 0
	for _, other := range m.pids {
		if other == pid {
			times++
		}
	}
	return times
}

func (m *model) holders() []int {
	rising := slices.Clone(m.pids)
	slices.Sort(rising)
	return slices.Compact(rising)
}

// want asks that a count tells just what the list says.
func (m *model) want(t *testing.T, c *fix.Count) {
	t.Helper()
	wantHolders(t, c, m.holders()...)
	wantTotal(t, c, len(m.pids))
	sum := 0
	for _, pid := range m.holders() {
		wantOf(t, c, pid, m.of(pid))
		sum += c.Of(pid)
	}
	if c.Total() != sum {
		t.Errorf("Total: %d, and %d over the holders", c.Total(), sum)
	}
}

// both asks one thing of a count and of the list alike.
type both struct {
	t *testing.T
	c *fix.Count
	m *model
}

func newBoth(t *testing.T) both {
	t.Helper()
	return both{t, newCount(t), &model{}}
}

func (b both) add(pid int) {
	b.t.Helper()
	wantAdd(b.t, b.c, pid, b.m.add(pid))
}

func (b both) release(pid int) {
	b.t.Helper()
	last, e := b.m.release(pid)
	wantRelease(b.t, b.c, pid, last, e)
}

func (b both) drop(pid int) {
	b.t.Helper()
	times, last := b.m.drop(pid)
	wantDrop(b.t, b.c, pid, times, last)
}

func (b both) want() {
	b.t.Helper()
	b.m.want(b.t, b.c)
}

// draws tells numbers that look drawn, the same ones each time.
func draws(seed uint64) func(below int) int {
	return func(below int) int {
		seed = seed*6364136223846793005 + 1442695040888963407
		return int(seed>>33) % below
	}
}

// P12.1 to P12.3: whatever is asked in whatever order, the count tells what a plain list of all who have fixed tells.
func TestAgainstList(t *testing.T) {
	near := []int{0, 1, 2, greatest, greatest - 1, greatest / 2, -1, greatest + 1}
	for seed, form := range []struct{ pids, adds, calls int }{{1, 1, 200}, {1, 2, 300}, {2, 1, 600}, {2, 3, 600}, {3, 1, 1000}, {4, 2, 1500}, {8, 1, 2000}, {8, 3, 1500}, {30, 2, 2000}, {300, 2, 1500}} {
		b, draw := newBoth(t), draws(uint64(seed))
		for call := range form.calls {
			pid := draw(form.pids)
			if pid < len(near) && seed%2 == 0 {
				pid = near[pid]
			}
			switch kind := draw(form.adds + 3); kind {
			case 0, 1:
				b.release(pid)
			case 2:
				b.drop(pid)
			default:
				b.add(pid)
			}
			wantOf(t, b.c, pid, b.m.of(pid))
			b.want()
			if t.Failed() {
				t.Fatalf("behind %d calls of %+v", call+1, form)
			}
		}
	}
}

// P12.3: of all orders in which three processes that have fixed once, twice and three times let go, one by one or at once, just the last call is told to be it.
func TestJustTheLast(t *testing.T) {
	pids := []int{5, 0, greatest}
	for form := range 1 << len(pids) {
		for seed := range 60 {
			b, draw := newBoth(t), draws(uint64(seed))
			for i, pid := range pids {
				for range i + 1 {
					b.add(pid)
				}
			}
			for b.c.Total() > 0 && !t.Failed() {
				i := draw(len(pids))
				if form>>i&1 == 1 {
					b.drop(pids[i])
				} else {
					b.release(pids[i])
				}
				b.want()
			}
			for _, pid := range pids {
				b.release(pid)
				b.drop(pid)
			}
			b.want()
		}
	}
}

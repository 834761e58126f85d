package arena_test

import (
	"math"
	"slices"
	"testing"

	"tenure/api"
	"tenure/arena"
)

// The most words of an arena, written anew from the chapter.
const mostWords = 1 << 24

// classes are all size classes, rising: by doubling alone.
func classes() []int {
	l := []int{2}
	for power := 4; power <= mostWords; power *= 2 {
		l = append(l, power/4*3, power)
	}
	return l
}

// round rounds a number up by looking through all classes.
func round(n int) int {
	for _, class := range classes() {
		if n >= 1 && n <= class {
			return class
		}
	}
	return 0
}

// words tells so many words, no two alike, and none as in words of another mark.
func words(many, mark int) []uint64 {
	l := make([]uint64, many)
	for i := range l {
		l[i] = ^uint64(0) - uint64(mark)<<32 - uint64(i)
	}
	return l
}

// notWords are numbers of words that no block and no arena has.
func notWords() []int {
	return []int{0, -1, -2, -3, -16, mostWords + 1, mostWords + 2, 3 << 23, 1 << 25, 1<<31 - 1, 1 << 31, 1 << 32, 1<<32 + 2, 1 << 40, 1<<62 + 3, -mostWords, -1 << 32, math.MinInt, math.MinInt + 1, math.MaxInt - 1, math.MaxInt}
}

// lengthsOf are lengths of words that are rounded up to a class: all of a small one, the ends and some between of a great one.
func lengthsOf(class int) []int {
	below := 0
	for _, c := range classes() {
		if c < class {
			below = c
		}
	}
	if class-below <= 20 {
		var l []int
		for n := below + 1; n <= class; n++ {
			l = append(l, n)
		}
		return l
	}
	return []int{below + 1, below + 2, (below + class) / 2, class - 1, class}
}

func newArena(t *testing.T, many int) *arena.Arena {
	t.Helper()
	a, e := arena.New(many)
	if a == nil || e != api.OK {
		t.Fatalf("New(%d): %v, %v", many, a, e)
	}
	return a
}

func wantTake(t *testing.T, a *arena.Arena, l []uint64, block int, errno api.Errno) {
	t.Helper()
	if n, e := a.Take(l); n != block || e != errno {
		t.Errorf("Take(%d words): %d, %v; want %d, %v", len(l), n, e, block, errno)
	}
}

func wantGet(t *testing.T, a *arena.Arena, block int, l []uint64, errno api.Errno) {
	t.Helper()
	if got, e := a.Get(block); !slices.Equal(got, l) || e != errno {
		t.Errorf("Get(%d): %d words, %.10v, %v; want %d words, %.10v, %v", block, len(got), got, e, len(l), l, errno)
	}
}

func wantSet(t *testing.T, a *arena.Arena, block int, l []uint64, errno api.Errno) {
	t.Helper()
	if e := a.Set(block, l); e != errno {
		t.Errorf("Set(%d, %d words): %v; want %v", block, len(l), e, errno)
	}
}

func wantDrop(t *testing.T, a *arena.Arena, block int, errno api.Errno) {
	t.Helper()
	if e := a.Drop(block); e != errno {
		t.Errorf("Drop(%d): %v; want %v", block, e, errno)
	}
}

// wantMissing asks that a number is no block's.
func wantMissing(t *testing.T, a *arena.Arena, block int) {
	t.Helper()
	wantGet(t, a, block, nil, api.ErrMissing)
	wantDrop(t, a, block, api.ErrMissing)
	// That there is none is told ahead of that its words can't be these.
	for _, many := range []int{0, 1, 2, 5} {
		wantSet(t, a, block, words(many, 1), api.ErrMissing)
	}
}

func wantCounts(t *testing.T, a *arena.Arena, left, used int) {
	t.Helper()
	if l, u := a.Left(), a.Used(); l != left || u != used {
		t.Errorf("Left, Used: %d, %d; want %d, %d", l, u, left, used)
	}
}

func wantBlocks(t *testing.T, a *arena.Arena, want ...int) {
	t.Helper()
	if l := a.Blocks(); !slices.Equal(l, want) {
		t.Errorf("Blocks: %.20v (%d); want %.20v (%d)", l, len(l), want, len(want))
	}
}

// model is what an arena must tell: its blocks in a plain list, by their numbers, those that are dropped having none.
type model struct {
	all    int
	blocks [][]uint64
}

func (m *model) used() int {
	sum := 0
	for _, l := range m.blocks {
		sum += round(len(l))
	}
	return sum
}

func (m *model) at(block int) []uint64 {
	if block < 1 || block > len(m.blocks) {
		return nil
	}
	return m.blocks[block-1]
}

func (m *model) take(l []uint64) (int, api.Errno) {
	class := round(len(l))
	if class == 0 {
		return 0, api.ErrArg
	}
	if m.used()+class > m.all {
		return 0, api.ErrLimit
	}
	m.blocks = append(m.blocks, slices.Clone(l))
	return len(m.blocks), api.OK
}

func (m *model) set(block int, l []uint64) api.Errno {
	old := m.at(block)
	if old == nil {
		return api.ErrMissing
	}
	if round(len(l)) != round(len(old)) {
		return api.ErrArg
	}
	m.blocks[block-1] = slices.Clone(l)
	return api.OK
}

func (m *model) drop(block int) api.Errno {
	if m.at(block) == nil {
		return api.ErrMissing
	}
	m.blocks[block-1] = nil
	return api.OK
}

// want asks that an arena has just what the model has.
func (m *model) want(t *testing.T, a *arena.Arena) {
	t.Helper()
	wantCounts(t, a, m.all-m.used(), m.used())
	var numbers []int
	for i, l := range m.blocks {
		if l == nil {
			wantMissing(t, a, i+1)
			continue
		}
		numbers = append(numbers, i+1)
		wantGet(t, a, i+1, l, api.OK)
	}
	wantBlocks(t, a, numbers...)
	for _, block := range []int{0, -1, -len(m.blocks), len(m.blocks) + 1, len(m.blocks) + 2, 1 << 31, 1<<32 + 1, math.MinInt, math.MaxInt} {
		wantMissing(t, a, block)
	}
}

// P8.1 to P8.3: the chapter's examples.
func TestExamples(t *testing.T) {
	for n, want := range map[int]int{1: 2, 5: 6, 6: 6, 7: 8, 13: 16, 0: 0} {
		if got := arena.Round(n); got != want {
			t.Errorf("Round(%d): %d; want %d", n, got, want)
		}
	}
	a := newArena(t, 10)
	wantTake(t, a, words(5, 1), 1, api.OK)
	wantTake(t, a, words(3, 2), 2, api.OK)
	wantCounts(t, a, 1, 9)
	wantTake(t, a, words(1, 3), 0, api.ErrLimit)
	wantDrop(t, a, 1, api.OK)
	wantTake(t, a, words(6, 4), 3, api.OK)
	wantBlocks(t, a, 2, 3)
	wantSet(t, a, 2, words(2, 5), api.ErrArg)
	wantSet(t, a, 2, words(3, 6), api.OK)
	wantGet(t, a, 1, nil, api.ErrMissing)
	wantGet(t, a, 2, words(3, 6), api.OK)
	wantGet(t, a, 3, words(6, 4), api.OK)
}

// P8.1: the first classes and the last ones, as the chapter writes them.
func TestClasses(t *testing.T) {
	l := classes()
	if first := []int{2, 3, 4, 6, 8, 12, 16, 24}; !slices.Equal(l[:8], first) {
		t.Errorf("classes: %v; want %v", l[:8], first)
	}
	if last := []int{1 << 23, 3 << 22, 1 << 24}; !slices.Equal(l[len(l)-3:], last) {
		t.Errorf("classes: %v; want %v", l[len(l)-3:], last)
	}
	for _, class := range l {
		if got := arena.Round(class); got != class {
			t.Errorf("Round(%d): %d", class, got)
		}
	}
}

// P8.1, P8.4: each number from 1 to 2^24 is rounded up to the least class that is not less, and that is less than one and a half times as much, but for 1.
func TestRoundAll(t *testing.T) {
	n := 1
	for _, class := range classes() {
		for ; n <= class; n++ {
			got := arena.Round(n)
			if got != class {
				t.Fatalf("Round(%d): %d; want %d", n, got, class)
			}
			if n > 1 && 2*got >= 3*n {
				t.Fatalf("Round(%d): %d, half as much again", n, got)
			}
		}
	}
	if n != mostWords+1 {
		t.Errorf("%d numbers; want %d", n-1, mostWords)
	}
}

// P8.1: of numbers that are not from 1 to 2^24 there is no class, and no arena.
func TestNoNumberOfWords(t *testing.T) {
	for _, n := range notWords() {
		if got := arena.Round(n); got != 0 {
			t.Errorf("Round(%d): %d; want 0", n, got)
		}
		if a, e := arena.New(n); a != nil || e != api.ErrArg {
			t.Errorf("New(%d): %v, %v; want nil, %v", n, a, e, api.ErrArg)
		}
	}
}

// P8.1, P8.3: a new arena has all its words left, whether their number is a class or not, and no blocks.
func TestNewArena(t *testing.T) {
	sizes := []int{1, 2, 3, 4, 5, 6, 7, 10, 1000, 65535, 65536, 65537, mostWords - 1, mostWords}
	for _, many := range sizes {
		a := newArena(t, many)
		for range 2 {
			(&model{all: many}).want(t, a)
		}
	}
}

// P8.2: an arena of as many words as a class takes one block of it, whatever its words; one word less is too few.
func TestRoomForOneBlock(t *testing.T) {
	for _, class := range classes() {
		if class > 1<<16 {
			break
		}
		for _, length := range lengthsOf(class) {
			l := words(length, 7)
			m := &model{all: class}
			a := newArena(t, class)
			wantTake(t, a, l, 1, api.OK)
			m.take(l)
			m.want(t, a)
			for _, many := range []int{1, 2, length} {
				wantTake(t, a, words(many, 8), 0, api.ErrLimit)
			}
			m.want(t, a)
			few := newArena(t, class-1)
			for range 2 {
				wantTake(t, few, l, 0, api.ErrLimit)
				(&model{all: class - 1}).want(t, few)
			}
			more := newArena(t, class+1)
			wantTake(t, more, l, 1, api.OK)
			wantCounts(t, more, 1, class)
		}
	}
}

// P8.2: an arena of one word has no room for any block, since one word needs two.
func TestArenaOfOneWord(t *testing.T) {
	a := newArena(t, 1)
	for _, many := range []int{1, 2, 3, 1000} {
		wantTake(t, a, words(many, 1), 0, api.ErrLimit)
	}
	wantTake(t, a, nil, 0, api.ErrArg)
	wantCounts(t, a, 1, 0)
	wantBlocks(t, a)
}

// P8.2, P8.3: an arena is filled just to its last word by blocks of all small classes; then nothing more is taken, till one is dropped: then what needs no more than that.
func TestJustFull(t *testing.T) {
	m := &model{}
	for length := 1; length <= 40; length++ {
		m.all += round(length)
	}
	a := newArena(t, m.all)
	for length := 1; length <= 40; length++ {
		wantTake(t, a, words(length, length), length, api.OK)
		m.take(words(length, length))
		m.want(t, a)
	}
	wantCounts(t, a, 0, m.all)
	for length := 1; length <= 50; length++ {
		wantTake(t, a, words(length, 99), 0, api.ErrLimit)
	}
	m.want(t, a)
	for block := 40; block >= 1; block-- {
		class := round(block)
		wantDrop(t, a, block, api.OK)
		m.drop(block)
		wantCounts(t, a, class, m.all-class)
		wantTake(t, a, words(class+1, 98), 0, api.ErrLimit)
		last := len(m.blocks) + 1
		wantTake(t, a, words(class, 97), last, api.OK)
		m.take(words(class, 97))
		wantTake(t, a, words(1, 96), 0, api.ErrLimit)
		m.want(t, a)
	}
}

// P8.2: of each number of words that may be left, there is room for just what is rounded up to no more.
func TestRoomThatIsLeft(t *testing.T) {
	const all = 60
	for used := 2; used < all; used++ {
		class := round(used)
		if class >= all {
			break
		}
		for length := 1; length <= all; length++ {
			a := newArena(t, all)
			wantTake(t, a, words(used, 1), 1, api.OK)
			if class+round(length) > all {
				wantTake(t, a, words(length, 2), 0, api.ErrLimit)
				wantCounts(t, a, all-class, class)
				wantBlocks(t, a, 1)
				continue
			}
			wantTake(t, a, words(length, 2), 2, api.OK)
			wantCounts(t, a, all-class-round(length), class+round(length))
			wantBlocks(t, a, 1, 2)
		}
	}
}

// P8.2: a block of no words, and of more than 2^24, is refused as such, in a full arena, too.
func TestTakeOfNone(t *testing.T) {
	tooMany := make([]uint64, mostWords+1)
	a := newArena(t, 4)
	for range 2 {
		for _, l := range [][]uint64{nil, {}, tooMany[:0], tooMany} {
			wantTake(t, a, l, 0, api.ErrArg)
		}
		wantTake(t, a, tooMany[:mostWords], 0, api.ErrLimit)
		if len(a.Blocks()) == 0 {
			wantCounts(t, a, 4, 0)
			wantTake(t, a, words(4, 1), 1, api.OK)
		}
	}
	wantCounts(t, a, 0, 4)
	wantBlocks(t, a, 1)
	wantGet(t, a, 1, words(4, 1), api.OK)
}

// P8.2: the greatest arena takes one block of all its words, also of one class less and one word more; its words are set to as many.
func TestGreatestBlock(t *testing.T) {
	room := words(mostWords+1, 3)
	for _, length := range []int{mostWords, 3<<22 + 1, 3 << 22} {
		class := round(length)
		a := newArena(t, mostWords)
		wantTake(t, a, room[:length], 1, api.OK)
		wantCounts(t, a, mostWords-class, class)
		wantGet(t, a, 1, room[:length], api.OK)
		if class == mostWords {
			wantTake(t, a, room[:1], 0, api.ErrLimit)
			wantSet(t, a, 1, room[1:], api.OK)
			wantGet(t, a, 1, room[1:], api.OK)
			wantSet(t, a, 1, room[:3<<22], api.ErrArg)
		}
		wantSet(t, a, 1, room, api.ErrArg)
		wantSet(t, a, 1, nil, api.ErrArg)
		wantCounts(t, a, mostWords-class, class)
		wantDrop(t, a, 1, api.OK)
		wantCounts(t, a, mostWords, 0)
		few := newArena(t, class-1)
		wantTake(t, few, room[:length], 0, api.ErrLimit)
		wantCounts(t, few, class-1, 0)
	}
}

// P8.2: a block's words are set to as many as its class holds, from the fewest to the most, and back, by which the counts stay; to one fewer or one more they are not.
func TestSet(t *testing.T) {
	room := make([]uint64, mostWords)
	for _, class := range classes() {
		if class > 1<<14 {
			break
		}
		lengths := lengthsOf(class)
		fewest := lengths[0]
		m := &model{all: class + 10, blocks: [][]uint64{words(2, 90), words(lengths[len(lengths)/2], 91), words(4, 92)}}
		a := newArena(t, m.all)
		for i, l := range m.blocks {
			wantTake(t, a, l, i+1, api.OK)
		}
		for mark, length := range slices.Concat(lengths, []int{fewest, class, fewest}) {
			l := words(length, mark)
			wantSet(t, a, 2, l, api.OK)
			m.set(2, l)
			m.want(t, a)
			for _, many := range []int{fewest - 1, class + 1, 0, 2 * class, class * 3 / 2, mostWords} {
				wantSet(t, a, 2, room[:many], api.ErrArg)
			}
			wantGet(t, a, 2, l, api.OK)
		}
		m.want(t, a)
	}
}

// P8.2: words of each length are set to just the blocks of their class, each of which keeps the class that it was taken with.
func TestSetOfEachClass(t *testing.T) {
	const most = 40
	a := newArena(t, 4000)
	for length := 1; length <= most; length++ {
		wantTake(t, a, words(length, length), length, api.OK)
	}
	used := a.Used()
	for block := 1; block <= most; block++ {
		for length := 0; length <= most+10; length++ {
			old, _ := a.Get(block)
			if length > 0 && round(length) == round(block) {
				wantSet(t, a, block, words(length, 100+length), api.OK)
				wantGet(t, a, block, words(length, 100+length), api.OK)
				continue
			}
			wantSet(t, a, block, words(length, 100+length), api.ErrArg)
			wantGet(t, a, block, old, api.OK)
		}
		wantCounts(t, a, 4000-used, used)
	}
	for block := 1; block <= most; block++ {
		wantDrop(t, a, block, api.OK)
		used -= round(block)
		wantCounts(t, a, 4000-used, used)
	}
}

// P8.2: a number that was given is never given again: not that of a block that was dropped, the last one or not; and what is refused takes none.
func TestNumbersAreNeverGivenAgain(t *testing.T) {
	a := newArena(t, 8)
	next := 1
	for range 300 {
		wantTake(t, a, words(1, next), next, api.OK)
		wantTake(t, a, words(9, 0), 0, api.ErrLimit)
		wantTake(t, a, nil, 0, api.ErrArg)
		wantTake(t, a, words(3, next+1), next+1, api.OK)
		wantDrop(t, a, next+1, api.OK)
		wantTake(t, a, words(4, next+2), next+2, api.OK)
		wantBlocks(t, a, next, next+2)
		wantDrop(t, a, next, api.OK)
		wantDrop(t, a, next+2, api.OK)
		wantCounts(t, a, 8, 0)
		next += 3
	}
	wantBlocks(t, a)
	for block := range next + 2 {
		wantMissing(t, a, block)
	}
}

// P8.2: a block that is dropped is not there any more: it is dropped once alone, and gives its words back once.
func TestDropTwice(t *testing.T) {
	m := &model{all: 30}
	a := newArena(t, m.all)
	for i, length := range []int{1, 5, 7, 3} {
		wantTake(t, a, words(length, i), i+1, api.OK)
		m.take(words(length, i))
	}
	for _, block := range []int{2, 4, 1, 3} {
		wantDrop(t, a, block, api.OK)
		m.drop(block)
		for range 2 {
			wantMissing(t, a, block)
			m.want(t, a)
		}
	}
	wantCounts(t, a, 30, 0)
	wantTake(t, a, words(24, 1), 5, api.OK)
}

// P8.2: numbers that no block has are missing, in an arena with blocks and in one without.
func TestNoSuchBlock(t *testing.T) {
	numbers := append(notWords(), 4, 5, 6, 16, 17, 1<<16, 1<<32+1, 1<<32+3)
	m := &model{all: 100}
	a := newArena(t, m.all)
	for _, block := range append(numbers, 1, 2, 3) {
		wantMissing(t, a, block)
	}
	for i := range 3 {
		wantTake(t, a, words(i+1, i), i+1, api.OK)
		m.take(words(i+1, i))
	}
	for _, block := range numbers {
		wantMissing(t, a, block)
	}
	m.want(t, a)
}

// P8.2: words are any words, zeros as well; none is looked at.
func TestAnyWords(t *testing.T) {
	l := []uint64{0, 1, math.MaxUint64, 1 << 63, 0, 24, 12, 0}
	a := newArena(t, 100)
	for length := 1; length <= len(l); length++ {
		wantTake(t, a, l[:length], length, api.OK)
		wantGet(t, a, length, l[:length], api.OK)
		wantSet(t, a, length, make([]uint64, length), api.OK)
		wantGet(t, a, length, make([]uint64, length), api.OK)
	}
}

// P8.3: all blocks' numbers are told rising, many of them as well.
func TestManyBlocks(t *testing.T) {
	const many = 3000
	a := newArena(t, 2*many)
	var want []int
	for block := 1; block <= many; block++ {
		wantTake(t, a, words(1+block%2, block), block, api.OK)
		want = append(want, block)
	}
	wantBlocks(t, a, want...)
	wantTake(t, a, words(1, 0), 0, api.ErrLimit)
	odd := func(block int) bool { return block%3 == 1 }
	for _, block := range want {
		if odd(block) {
			wantDrop(t, a, block, api.OK)
		}
	}
	want = slices.DeleteFunc(want, odd)
	wantBlocks(t, a, want...)
	wantCounts(t, a, 2*many-2*len(want), 2*len(want))
	for _, block := range want {
		wantGet(t, a, block, words(1+block%2, block), api.OK)
	}
}

// none are arenas that New did not answer: none at all, one without anything, and a copy of one that has blocks.
func none(t *testing.T) map[string]*arena.Arena {
	t.Helper()
	a := newArena(t, 100)
	wantTake(t, a, words(3, 1), 1, api.OK)
	copied := *a
	return map[string]*arena.Arena{"nil": nil, "zero": {}, "new": new(arena.Arena), "copy": &copied}
}

// P1, rule 5: an arena that New did not answer tells that it is none ahead of all else, and has nothing.
func TestNoArena(t *testing.T) {
	tooMany := make([]uint64, mostWords+1)
	for name, a := range none(t) {
		t.Run(name, func(t *testing.T) {
			for range 2 {
				for _, l := range [][]uint64{nil, {}, words(1, 1), words(3, 1), tooMany[:mostWords], tooMany} {
					wantTake(t, a, l, 0, api.ErrNil)
					for _, block := range []int{-1, 0, 1, 2, math.MaxInt} {
						wantSet(t, a, block, l, api.ErrNil)
					}
				}
				for _, block := range append(notWords(), 1, 2) {
					wantGet(t, a, block, nil, api.ErrNil)
					wantDrop(t, a, block, api.ErrNil)
				}
				wantCounts(t, a, 0, 0)
				wantBlocks(t, a)
			}
		})
	}
}

// Rule 5: what is asked of a copy leaves the arena that New answered as it is.
func TestCopyChangesNothing(t *testing.T) {
	m := &model{all: 10}
	a := newArena(t, m.all)
	m.take(words(3, 1))
	wantTake(t, a, words(3, 1), 1, api.OK)
	copied := *a
	wantTake(t, &copied, words(2, 2), 0, api.ErrNil)
	wantSet(t, &copied, 1, words(3, 2), api.ErrNil)
	wantDrop(t, &copied, 1, api.ErrNil)
	m.want(t, a)
	wantTake(t, a, words(6, 3), 2, api.OK)
	m.take(words(6, 3))
	m.want(t, a)
}

// P8.4: arenas have their blocks, numbers and counts each by itself.
func TestArenasAreApart(t *testing.T) {
	a, b := newArena(t, 20), newArena(t, 20)
	if a == b {
		t.Fatal("New: the same arena twice")
	}
	wantTake(t, a, words(3, 1), 1, api.OK)
	wantTake(t, a, words(5, 2), 2, api.OK)
	wantCounts(t, b, 20, 0)
	wantBlocks(t, b)
	wantMissing(t, b, 1)
	wantTake(t, b, words(4, 3), 1, api.OK)
	wantDrop(t, a, 1, api.OK)
	wantGet(t, b, 1, words(4, 3), api.OK)
	wantCounts(t, a, 14, 6)
	wantCounts(t, b, 16, 4)
}

// scribble changes all words of a slice, those of its spare room too.
func scribble(l []uint64) {
	l = l[:cap(l)]
	for i := range l {
		l[i] = 4711
	}
}

// Rule 4: what was taken or set stays as it was, whatever is done to the slice that was handed in.
func TestWordsAreNotKept(t *testing.T) {
	for length := 1; length <= 33; length++ {
		a := newArena(t, 200)
		l := words(length, 1)
		wantTake(t, a, l, 1, api.OK)
		wantTake(t, a, l, 2, api.OK)
		scribble(l)
		wantGet(t, a, 1, words(length, 1), api.OK)
		l = words(length, 2)
		wantSet(t, a, 1, l, api.OK)
		scribble(l)
		wantGet(t, a, 1, words(length, 2), api.OK)
		wantGet(t, a, 2, words(length, 1), api.OK)
	}
}

// Rule 4: what is handed in is left as it is, the words behind it too, and these are not handed out.
func TestHandedInStaysAsItIs(t *testing.T) {
	for length := 1; length <= 33; length++ {
		room := words(length+40, 1)
		a := newArena(t, 400)
		wantTake(t, a, room[:length], 1, api.OK)
		wantSet(t, a, 1, room[:length], api.OK)
		wantSet(t, a, 1, words(length, 2), api.OK)
		wantSet(t, a, 1, room[:length+40], api.ErrArg)
		wantTake(t, a, room[3:length+40], 2, api.OK)
		if !slices.Equal(room, words(length+40, 1)) {
			t.Errorf("Take or Set of %d words changed what was handed in", length)
		}
		wantTake(t, a, room[:length], 3, api.OK)
		l, _ := a.Get(3)
		for i, w := range l[length:cap(l)] {
			if w == room[length+i] {
				t.Errorf("Get answers what stood behind the %d words that were handed in", length)
			}
		}
		scribble(l)
		if !slices.Equal(room, words(length+40, 1)) {
			t.Errorf("Get answers %d words that were handed in", length)
		}
	}
}

// Rule 4: an answer is new memory: what is done to one, and to its spare room, reaches neither the arena nor another answer.
func TestAnswersAreTheirOwn(t *testing.T) {
	for length := 1; length <= 33; length++ {
		m := &model{all: 200}
		a := newArena(t, m.all)
		for block := 1; block <= 2; block++ {
			wantTake(t, a, words(length, block), block, api.OK)
			m.take(words(length, block))
		}
		first, _ := a.Get(1)
		second, _ := a.Get(1)
		scribble(first)
		if !slices.Equal(second, words(length, 1)) {
			t.Errorf("Get: %v, behind a change of another answer", second)
		}
		m.want(t, a)
		// An answer that was set is the caller's own further on.
		wantSet(t, a, 2, second, api.OK)
		m.set(2, words(length, 1))
		scribble(second)
		m.want(t, a)
	}
}

// Rule 4: the numbers that Blocks answers are the caller's own.
func TestNumbersAreTheirOwn(t *testing.T) {
	m := &model{all: 60}
	a := newArena(t, m.all)
	for block := 1; block <= 10; block++ {
		wantTake(t, a, words(3, block), block, api.OK)
		m.take(words(3, block))
	}
	first, second := a.Blocks(), a.Blocks()
	first = first[:cap(first)]
	for i := range first {
		first[i] = -1
	}
	if want := []int{1, 2, 3, 4, 5, 6, 7, 8, 9, 10}; !slices.Equal(second, want) {
		t.Errorf("Blocks: %v, behind a change of another answer", second)
	}
	m.want(t, a)
}

// draws tells numbers that look drawn, the same ones each time.
func draws(seed uint64) func(below int) int {
	return func(below int) int {
		seed = seed*6364136223846793005 + 1442695040888963407
		return int(seed>>33) % below
	}
}

// step asks one thing of an arena and of the model alike: something is taken, set or dropped.
func step(t *testing.T, a *arena.Arena, m *model, draw func(int) int, most, mark int) {
	t.Helper()
	l := words(draw(most+1), mark)
	block := draw(len(m.blocks)+3) - 1
	switch draw(5) {
	case 0, 1:
		n, errno := m.take(l)
		wantTake(t, a, l, n, errno)
	case 2:
		wantSet(t, a, block, l, m.set(block, l))
	case 3:
		if old := m.at(block); old != nil {
			// As many words as there are may always be set.
			l = words(len(old), mark)
			wantSet(t, a, block, l, m.set(block, l))
		}
	case 4:
		wantDrop(t, a, block, m.drop(block))
	}
	scribble(l)
}

// P8.2 to P8.4: whatever is asked in whatever order, the arena tells what a plain list tells, and Left and Used are all words.
func TestAgainstList(t *testing.T) {
	for seed, form := range []struct{ all, most, calls int }{{1, 3, 50}, {5, 4, 300}, {12, 8, 300}, {30, 13, 400}, {100, 20, 400}, {100, 70, 400}, {1000, 100, 400}, {1 << 20, 5000, 60}} {
		a, m, draw := newArena(t, form.all), &model{all: form.all}, draws(uint64(seed))
		for mark := range form.calls {
			step(t, a, m, draw, form.most, mark)
			wantCounts(t, a, form.all-m.used(), m.used())
			if mark%10 == 0 {
				m.want(t, a)
			}
			if t.Failed() {
				t.Fatalf("behind %d calls of %+v", mark+1, form)
			}
		}
		m.want(t, a)
	}
}

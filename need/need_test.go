package need_test

import (
	"math"
	"slices"
	"testing"

	"tenure/api"
	"tenure/need"
)

// notKinds are numbers of no kind.
var notKinds = []int{0, 5, 6, 7, 8, 9, 16, 20, 255, 256, 257, 1<<31 - 1, 1 << 31, 1 << 32, 1<<32 + 1, 1<<32 + 2, 1<<32 + 4, 1<<62 + 3, -1, -2, -3, -4, -5, -1 << 32, 1 - 1<<32, math.MinInt, math.MinInt + 1, math.MinInt + 2, math.MaxInt - 1, math.MaxInt}

// notBuckets are numbers that there are never of buckets.
var notBuckets = []int{-1, -2, -15, -16, -17, -mostBuckets, mostBuckets + 1, mostBuckets + 2, mostBuckets + 16, 2 * mostBuckets, 1<<31 - 1, 1 << 31, 1 << 32, 1<<32 + 1, 1<<32 + 16, 1<<62 + 16, -1 << 32, 16 - 1<<32, math.MinInt, math.MinInt + 1, math.MinInt + 16, math.MaxInt - 16, math.MaxInt - 1, math.MaxInt}

// notCounts are numbers that there are never of objects.
var notCounts = []int{-1, -2, -17, -mostObjects, mostObjects + 1, mostObjects + 2, 2 * mostObjects, 1<<31 - 1, 1 << 31, 1 << 32, 1<<32 + 1, 1<<62 + 1, -1 << 32, 1 - 1<<32, math.MinInt, math.MinInt + 1, math.MaxInt - 1, math.MaxInt}

// someBuckets are those about the sixteens, and about the most.
var someBuckets = []int{0, 1, 2, 3, 4, 7, 8, 14, 15, 16, 17, 18, 30, 31, 32, 33, 47, 48, 49, 255, 256, 257, 1023, 1024, 1025, 1 << 16, 1<<16 + 1, 1<<19 - 1, 1 << 19, 1<<19 + 1, mostBuckets - 17, mostBuckets - 16, mostBuckets - 15, mostBuckets - 2, mostBuckets - 1, mostBuckets}

// countsAbout are counts for which so many buckets are just enough and just not, and those at the bounds.
func countsAbout(buckets int) []int {
	l := []int{0, 1, 2, mostObjects - 1, mostObjects}
	for d := -4; d <= 4; d++ {
		l = append(l, max(0, 2*buckets+d), max(0, buckets+d))
	}
	return l
}

func wantObject(t *testing.T, name string, x api.Term, want int, errno api.Errno) {
	t.Helper()
	if n, e := need.Object(x); n != want || e != errno {
		t.Errorf("Object(%s): %d, %v; want %d, %v", name, n, e, want, errno)
	}
}

func wantBuckets(t *testing.T, buckets, want int) {
	t.Helper()
	if n := need.Buckets(buckets); n != want {
		t.Errorf("Buckets(%d): %d; want %d", buckets, n, want)
	}
}

func wantKind(t *testing.T, kind, node, table int) {
	t.Helper()
	if n := need.Node(kind); n != node {
		t.Errorf("Node(%d): %d; want %d", kind, n, node)
	}
	if n := need.Table(kind); n != table {
		t.Errorf("Table(%d): %d; want %d", kind, n, table)
	}
}

func wantPut(t *testing.T, kind, buckets, count int, x api.Term, want int, errno api.Errno) {
	t.Helper()
	if n, e := need.Put(kind, buckets, count, x); n != want || e != errno {
		t.Errorf("Put(%d, %d, %d, ..): %d, %v; want %d, %v", kind, buckets, count, n, e, want, errno)
	}
}

func wantSum(t *testing.T, kind, buckets int, l []api.Term, want int, errno api.Errno) {
	t.Helper()
	if n, e := need.Sum(kind, buckets, l); n != want || e != errno {
		t.Errorf("Sum(%d, %d, %d terms): %d, %v; want %d, %v", kind, buckets, len(l), n, e, want, errno)
	}
}

// P13.1 to P13.3: the chapter's examples.
func TestExamples(t *testing.T) {
	pair := tuple(atom("a"), num(1))
	wantObject(t, "{a,1}", pair, 4, api.OK)
	if two, three, none := need.Node(2), need.Node(3), need.Node(0); two != 6 || three != 4 || none != 0 {
		t.Errorf("Node of 2, 3, 0: %d, %d, %d", two, three, none)
	}
	if n := need.Table(1); n != 16 {
		t.Errorf("Table(1): %d", n)
	}
	wantBuckets(t, 1, 16)
	wantBuckets(t, 16, 16)
	wantBuckets(t, 17, 32)
	wantBuckets(t, 0, 0)
	wantPut(t, 1, 16, 32, pair, 24, api.OK)
	wantPut(t, 1, 16, 31, pair, 8, api.OK)
	wantPut(t, 2, 0, 9, pair, 10, api.OK)
	wantSum(t, 1, 16, nil, 32, api.OK)
	wantSum(t, 2, 0, []api.Term{pair}, 26, api.OK)
	wantSum(t, 0, 0, nil, 0, api.ErrArg)
}

// P13.1: terms of each kind need their words, rounded up; those that may not be are told by term.Check's error.
func TestObject(t *testing.T) {
	for _, x := range slices.Concat(good(), wrong()) {
		for range 2 {
			wantObject(t, x.name, x.t, x.words, x.errno)
		}
	}
}

// P13.1: at each class, and beside it, an object needs the least class that has room for it, whatever form it is of.
func TestObjectAtTheClasses(t *testing.T) {
	want := func(words int) {
		t.Helper()
		for _, x := range sized(words) {
			wantObject(t, "a term of some words", x, round(words), api.OK)
		}
	}
	for words := 1; words <= 1100; words++ {
		want(words)
	}
	for _, class := range classes() {
		for _, words := range []int{class - 1, class, class + 1} {
			if words <= mostWords {
				want(words)
			}
		}
	}
	for _, x := range sized(mostWords + 1) {
		wantObject(t, "a term of 65537 words", x, 0, api.ErrLong)
	}
}

// P13.1: what each kind needs, and that of no kind there is nothing.
func TestKinds(t *testing.T) {
	wantKind(t, api.Set, 4, 16)
	wantKind(t, api.OrderedSet, 6, 16)
	wantKind(t, api.Bag, 4, 16)
	wantKind(t, api.DuplicateBag, 4, 16)
	for _, kind := range notKinds {
		wantKind(t, kind, 0, 0)
	}
	for kind := -300; kind <= 300; kind++ {
		if !isKind(kind) {
			wantKind(t, kind, 0, 0)
		}
	}
}

// P13.1: each number of buckets from 1 to the most, and those that are never.
func TestBuckets(t *testing.T) {
	for buckets, room := 1, 0; buckets <= mostBuckets; buckets++ {
		if buckets > room {
			room += 16
		}
		if n := need.Buckets(buckets); n != room {
			t.Fatalf("Buckets(%d): %d; want %d", buckets, n, room)
		}
	}
	wantBuckets(t, 15, 16)
	wantBuckets(t, mostBuckets-16, mostBuckets-16)
	wantBuckets(t, mostBuckets-15, mostBuckets)
	wantBuckets(t, mostBuckets, mostBuckets)
	wantBuckets(t, 0, 0)
	for _, buckets := range notBuckets {
		wantBuckets(t, buckets, 0)
	}
}

// P13.2: each kind, with buckets that are full and not, and counts for which they are just enough and just not.
func TestPut(t *testing.T) {
	for kind := 1; kind <= 4; kind++ {
		for _, x := range slices.Concat(good()[:20], wrong()[:12]) {
			for _, buckets := range someBuckets {
				for _, count := range countsAbout(buckets) {
					askPut(t, kind, buckets, count, x)
				}
			}
		}
		for _, x := range slices.Concat(good()[20:], wrong()[12:]) {
			askPut(t, kind, 16, 32, x)
			askPut(t, kind, 16, 31, x)
			askPut(t, kind, 0, 0, x)
			askPut(t, kind, mostBuckets, mostObjects, x)
		}
	}
}

// P13.2: just where there are more than twice as many objects as buckets, and these fill their room, sixteen words more are needed.
func TestPutWantsABucket(t *testing.T) {
	for _, kind := range []int{api.Set, api.Bag, api.DuplicateBag} {
		wantPut(t, kind, 0, 0, null, 2+4+16, api.OK)
		wantPut(t, kind, 0, mostObjects, null, 2+4+16, api.OK)
		wantPut(t, kind, 1, 1, null, 2+4, api.OK)
		wantPut(t, kind, 1, 2, null, 2+4, api.OK)
		wantPut(t, kind, 15, 30, null, 2+4, api.OK)
		wantPut(t, kind, 15, mostObjects, null, 2+4, api.OK)
		wantPut(t, kind, 16, 0, null, 2+4, api.OK)
		wantPut(t, kind, 16, 31, null, 2+4, api.OK)
		wantPut(t, kind, 16, 32, null, 2+4+16, api.OK)
		wantPut(t, kind, 16, 33, null, 2+4+16, api.OK)
		wantPut(t, kind, 16, mostObjects, null, 2+4+16, api.OK)
		wantPut(t, kind, 17, 34, null, 2+4, api.OK)
		wantPut(t, kind, 32, 63, null, 2+4, api.OK)
		wantPut(t, kind, 32, 64, null, 2+4+16, api.OK)
		wantPut(t, kind, mostBuckets-16, 2*mostBuckets-33, null, 2+4, api.OK)
		wantPut(t, kind, mostBuckets-16, 2*mostBuckets-32, null, 2+4+16, api.OK)
		wantPut(t, kind, mostBuckets-1, 2*mostBuckets-2, null, 2+4, api.OK)
		wantPut(t, kind, mostBuckets, 2*mostBuckets, null, 2+4, api.OK)
		wantPut(t, kind, mostBuckets, mostObjects, null, 2+4, api.OK)
	}
}

// P13.2, P13.3: an OrderedSet has no buckets, so that their number changes nothing, as long as it may be.
func TestOrdered(t *testing.T) {
	for _, buckets := range someBuckets {
		for _, count := range countsAbout(buckets) {
			wantPut(t, api.OrderedSet, buckets, count, tuple(num(1), num(2)), 4+6, api.OK)
		}
		wantSum(t, api.OrderedSet, buckets, nil, 16, api.OK)
		wantSum(t, api.OrderedSet, buckets, []api.Term{null, tuple(num(1))}, 16+2+6+3+6, api.OK)
	}
}

// P13.2, rules 1 and 2: a wrong number, whichever and however many, is told ahead of a wrong term; the terms' errors come next.
func TestPutErrors(t *testing.T) {
	ok, refused := good()[0], wrong()
	for _, x := range []object{ok, refused[0], refused[9], refused[14]} {
		for _, kind := range notKinds {
			for _, buckets := range slices.Concat([]int{0, 16, mostBuckets}, notBuckets) {
				for _, count := range slices.Concat([]int{0, mostObjects}, notCounts) {
					wantPut(t, kind, buckets, count, x.t, 0, api.ErrArg)
				}
			}
		}
		for kind := 1; kind <= 4; kind++ {
			for _, buckets := range notBuckets {
				for _, count := range slices.Concat([]int{0, 1, 32, mostObjects}, notCounts) {
					wantPut(t, kind, buckets, count, x.t, 0, api.ErrArg)
				}
			}
			for _, buckets := range someBuckets {
				for _, count := range notCounts {
					wantPut(t, kind, buckets, count, x.t, 0, api.ErrArg)
				}
			}
		}
	}
	for _, x := range refused {
		for kind := 1; kind <= 4; kind++ {
			wantPut(t, kind, 0, 0, x.t, 0, x.errno)
			wantPut(t, kind, 16, 32, x.t, 0, x.errno)
			wantPut(t, kind, mostBuckets, mostObjects, x.t, 0, x.errno)
		}
	}
}

// P13.3: each kind, with buckets of all sorts, and no object, one, and several.
func TestSum(t *testing.T) {
	all := good()
	lists := [][]object{nil, {}, all[:1], all[15:16], all[:20], all, slices.Repeat(all[:3], 500)}
	for _, x := range all {
		lists = append(lists, []object{x}, []object{x, x}, []object{all[0], x, all[15]})
	}
	for kind := 1; kind <= 4; kind++ {
		for _, l := range lists {
			for _, buckets := range []int{0, 1, 15, 16, 17, 1024, 1025} {
				askSum(t, kind, buckets, l)
			}
		}
		for _, buckets := range someBuckets {
			askSum(t, kind, buckets, nil)
			askSum(t, kind, buckets, all[:16])
		}
	}
}

// P13.3: some sums told by hand.
func TestSumByHand(t *testing.T) {
	pair := tuple(atom("a"), num(1))
	for _, kind := range []int{api.Set, api.Bag, api.DuplicateBag} {
		wantSum(t, kind, 0, nil, 16, api.OK)
		wantSum(t, kind, 1, nil, 16+16, api.OK)
		wantSum(t, kind, 4, []api.Term{}, 16+16, api.OK)
		wantSum(t, kind, 15, []api.Term{pair}, 16+16+8, api.OK)
		wantSum(t, kind, 17, []api.Term{pair, pair}, 16+32+8+8, api.OK)
		wantSum(t, kind, 16, []api.Term{pair, null, pair}, 16+16+8+6+8, api.OK)
		wantSum(t, kind, mostBuckets-1, nil, 16+mostBuckets, api.OK)
		wantSum(t, kind, mostBuckets, []api.Term{wide(mostWords)}, 16+mostBuckets+mostWords+4, api.OK)
	}
	wantSum(t, api.OrderedSet, 0, nil, 16, api.OK)
	wantSum(t, api.OrderedSet, 0, []api.Term{pair, null, pair}, 16+10+8+10, api.OK)
	wantSum(t, api.OrderedSet, mostBuckets, []api.Term{wide(mostWords)}, 16+mostWords+6, api.OK)
	many := slices.Repeat([]api.Term{wide(mostWords)}, 400)
	wantSum(t, api.Set, 200, many, 16+208+400*(mostWords+4), api.OK)
}

// P13.3, rules 1 and 2: a wrong number is told ahead of a wrong term, in whatever list.
func TestSumErrors(t *testing.T) {
	refused := wrong()
	for _, l := range [][]api.Term{nil, {null}, {refused[0].t}, {null, refused[9].t}, {refused[14].t, null}, {refused[0].t, refused[14].t}} {
		for _, kind := range notKinds {
			for _, buckets := range slices.Concat([]int{0, 1, 16, mostBuckets}, notBuckets) {
				wantSum(t, kind, buckets, l, 0, api.ErrArg)
			}
		}
		for kind := 1; kind <= 4; kind++ {
			for _, buckets := range notBuckets {
				wantSum(t, kind, buckets, l, 0, api.ErrArg)
			}
		}
	}
}

// P13.3: a term that may not be is told wherever it stands; of several the first.
func TestSumRefusesTerms(t *testing.T) {
	few, refused := good()[:9], wrong()
	for kind := 1; kind <= 4; kind++ {
		for _, x := range refused {
			for _, buckets := range []int{0, 16, mostBuckets} {
				askSum(t, kind, buckets, []object{x})
				askSum(t, kind, buckets, slices.Insert(slices.Clone(few), 4, x))
			}
			for place := range len(few) + 1 {
				wantSum(t, kind, 16, terms(slices.Insert(slices.Clone(few), place, x)), 0, x.errno)
			}
		}
	}
	for _, x := range refused {
		for _, y := range refused {
			wantSum(t, api.Set, 16, []api.Term{null, x.t, null, y.t}, 0, x.errno)
		}
	}
}

// kept is a list, all of its spare room, and what stood there, part by part.
type kept struct {
	l   []api.Term
	was []api.Term
	in  []kept
}

// keep remembers what a list and those of its terms have, in their spare room, too.
func keep(l []api.Term) kept {
	k := kept{l: l[:cap(l)], was: slices.Clone(l[:cap(l)])}
	for _, x := range k.l {
		k.in = append(k.in, keep(x.L))
	}
	return k
}

// same tells whether all stands where and as it stood.
func (k kept) same() bool {
	for i, x := range k.l {
		y := k.was[i]
		if x.Kind != y.Kind || x.N != y.N || x.S != y.S || len(x.L) != len(y.L) || cap(x.L) != cap(y.L) || !k.in[i].same() {
			return false
		}
		if cap(x.L) > 0 && &x.L[:1][0] != &y.L[:1][0] {
			return false
		}
	}
	return true
}

// roomy has a list of terms whose spare room, as that of its terms, has what may not be.
func roomy() []api.Term {
	inner := []api.Term{num(1), atom("b"), of(9), num(1 << 59)}
	l := []api.Term{tuple(inner[:2]...), {Kind: 7, L: inner[:2]}, cons(num(1), null), {Kind: 8, L: inner[:0]}, of(9), long(9)}
	return l[:4]
}

// Rule 4: what is handed in stays as it is, its spare room too, which is not looked at.
func TestHandedInStays(t *testing.T) {
	l := roomy()
	k := keep(l)
	for kind := -1; kind <= 6; kind++ {
		for _, buckets := range []int{-1, 0, 16, mostBuckets + 1} {
			for n := range len(l) + 3 {
				need.Sum(kind, buckets, l[:n])
				if !k.same() {
					t.Fatalf("Sum(%d, %d, %d terms) changed the terms", kind, buckets, n)
				}
			}
			for _, x := range l[:cap(l)] {
				need.Put(kind, buckets, 32, x)
				need.Object(x)
				if !k.same() {
					t.Fatalf("Put(%d, %d, 32, %v) or Object changed the term", kind, buckets, x)
				}
			}
		}
	}
	wantSum(t, api.Bag, 16, l, 16+16+4+4+3+2+4*4, api.OK)
	wantObject(t, "a tuple with room", l[1], 4, api.OK)
	wantPut(t, api.Bag, 16, 32, l[1], 4+4+16, api.OK)
}

// Rule 4, P1: nothing of what was handed in is looked at later: what is told hangs on what there is by then.
func TestNothingIsKept(t *testing.T) {
	l := []api.Term{null, tuple(num(1), num(2))}
	for range 2 {
		wantSum(t, api.Set, 4, l, 16+16+6+8, api.OK)
		l[1] = of(9)
		wantSum(t, api.Set, 4, l, 0, api.ErrArg)
		wantSum(t, api.Set, 4, l[:1], 16+16+6, api.OK)
		l[1] = tuple(nums(6)...)
		wantSum(t, api.Set, 4, l, 16+16+6+12, api.OK)
		l[1].L[5] = num(1 << 59)
		wantObject(t, "a changed tuple", l[1], 0, api.ErrArg)
		wantPut(t, api.Set, 4, 0, l[1], 0, api.ErrArg)
		l[1].L = l[1].L[:2]
		wantObject(t, "a shorter tuple", l[1], 4, api.OK)
		wantPut(t, api.Set, 4, 0, l[1], 8, api.OK)
	}
}

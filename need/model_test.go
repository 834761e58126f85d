package need_test

import (
	"slices"
	"strings"
	"testing"

	"tenure/api"
	"tenure/need"
)

// Bounds, written anew from the chapters.
const (
	mostWords   = 65536
	mostBuckets = 1 << 20
	mostObjects = 1 << 24
)

// Terms are written here field by field, so that no other layer is held against itself.
func num(n int) api.Term                  { return api.Term{Kind: 1, N: n} }
func atom(s string) api.Term              { return api.Term{Kind: 2, S: s} }
func fun(n int, l ...api.Term) api.Term   { return api.Term{Kind: 5, N: n, L: l} }
func tuple(l ...api.Term) api.Term        { return api.Term{Kind: 7, L: l} }
func cons(head, tail api.Term) api.Term   { return api.Term{Kind: 9, L: []api.Term{head, tail}} }
func of(kind int, l ...api.Term) api.Term { return api.Term{Kind: kind, L: l} }

var null = api.Term{Kind: 8}

func nums(many int) (l []api.Term) {
	for i := range many {
		l = append(l, num(i))
	}
	return l
}

// list ends with a tail, whatever that is.
func list(tail api.Term, l ...api.Term) api.Term {
	for _, head := range slices.Backward(l) {
		tail = cons(head, tail)
	}
	return tail
}

// long is a list of so many words, whose tail is {} if they are even.
func long(words int) api.Term {
	if words%2 == 0 {
		return list(tuple(), nums(words/2-1)...)
	}
	return list(null, nums(words/2)...)
}

// wide is a term of so many words, of tuples as wide as may be.
func wide(words int) api.Term {
	switch {
	case words == 1:
		return atom("a")
	case words <= 66:
		return tuple(nums(words - 2)...)
	}
	var l []api.Term
	for left := 64; left > 0; left-- {
		// Each takes its share of what those ahead of it left.
		share := (words - 2) / left
		l = append(l, wide(share))
		words -= share
	}
	return tuple(l...)
}

// sized are terms of so many words, each of another form.
func sized(words int) []api.Term {
	l := []api.Term{long(words), wide(words)}
	if words > 2 {
		l = append(l, tuple(long(words-2)), fun(7, wide(words-2)))
	}
	return l
}

// classes are all size classes that an object can have, rising: by doubling alone.
func classes() []int {
	l := []int{2}
	for power := 4; power <= mostWords; power *= 2 {
		l = append(l, power/4*3, power)
	}
	return l
}

// round rounds the words of an object up by looking through all classes.
func round(words int) int {
	for _, class := range classes() {
		if words <= class {
			return class
		}
	}
	return 0
}

// object is a term, and what it needs by itself; or the error that it is refused with.
type object struct {
	name  string
	t     api.Term
	words int
	errno api.Errno
}

// good are objects of terms of each kind, what they need being told by hand.
func good() []object {
	return []object{
		{"zero", num(0), 2, api.OK},
		{"least", num(-1 << 59), 2, api.OK},
		{"most", num(1<<59 - 1), 2, api.OK},
		{"atom of none", atom(""), 2, api.OK},
		{"atom of 64", atom(strings.Repeat("x", 64)), 2, api.OK},
		{"ref", api.Term{Kind: 3, N: 1 << 30}, 2, api.OK},
		{"tid", api.Term{Kind: 4}, 2, api.OK},
		{"pid", api.Term{Kind: 6, N: 1}, 2, api.OK},
		{"nil", null, 2, api.OK},
		{"tuple of none", tuple(), 2, api.OK},
		{"fun of none", fun(1 << 30), 2, api.OK},
		{"tuple of one", tuple(num(1)), 3, api.OK},
		{"fun of one", fun(0, null), 3, api.OK},
		{"cons of two", cons(num(1), num(2)), 3, api.OK},
		{"list of one", list(null, num(1)), 3, api.OK},
		{"tuple of two", tuple(atom("a"), num(1)), 4, api.OK},
		{"list of two", list(null, num(1), num(2)), 6, api.OK},
		{"tuple with a list", tuple(atom("a"), cons(num(1), atom("b"))), 6, api.OK},
		{"tuple of five", tuple(nums(5)...), 8, api.OK},
		{"tuple of seven", tuple(nums(7)...), 12, api.OK},
		{"list of 1000", list(null, nums(1000)...), 2048, api.OK},
		{"fun of 64", fun(3, nums(64)...), 96, api.OK},
		{"tuple of 64 tuples", tuple(slices.Repeat([]api.Term{tuple()}, 64)...), 192, api.OK},
		{"the longest list", long(mostWords), mostWords, api.OK},
		{"the widest tuple", wide(mostWords), mostWords, api.OK},
		{"one word fewer", wide(mostWords - 1), mostWords, api.OK},
	}
}

// wrong are terms that may not be, each with the error that says so.
func wrong() []object {
	return []object{
		{"nothing", api.Term{}, 0, api.ErrArg},
		{"kind 10", of(10), 0, api.ErrArg},
		{"kind -1", of(-1), 0, api.ErrArg},
		{"kind beyond 32 bits", of(1<<32 + 7), 0, api.ErrArg},
		{"int too great", num(1 << 59), 0, api.ErrArg},
		{"int too small", num(-1<<59 - 1), 0, api.ErrArg},
		{"atom of 65", atom(strings.Repeat("x", 65)), 0, api.ErrArg},
		{"pid below 0", api.Term{Kind: 6, N: -1}, 0, api.ErrArg},
		{"nil with 1", api.Term{Kind: 8, N: 1}, 0, api.ErrArg},
		{"cons of one", of(9, num(1)), 0, api.ErrArg},
		{"tuple of 65", tuple(nums(65)...), 0, api.ErrArg},
		{"fun of 65", fun(1, nums(65)...), 0, api.ErrArg},
		{"no term within", tuple(num(1), list(null, num(2), fun(1, of(9)), num(3))), 0, api.ErrArg},
		{"no term at a list's end", list(api.Term{Kind: 3, N: -1}, nums(9)...), 0, api.ErrArg},
		{"one word too many", long(mostWords + 1), 0, api.ErrLong},
		{"one word too many in tuples", tuple(wide(mostWords - 1)), 0, api.ErrLong},
		{"far too many words", wide(3 * mostWords), 0, api.ErrLong},
		{"no term behind too many words", list(of(9), nums(mostWords)...), 0, api.ErrArg},
	}
}

func isKind(kind int) bool { return kind >= 1 && kind <= 4 }

// nodeOf tells what a node needs, and bucketsOf what the buckets of such a table do: sixteens are added as long as there are too few.
func nodeOf(kind int) int {
	if kind == api.OrderedSet {
		return 6
	}
	return 4
}

func bucketsOf(kind, buckets int) int {
	room := 0
	for kind != api.OrderedSet && room < buckets {
		room += 16
	}
	return room
}

// bucketWanted tells how many buckets are wanted behind one object more.
func bucketWanted(kind, buckets, count int) int {
	if kind == api.OrderedSet || buckets == mostBuckets || (count+1+1)/2 <= buckets {
		return 0
	}
	return 1
}

// putOf tells what Put must answer: a bucket more needs words just where the sixteens are full.
func putOf(kind, buckets, count int, x object) (int, api.Errno) {
	if !isKind(kind) || buckets < 0 || buckets > mostBuckets || count < 0 || count > mostObjects {
		return 0, api.ErrArg
	}
	if x.errno != api.OK {
		return 0, x.errno
	}
	words := x.words + nodeOf(kind)
	if bucketWanted(kind, buckets, count) == 1 && buckets%16 == 0 {
		words += 16
	}
	return words, api.OK
}

// sumOf tells what Sum must answer.
func sumOf(kind, buckets int, l []object) (int, api.Errno) {
	if !isKind(kind) || buckets < 0 || buckets > mostBuckets {
		return 0, api.ErrArg
	}
	sum := 16 + bucketsOf(kind, buckets) + len(l)*nodeOf(kind)
	for _, x := range l {
		if x.errno != api.OK {
			return 0, x.errno
		}
		sum += x.words
	}
	return sum, api.OK
}

// terms are those of objects, in their order, in a list without spare room.
func terms(l []object) []api.Term {
	ts := make([]api.Term, len(l))
	for i, x := range l {
		ts[i] = x.t
	}
	return ts
}

// names are those of objects, in their order.
func names(l []object) string {
	s := ""
	for _, x := range l {
		s += ", " + x.name
	}
	return strings.TrimPrefix(s, ", ")
}

// askPut asks Put what the model tells.
func askPut(t *testing.T, kind, buckets, count int, x object) {
	t.Helper()
	want, errno := putOf(kind, buckets, count, x)
	if n, e := need.Put(kind, buckets, count, x.t); n != want || e != errno {
		t.Errorf("Put(%d, %d, %d, %s): %d, %v; want %d, %v", kind, buckets, count, x.name, n, e, want, errno)
	}
}

// askSum asks Sum what the model tells.
func askSum(t *testing.T, kind, buckets int, l []object) {
	t.Helper()
	want, errno := sumOf(kind, buckets, l)
	if n, e := need.Sum(kind, buckets, terms(l)); n != want || e != errno {
		t.Errorf("Sum(%d, %d, %.200s): %d, %v; want %d, %v", kind, buckets, names(l), n, e, want, errno)
	}
}

// draws tells numbers that look drawn, the same ones each time.
func draws(seed uint64) func(below int) int {
	return func(below int) int {
		seed = seed*6364136223846793005 + 1442695040888963407
		return int(seed>>33) % below
	}
}

// sumIs tells a sum that must be, since nothing that it is told of is wrong.
func sumIs(t *testing.T, kind, buckets int, l []api.Term) int {
	t.Helper()
	n, e := need.Sum(kind, buckets, l)
	if e != api.OK {
		t.Fatalf("Sum(%d, %d, %d terms): %v", kind, buckets, len(l), e)
	}
	return n
}

// wantGreater asks that one object more, wherever it stands, needs what the sum is greater then, with the bucket that is wanted.
func wantGreater(t *testing.T, kind, buckets int, l []api.Term, place int, more api.Term) {
	t.Helper()
	before := sumIs(t, kind, buckets, l)
	after := sumIs(t, kind, buckets+bucketWanted(kind, buckets, len(l)), slices.Concat(l[:place], []api.Term{more}, l[place:]))
	if n, e := need.Put(kind, buckets, len(l), more); n != after-before || e != api.OK {
		t.Errorf("Put(%d, %d, %d, ..): %d, %v; the sum is greater by %d", kind, buckets, len(l), n, e, after-before)
	}
}

// P13.4: of drawn tables and objects, those whose buckets are about to be too few among them, Put tells the difference of two sums.
func TestPutIsTheDifference(t *testing.T) {
	all := slices.DeleteFunc(good(), func(x object) bool { return x.words > 200 })
	for seed := range 4 {
		draw := draws(uint64(seed))
		for range 3000 {
			var l []object
			for range draw(110) {
				l = append(l, all[draw(len(all))])
			}
			kind := 1 + draw(4)
			buckets := max(0, len(l)/2-2+draw(5))
			if draw(4) == 0 {
				buckets = draw(70)
			}
			more := all[draw(len(all))]
			askSum(t, kind, buckets, l)
			askPut(t, kind, buckets, len(l), more)
			wantGreater(t, kind, buckets, terms(l), draw(len(l)+1), more.t)
			if t.Failed() {
				t.FailNow()
			}
		}
	}
}

// P13.4: as a table grows object by object, with the buckets that it wants, what was needed one by one is the sum at last.
func TestGrowing(t *testing.T) {
	for kind := 1; kind <= 4; kind++ {
		for _, buckets := range []int{0, 1, 4, 15, 16, 17} {
			draw, all, stand := draws(uint64(buckets)), good()[:20], []object{}
			sum := sumIs(t, kind, buckets, nil)
			for range 300 {
				x := all[draw(len(all))]
				askPut(t, kind, buckets, len(stand), x)
				n, _ := need.Put(kind, buckets, len(stand), x.t)
				sum += n
				buckets += bucketWanted(kind, buckets, len(stand))
				stand = append(stand, x)
				askSum(t, kind, buckets, stand)
				if n := sumIs(t, kind, buckets, terms(stand)); n != sum {
					t.Fatalf("kind %d, %d buckets, %d objects: the sum is %d, what was needed one by one %d", kind, buckets, len(stand), n, sum)
				}
			}
		}
	}
}

// P13.2, P13.4: a table with the most buckets wants none more, however many objects there are; the last sixteen are wanted still.
func TestMostBuckets(t *testing.T) {
	const enough = 2*mostBuckets - 1
	l := slices.Repeat([]api.Term{null}, enough+1)
	for kind := 1; kind <= 4; kind++ {
		for _, count := range []int{0, enough - 1, enough, enough + 1, mostObjects - 1, mostObjects} {
			wantPut(t, kind, mostBuckets, count, null, 2+nodeOf(kind), api.OK)
		}
	}
	for _, kind := range []int{api.Set, api.OrderedSet} {
		wantGreater(t, kind, mostBuckets, l[:enough], enough, tuple())
		wantGreater(t, kind, mostBuckets, l, 0, tuple())
		wantGreater(t, kind, mostBuckets-16, l, 0, tuple())
	}
}

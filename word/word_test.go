package word_test

import (
	"math"
	"slices"
	"testing"

	"tenure/api"
	"tenure/word"
)

// The bounds of the numbers of each kind, written anew from the chapter, digit by digit.
var kinds = []struct {
	name        string
	kind        int
	least, most int
}{
	{"Nothing", 0, 0, 0},
	{"Int", 1, -576460752303423488, 576460752303423487},
	{"Atom", 2, 0, 1073741824},
	{"Ref", 3, 0, 1073741824},
	{"Tid", 4, 0, 1073741824},
	{"Fun", 5, 0, 1073741824},
	{"Pid", 6, 0, 1073741824},
	{"Tuple", 7, 0, 1073741824},
	{"Nil", 8, 0, 0},
	{"Cons", 9, 0, 1073741824},
	{"HeadTuple", 10, 0, 64},
	{"HeadFun", 11, 0, 137438953536},
}

// mayBe tells whether a kind, of 0 to 11, has a number: a HeadFun's function and its terms are looked at one by one.
func mayBe(kind, n int) bool {
	if kind == 11 {
		return n >= 0 && n>>7 <= 1073741824 && n&127 <= 64
	}
	return n >= kinds[kind].least && n <= kinds[kind].most
}

// someNumbers are numbers about each bound, about each power of two, and many between.
func someNumbers() []int {
	l := []int{math.MinInt, math.MaxInt}
	for n := -300; n <= 700; n++ {
		l = append(l, n, 1<<37+n)
	}
	for shift := range 63 {
		for d := -2; d <= 2; d++ {
			l = append(l, 1<<shift+d, -1<<shift+d)
		}
	}
	x := uint64(7)
	for i := range 4000 {
		x = x*6364136223846793005 + 1442695040888963407
		l = append(l, int(int64(x)>>(i%62)))
	}
	slices.Sort(l)
	return slices.Compact(l)
}

// someWords are words of each kind, those that are none among them.
func someWords() []uint64 {
	var l []uint64
	for _, n := range someNumbers() {
		for low := range uint64(16) {
			l = append(l, uint64(n)<<4|low, uint64(n)&^15|low)
		}
	}
	slices.Sort(l)
	return slices.Compact(l)
}

func wantPack(t *testing.T, kind, n int, want uint64, errno api.Errno) {
	t.Helper()
	if w, e := word.Pack(kind, n); w != want || e != errno {
		t.Errorf("Pack(%d, %d): %d, %v; want %d, %v", kind, n, w, e, want, errno)
	}
}

func wantUnpack(t *testing.T, w uint64, kind, n int, errno api.Errno) {
	t.Helper()
	if k, m, e := word.Unpack(w); k != kind || m != n || e != errno {
		t.Errorf("Unpack(%d): %d, %d, %v; want %d, %d, %v", w, k, m, e, kind, n, errno)
	}
}

// P1.1: the chapter's examples.
func TestPackExamples(t *testing.T) {
	wantPack(t, 1, 5, 81, api.OK)
	wantPack(t, 1, -1, 18446744073709551601, api.OK)
	wantPack(t, 8, 0, 8, api.OK)
	wantUnpack(t, 81, 1, 5, api.OK)
	wantUnpack(t, 24, 0, 0, api.ErrBytes)
	wantUnpack(t, 12, 0, 0, api.ErrBytes)
	wantPack(t, 1, 1<<59, 0, api.ErrRange)
	wantPack(t, 12, 0, 0, api.ErrArg)
	wantPack(t, 8, 1, 0, api.ErrRange)
	wantPack(t, 11, 65, 0, api.ErrRange)
}

// P1.1: each kind at its bounds, and just beyond them, packed and unpacked.
func TestBoundsOfKinds(t *testing.T) {
	for _, x := range kinds {
		t.Run(x.name, func(t *testing.T) {
			for _, n := range []int{x.least, x.most} {
				wantPack(t, x.kind, n, uint64(n)*16+uint64(x.kind), api.OK)
				wantUnpack(t, uint64(n)*16+uint64(x.kind), x.kind, n, api.OK)
			}
			for _, n := range []int{x.least - 1, x.most + 1, math.MinInt, math.MaxInt, -1 << 60, 1 << 60} {
				wantPack(t, x.kind, n, 0, api.ErrRange)
			}
			if x.kind != 1 {
				wantUnpack(t, uint64(x.most+1)*16+uint64(x.kind), 0, 0, api.ErrBytes)
				wantUnpack(t, 1<<64-16+uint64(x.kind), 0, 0, api.ErrBytes)
				wantUnpack(t, 1<<63+uint64(x.kind), 0, 0, api.ErrBytes)
			}
		})
	}
}

// P1.1: an Int has all sixty bits for its number: no word with its tag is none.
func TestWordsOfInts(t *testing.T) {
	wantPack(t, 1, -576460752303423488, 1<<63+1, api.OK)
	wantPack(t, 1, 576460752303423487, 1<<63-15, api.OK)
	wantUnpack(t, 1<<63+1, 1, -576460752303423488, api.OK)
	wantUnpack(t, 1<<63-15, 1, 576460752303423487, api.OK)
	wantUnpack(t, 1<<64-15, 1, -1, api.OK)
	wantUnpack(t, 1, 1, 0, api.OK)
}

// P1.1: a HeadFun has a function's number and a count, each within its own bound.
func TestHeadsOfFuns(t *testing.T) {
	for _, f := range []int{0, 1, 2, 127, 128, 1<<30 - 1, 1 << 30} {
		for taken := range 128 {
			n := f*128 + taken
			w := uint64(n)*16 + 11
			if taken <= 64 {
				wantPack(t, 11, n, w, api.OK)
				wantUnpack(t, w, 11, n, api.OK)
			} else {
				wantPack(t, 11, n, 0, api.ErrRange)
				wantUnpack(t, w, 0, 0, api.ErrBytes)
			}
		}
	}
	wantPack(t, 11, (1<<30+1)*128, 0, api.ErrRange)
	wantUnpack(t, uint64(1<<30+1)*128*16+11, 0, 0, api.ErrBytes)
}

// P1.1: what is no kind is told ahead of what is no number, and no word has such a tag.
func TestNoKinds(t *testing.T) {
	for _, kind := range []int{-1, -16, 12, 13, 14, 15, 16, 17, 24, 1 << 32, 1<<32 + 1, math.MinInt, math.MinInt + 1, math.MaxInt} {
		for _, n := range []int{0, 1, -1, 1 << 59, math.MinInt, math.MaxInt} {
			wantPack(t, kind, n, 0, api.ErrArg)
		}
	}
	for low := uint64(12); low < 16; low++ {
		for _, n := range []uint64{0, 1, 64, 1 << 30, 1<<60 - 1} {
			wantUnpack(t, n<<4|low, 0, 0, api.ErrBytes)
		}
	}
}

// P1.1: every kind and number of a great many, against the chapter's words.
func TestPackAndUnpackOfMany(t *testing.T) {
	for _, n := range someNumbers() {
		for kind := range 12 {
			if mayBe(kind, n) {
				wantPack(t, kind, n, uint64(n)*16+uint64(kind), api.OK)
			} else {
				wantPack(t, kind, n, 0, api.ErrRange)
			}
		}
	}
	for _, w := range someWords() {
		kind, n := int(w%16), int(w/16)
		if kind == 1 && n >= 1<<59 {
			n -= 1 << 60
		}
		if kind < 12 && mayBe(kind, n) {
			wantUnpack(t, w, kind, n, api.OK)
		} else {
			wantUnpack(t, w, 0, 0, api.ErrBytes)
		}
	}
}

// P1.2: the four lowest bits alone say it, of what is no word, too.
func TestKindAndBoxed(t *testing.T) {
	boxed := [16]bool{5: true, 7: true, 9: true}
	for _, rest := range []uint64{0, 1, 2, 1 << 30, 1<<30 + 1, 1 << 59, 1<<60 - 1} {
		for low := range uint64(16) {
			w := rest<<4 | low
			if k := word.Kind(w); k != int(low) {
				t.Errorf("Kind(%d): %d; want %d", w, k, low)
			}
			if b := word.Boxed(w); b != boxed[low] {
				t.Errorf("Boxed(%d): %v; want %v", w, b, boxed[low])
			}
		}
	}
	if !word.Boxed(7) || word.Boxed(81) || word.Kind(1<<64-15) != 1 {
		t.Error("the chapter's examples of Kind and Boxed")
	}
}

// P1.3: there and back, from numbers and from words.
func TestThereAndBack(t *testing.T) {
	for _, n := range someNumbers() {
		for kind := -1; kind <= 16; kind++ {
			w, e := word.Pack(kind, n)
			if e != api.OK {
				continue
			}
			if k, m, e := word.Unpack(w); k != kind || m != n || e != api.OK {
				t.Errorf("Pack(%d, %d) is unpacked as %d, %d, %v", kind, n, k, m, e)
			}
			if word.Kind(w) != kind {
				t.Errorf("Pack(%d, %d) has the kind %d", kind, n, word.Kind(w))
			}
		}
	}
	for _, w := range someWords() {
		kind, n, e := word.Unpack(w)
		if e != api.OK {
			continue
		}
		if v, e := word.Pack(kind, n); v != w || e != api.OK {
			t.Errorf("what %d is unpacked as is packed as %d, %v", w, v, e)
		}
	}
}

// P1.3: no two have the same word, and those of one kind, but of an Int, rise.
func TestUnlikeAndRising(t *testing.T) {
	type packed struct{ kind, n int }
	seen := map[uint64]packed{}
	for kind := range 12 {
		last, begun := uint64(0), false
		for _, n := range someNumbers() {
			w, e := word.Pack(kind, n)
			if e != api.OK {
				continue
			}
			if x, there := seen[w]; there {
				t.Errorf("%v and %v have the same word", x, packed{kind, n})
			}
			seen[w] = packed{kind, n}
			if begun && kind != 1 && w <= last {
				t.Errorf("the word of %d, %d is not above the one ahead of it", kind, n)
			}
			last, begun = w, true
		}
		if !begun {
			t.Errorf("the kind %d has no word", kind)
		}
	}
}

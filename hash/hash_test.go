package hash_test

import (
	"bytes"
	"encoding/binary"
	"hash/fnv"
	"math"
	"math/big"
	"slices"
	"strings"
	"testing"

	"tenure/api"
	"tenure/hash"
	"tenure/term"
)

// Terms are written here field by field, so that no other layer is held against itself.
func num(n int) api.Term                  { return api.Term{Kind: 1, N: n} }
func atom(s string) api.Term              { return api.Term{Kind: 2, S: s} }
func ref(n int) api.Term                  { return api.Term{Kind: 3, N: n} }
func tid(n int) api.Term                  { return api.Term{Kind: 4, N: n} }
func fun(n int, l ...api.Term) api.Term   { return api.Term{Kind: 5, N: n, L: l} }
func pid(n int) api.Term                  { return api.Term{Kind: 6, N: n} }
func tuple(l ...api.Term) api.Term        { return api.Term{Kind: 7, L: l} }
func cons(head, tail api.Term) api.Term   { return api.Term{Kind: 9, L: []api.Term{head, tail}} }
func of(kind int, l ...api.Term) api.Term { return api.Term{Kind: kind, L: l} }

var null = api.Term{Kind: 8}

func list(l ...api.Term) api.Term {
	t := null
	for _, head := range slices.Backward(l) {
		t = cons(head, t)
	}
	return t
}

func nums(n int) (l []api.Term) {
	for i := range n {
		l = append(l, num(i+1))
	}
	return l
}

// The bytes of the numbers that stand in many terms here.
const (
	zero = "\x01\x00\x00\x00\x00\x00\x00\x00\x00"
	one  = "\x01\x01\x00\x00\x00\x00\x00\x00\x00"
	two  = "\x01\x02\x00\x00\x00\x00\x00\x00\x00"
)

// written is a term, and its bytes.
type written struct {
	t     api.Term
	bytes string
}

// plain are terms that may be, with their bytes, taken from the chapter's Words one by one.
func plain() []written {
	return []written{
		{num(5), "\x01\x05\x00\x00\x00\x00\x00\x00\x00"},
		{num(0), zero}, {num(1), one}, {num(2), two},
		{num(-1), "\x01\xff\xff\xff\xff\xff\xff\xff\xff"},
		{num(-2), "\x01\xfe\xff\xff\xff\xff\xff\xff\xff"},
		{num(256), "\x01\x00\x01\x00\x00\x00\x00\x00\x00"},
		{num(0x0123456789abcde), "\x01\xde\xbc\x9a\x78\x56\x34\x12\x00"},
		{num(1<<59 - 1), "\x01\xff\xff\xff\xff\xff\xff\xff\x07"},
		{num(-1 << 59), "\x01\x00\x00\x00\x00\x00\x00\x00\xf8"},
		{atom(""), "\x02\x00"}, {atom("a"), "\x02\x01a"}, {atom("ab"), "\x02\x02ab"}, {atom("é"), "\x02\x02\xc3\xa9"},
		{atom("\x00\xff"), "\x02\x02\x00\xff"}, {atom(strings.Repeat("x", 64)), "\x02\x40" + strings.Repeat("x", 64)},
		{ref(0), "\x03\x00\x00\x00\x00\x00\x00\x00\x00"}, {ref(1 << 30), "\x03\x00\x00\x00\x40\x00\x00\x00\x00"},
		{tid(1), "\x04\x01\x00\x00\x00\x00\x00\x00\x00"}, {pid(258), "\x06\x02\x01\x00\x00\x00\x00\x00\x00"},
		{fun(0), "\x05\x00\x00\x00\x00\x00\x00\x00\x00\x00"},
		{fun(1 << 30), "\x05\x00\x00\x00\x40\x00\x00\x00\x00\x00"},
		{fun(2, num(1)), "\x05\x02\x00\x00\x00\x00\x00\x00\x00\x01" + one},
		{fun(3, null, tuple()), "\x05\x03\x00\x00\x00\x00\x00\x00\x00\x02\x08\x07\x00"},
		{fun(1, slices.Repeat([]api.Term{null}, 64)...), "\x05\x01\x00\x00\x00\x00\x00\x00\x00\x40" + strings.Repeat("\x08", 64)},
		{tuple(), "\x07\x00"}, {tuple(num(1)), "\x07\x01" + one}, {tuple(num(1), atom("b")), "\x07\x02" + one + "\x02\x01b"},
		{tuple(tuple(num(1), num(2)), null), "\x07\x02\x07\x02" + one + two + "\x08"},
		{tuple(slices.Repeat([]api.Term{tuple()}, 64)...), "\x07\x40" + strings.Repeat("\x07\x00", 64)},
		{null, "\x08"}, {list(num(1)), "\x09" + one + "\x08"}, {list(num(1), num(2)), "\x09" + one + "\x09" + two + "\x08"},
		{cons(num(1), num(2)), "\x09" + one + two}, {cons(null, null), "\x09\x08\x08"}, {cons(cons(num(1), num(2)), atom("a")), "\x09\x09" + one + two + "\x02\x01a"},
		{cons(num(1), tuple(num(2), null)), "\x09" + one + "\x07\x02" + two + "\x08"},
		{list(list(num(1)), tuple(list(num(2)))), "\x09\x09" + one + "\x08\x09\x07\x01\x09" + two + "\x08\x08"},
	}
}

// odd are terms that may not be, with their bytes: the lowest byte of the Kind, and what the chapter says of that kind, whatever else they have.
func odd() []written {
	const full = "\x00\x00\x00\x00\x00\x00\x00"
	long := func(n int) string { return strings.Repeat("y", n) }
	many := func(n int) []api.Term { return slices.Repeat([]api.Term{null}, n) }
	return []written{
		{api.Term{}, "\x00"}, {api.Term{N: 5, S: "a", L: nums(2)}, "\x00"}, {of(10, num(1)), "\x0a"}, {of(-1), "\xff"}, {of(-249), "\x07"},
		{of(256, num(1)), "\x00"}, {api.Term{Kind: 257, N: 7}, "\x01"}, {api.Term{Kind: 258, S: "a"}, "\x02"}, {of(263, num(1)), "\x07"}, {of(265, num(1), null), "\x09"}, {of(1<<32+7, num(1)), "\x07"}, {of(1<<32+9, num(1), null), "\x09"}, {of(1<<32+5, num(1)), "\x05"},
		{of(math.MaxInt), "\xff"}, {of(math.MinInt), "\x00"},
		{num(1 << 59), "\x01" + full + "\x08"}, {num(math.MaxInt), "\x01\xff\xff\xff\xff\xff\xff\xff\x7f"}, {num(math.MinInt), "\x01" + full + "\x80"},
		{api.Term{Kind: 1, N: 1, S: "a", L: nums(2)}, one}, {ref(-1), "\x03\xff\xff\xff\xff\xff\xff\xff\xff"}, {tid(1<<30 + 1), "\x04\x01\x00\x00\x40\x00\x00\x00\x00"},
		{api.Term{Kind: 3, N: 1, S: "a", L: nums(2)}, "\x03\x01" + full}, {api.Term{Kind: 4, N: 1, S: "a", L: nums(2)}, "\x04\x01" + full}, {api.Term{Kind: 6, N: 1, S: "a", L: nums(2)}, "\x06\x01" + full},
		{api.Term{Kind: 2, N: 9, S: "a", L: nums(2)}, "\x02\x01a"}, {atom(long(65)), "\x02\x41" + long(65)}, {atom(long(255)), "\x02\xff" + long(255)}, {atom(long(256)), "\x02\x00" + long(256)}, {atom(long(600)), "\x02\x58" + long(600)},
		{api.Term{Kind: 5, N: -2, S: "a"}, "\x05\xfe\xff\xff\xff\xff\xff\xff\xff\x00"}, {fun(1, many(65)...), "\x05\x01" + full + "\x41" + strings.Repeat("\x08", 65)}, {fun(1, many(257)...), "\x05\x01" + full + "\x01" + strings.Repeat("\x08", 257)},
		{api.Term{Kind: 7, N: 9, S: "a", L: nums(1)}, "\x07\x01" + one}, {tuple(many(255)...), "\x07\xff" + strings.Repeat("\x08", 255)}, {tuple(many(256)...), "\x07\x00" + strings.Repeat("\x08", 256)}, {tuple(many(300)...), "\x07\x2c" + strings.Repeat("\x08", 300)},
		{api.Term{Kind: 8, N: 9, S: "a", L: nums(2)}, "\x08"}, {tuple(of(10, num(1)), of(0)), "\x07\x02\x0a\x00"},
		{of(9), "\x09"}, {of(9, num(1)), "\x09" + one}, {of(9, list(num(1))), "\x09\x09" + one + "\x08"}, {api.Term{Kind: 9, N: 9, S: "a", L: []api.Term{num(1), null}}, "\x09" + one + "\x08"},
		{cons(of(9), of(9, num(2))), "\x09\x09\x09" + two}, {cons(num(1), of(265)), "\x09" + one + "\x09"},
		{of(9, num(1), null, num(2)), "\x09" + one + "\x08"}, {of(9, num(1), cons(num(2), null), atom("a"), num(3)), "\x09" + one + "\x09" + two + "\x08"},
	}
}

// within tells terms that have a term as a part, each with its bytes.
func within(x written) []written {
	l := []written{
		{tuple(x.t), "\x07\x01" + x.bytes}, {tuple(x.t, num(1)), "\x07\x02" + x.bytes + one}, {tuple(null, x.t), "\x07\x02\x08" + x.bytes}, {tuple(null, x.t, null), "\x07\x03\x08" + x.bytes + "\x08"},
		{fun(0, x.t), "\x05\x00\x00\x00\x00\x00\x00\x00\x00\x01" + x.bytes}, {fun(0, null, x.t, num(2)), "\x05\x00\x00\x00\x00\x00\x00\x00\x00\x03\x08" + x.bytes + two},
		{cons(x.t, num(1)), "\x09" + x.bytes + one}, {cons(num(1), x.t), "\x09" + one + x.bytes}, {cons(x.t, x.t), "\x09" + x.bytes + x.bytes}, {list(num(1), x.t, num(2)), "\x09" + one + "\x09" + x.bytes + "\x09" + two + "\x08"},
		{cons(num(1), cons(num(2), x.t)), "\x09" + one + "\x09" + two + x.bytes}, {of(9, x.t), "\x09" + x.bytes},
	}
	deep := x
	for range 100 {
		deep = written{tuple(cons(null, deep.t), num(2)), "\x07\x02\x09\x08" + deep.bytes + two}
	}
	return append(l, deep)
}

// everything are the terms above, each by itself and as a part wherever.
func everything() (l []written) {
	for _, x := range slices.Concat(plain(), odd()) {
		l = append(append(l, x), within(x)...)
	}
	return l
}

func wantBytes(t *testing.T, x written) {
	t.Helper()
	if b := hash.Bytes(x.t); string(b) != x.bytes {
		t.Errorf("Bytes(%v): %v; want %v", x.t, b, []byte(x.bytes))
	}
}

func wantBucket(t *testing.T, h uint32, buckets, want int, errno api.Errno) {
	t.Helper()
	if n, e := hash.Bucket(h, buckets); n != want || e != errno {
		t.Errorf("Bucket(%d, %d): %d, %v; want %d, %v", h, buckets, n, e, want, errno)
	}
}

// P4.1, P4.2: the chapter's examples.
func TestExamples(t *testing.T) {
	wantBytes(t, written{num(5), "\x01\x05\x00\x00\x00\x00\x00\x00\x00"})
	wantBytes(t, written{atom("ab"), "\x02\x02ab"})
	wantBytes(t, written{tuple(), "\x07\x00"})
	wantBytes(t, written{list(num(1)), "\x09" + one + "\x08"})
	if h := hash.Mix(2166136261, nil); h != 2166136261 {
		t.Error("Mix(2166136261, none):", h)
	}
	if h := hash.Mix(0, []byte{1}); h != 16777619 {
		t.Error("Mix(0, 1):", h)
	}
	wantBucket(t, 7, 5, 3, api.OK)
	wantBucket(t, 6, 8, 6, api.OK)
	wantBucket(t, 3, 1, 0, api.OK)
	wantBucket(t, 1, 0, 0, api.ErrArg)
}

// P4.1: the bytes of each kind, of what may be and of what may not.
func TestBytes(t *testing.T) {
	for _, x := range everything() {
		wantBytes(t, x)
	}
}

// P4.1: which of these terms may be is as it is said here.
func TestPlainAndOdd(t *testing.T) {
	for _, x := range plain() {
		if e := term.Check(x.t); e != api.OK {
			t.Errorf("%v is no term: %v", x.t, e)
		}
	}
	for _, x := range odd() {
		if e := term.Check(x.t); e == api.OK {
			t.Errorf("%v is a term", x.t)
		}
	}
}

// P4.1: numbers of all lengths, as another library writes them.
func TestBytesOfNumbers(t *testing.T) {
	for shift := range 64 {
		for d := -3; d <= 3; d++ {
			for _, n := range []int{1<<shift + d, -1<<shift + d, 0x0123456789abcdef >> shift, math.MinInt>>shift ^ d} {
				tail := string(binary.LittleEndian.AppendUint64(nil, uint64(n)))
				for _, kind := range []int{1, 3, 4, 6} {
					wantBytes(t, written{api.Term{Kind: kind, N: n}, string([]byte{byte(kind)}) + tail})
				}
				wantBytes(t, written{fun(n), "\x05" + tail + "\x00"})
			}
		}
	}
}

// P4.1: the first byte of terms of all kinds, those that are none, too, beyond a byte as well.
func TestBytesOfKinds(t *testing.T) {
	for kind := -600; kind < 1200; kind++ {
		if kind > 0 && kind < 10 {
			continue
		}
		low := string([]byte{byte((kind + 1024) % 256)})
		wantBytes(t, written{api.Term{Kind: kind, N: 3, S: "a", L: nums(2)}, low})
		wantBytes(t, written{tuple(of(kind, num(1)), of(kind)), "\x07\x02" + low + low})
	}
}

// P4.1: how many bytes and terms there are, at each number of them, the lowest byte of it alone.
func TestBytesOfLengths(t *testing.T) {
	for n := range 1100 {
		low := string([]byte{byte(n % 256)})
		wantBytes(t, written{atom(strings.Repeat("z", n)), "\x02" + low + strings.Repeat("z", n)})
		parts := slices.Repeat([]api.Term{null}, n)
		wantBytes(t, written{tuple(parts...), "\x07" + low + strings.Repeat("\x08", n)})
		wantBytes(t, written{fun(0, parts...), "\x05\x00\x00\x00\x00\x00\x00\x00\x00" + low + strings.Repeat("\x08", n)})
	}
}

// P4.1: each byte of an atom as it is.
func TestBytesOfAtoms(t *testing.T) {
	for b := range 256 {
		s := string([]byte{byte(b)})
		wantBytes(t, written{atom(s), "\x02\x01" + s})
		wantBytes(t, written{atom("a" + s + s), "\x02\x03a" + s + s})
	}
}

// P4.1: as deep as the document's bound lets terms be nested, at either end, and of a list's length.
func TestDeepAndLong(t *testing.T) {
	const deep = 1<<16 - 1
	grow := func(more func(api.Term) api.Term) api.Term {
		x := num(1)
		for range deep {
			x = more(x)
		}
		return x
	}
	for _, x := range []written{
		{grow(func(x api.Term) api.Term { return tuple(x) }), strings.Repeat("\x07\x01", deep) + one},
		{grow(func(x api.Term) api.Term { return tuple(x, null) }), strings.Repeat("\x07\x02", deep) + one + strings.Repeat("\x08", deep)},
		{grow(func(x api.Term) api.Term { return tuple(null, x) }), strings.Repeat("\x07\x02\x08", deep) + one},
		{grow(func(x api.Term) api.Term { return fun(1, x) }), strings.Repeat("\x05\x01\x00\x00\x00\x00\x00\x00\x00\x01", deep) + one},
		{grow(func(x api.Term) api.Term { return cons(x, null) }), strings.Repeat("\x09", deep) + one + strings.Repeat("\x08", deep)},
		{grow(func(x api.Term) api.Term { return cons(null, x) }), strings.Repeat("\x09\x08", deep) + one},
		{list(slices.Repeat([]api.Term{num(2)}, 300000)...), strings.Repeat("\x09"+two, 300000) + "\x08"},
	} {
		if b := hash.Bytes(x.t); string(b) != x.bytes {
			t.Errorf("%d bytes of a deep or long term; want %d", len(b), len(x.bytes))
		}
		if h := hash.Hash(x.t); h != said(x.bytes) {
			t.Errorf("the hash of a deep or long term: %d; want %d", h, said(x.bytes))
		}
	}
}

// P4.1: a mix goes on from any number, and from the first one it is one that others know.
func TestMix(t *testing.T) {
	for _, x := range []struct {
		h    uint32
		b    string
		want uint32
	}{
		{2166136261, "", 2166136261}, {2166136261, "a", 3826002220}, {2166136261, "foobar", 3214735720},
		{0, "", 0}, {0, "\x00", 0}, {0, "\x01", 16777619}, {1, "\x01", 0}, {1, "\x00", 16777619}, {4294967295, "\x00\xff", 4278042582}, {4294967295, "", 4294967295},
	} {
		if h := hash.Mix(x.h, []byte(x.b)); h != x.want {
			t.Errorf("Mix(%d, %q): %d; want %d", x.h, x.b, h, x.want)
		}
	}
	for b := range 256 {
		for n := range 40 {
			l := slices.Concat(bytes.Repeat([]byte{byte(b), byte(n)}, n), []byte{byte(b)})
			other := fnv.New32a()
			other.Write(l)
			if h := hash.Mix(2166136261, l); h != other.Sum32() {
				t.Errorf("Mix(2166136261, %v): %d; want %d", l, h, other.Sum32())
			}
			if h := hash.Mix(hash.Mix(uint32(b)<<24, l[:n]), l[n:]); h != hash.Mix(uint32(b)<<24, l) {
				t.Errorf("Mix of %v in two parts: %d", l, h)
			}
		}
	}
}

// said tells the hash of bytes as the chapter says it, in numbers that don't wrap.
func said(s string) uint32 {
	room := new(big.Int).Lsh(big.NewInt(1), 32)
	mix := fnv.New32a()
	mix.Write([]byte(s))
	h := int64(mix.Sum32())
	h ^= h / 65536
	h = new(big.Int).Mod(new(big.Int).Mul(big.NewInt(h), big.NewInt(2146121005)), room).Int64()
	return uint32(h ^ h/32768)
}

// P4.1: hashes that another program has worked out from the chapter's words.
func TestHashesOfSome(t *testing.T) {
	for _, x := range []struct {
		t    api.Term
		want uint32
	}{
		{num(5), 3963878713}, {num(0), 1843989635}, {num(-1), 310770017}, {num(1<<59 - 1), 2853753297}, {num(-1 << 59), 2439785391},
		{atom(""), 3649415708}, {atom("a"), 1696065889}, {atom("ab"), 2643840265}, {atom(strings.Repeat("x", 64)), 3421922239},
		{ref(0), 4179413142}, {ref(5), 1308441633}, {tid(5), 607603678}, {pid(7), 393898944}, {fun(2), 3977261171}, {fun(2, num(1)), 3451026484},
		{tuple(), 2415437706}, {tuple(atom("a"), num(1)), 3407515602}, {tuple(nums(64)...), 1614705702},
		{null, 414276285}, {list(num(1)), 1175325650}, {list(num(1), num(2)), 3614716345}, {cons(num(1), num(2)), 1741709067}, {tuple(atom("a"), cons(num(1), atom("b"))), 1524821404},
		{api.Term{}, 3084453351}, {of(255), 282578062}, {of(-1), 282578062},
	} {
		if h := hash.Hash(x.t); h != x.want {
			t.Errorf("Hash(%v): %d; want %d", x.t, h, x.want)
		}
	}
}

// P4.1: the hash of each kind, of what may be and of what may not.
func TestHash(t *testing.T) {
	for _, x := range everything() {
		if h := hash.Hash(x.t); h != said(x.bytes) {
			t.Errorf("Hash(%v): %d; want %d", x.t, h, said(x.bytes))
		}
	}
	for n := range 5000 {
		if h, want := hash.Hash(num(n)), said(string(binary.LittleEndian.AppendUint64([]byte{1}, uint64(n)))); h != want {
			t.Errorf("Hash(%d): %d; want %d", n, h, want)
		}
	}
}

// some are hashes about each power of two, and others.
func some() []uint32 {
	l := []uint32{math.MaxUint32}
	for shift := range 32 {
		l = append(l, 1<<shift-1, 1<<shift, 1<<shift+1, math.MaxUint32-1<<shift, math.MaxUint32>>shift)
	}
	x := uint32(7)
	for range 300 {
		x = x*1664525 + 1013904223
		l = append(l, x)
	}
	slices.Sort(l)
	return slices.Compact(l)
}

// counts are numbers of buckets: all of the few, and those about powers of two.
func counts() (l []int) {
	for n := 1; n <= 600; n++ {
		l = append(l, n)
	}
	for power := 512; power <= 1<<20; power *= 2 {
		l = append(l, power-1, power, power+1, power*3/2-1, power*3/2, power*3/2+1)
	}
	l = slices.DeleteFunc(l, func(n int) bool { return n > 1<<20 })
	slices.Sort(l)
	return slices.Compact(l)
}

// P4.2: the bucket of hashes for numbers of buckets, in divisions as the chapter says it.
func TestBucket(t *testing.T) {
	for _, buckets := range counts() {
		power := 1
		for power < buckets {
			power *= 2
		}
		for _, h := range some() {
			want := int(h) % power
			if want >= buckets {
				want = int(h) % (power / 2)
			}
			wantBucket(t, h, buckets, want, api.OK)
		}
	}
}

// P4.2: by hand, at the edges of numbers of buckets, where half of the bucket's number would be another one, too.
func TestBucketByHand(t *testing.T) {
	for _, x := range []struct {
		h             uint32
		buckets, want int
	}{
		{0, 1, 0}, {math.MaxUint32, 1, 0}, {3, 2, 1}, {2, 2, 0}, {2, 3, 2}, {3, 3, 1}, {7, 3, 1}, {7, 4, 3}, {4, 5, 4}, {5, 5, 1}, {6, 5, 2}, {8, 5, 0}, {13, 5, 1},
		{6, 6, 2}, {6, 7, 6}, {7, 7, 3}, {15, 8, 7}, {9, 9, 1}, {8, 9, 8}, {14, 9, 6}, {15, 15, 7}, {15, 16, 15}, {1029, 1030, 1029}, {1030, 1030, 6},
		{math.MaxUint32, 1 << 20, 1<<20 - 1}, {math.MaxUint32, 1<<20 - 1, 1<<19 - 1}, {1<<20 - 2, 1<<20 - 1, 1<<20 - 2}, {1 << 20, 1 << 20, 0}, {1<<19 + 1, 1<<19 + 1, 1}, {1 << 19, 1<<19 + 1, 1 << 19},
	} {
		wantBucket(t, x.h, x.buckets, x.want, api.OK)
	}
}

// P4.2: numbers of buckets that are none, with whatever hash.
func TestNoBuckets(t *testing.T) {
	for _, buckets := range []int{0, -1, -2, -1 << 20, 1<<20 + 1, 1<<20 + 2, 1 << 21, 1 << 31, 1 << 32, 1<<32 + 1, 1<<32 + 8, -1<<32 + 8, math.MinInt, math.MinInt + 1, math.MaxInt} {
		for _, h := range []uint32{0, 1, 7, 1 << 31, math.MaxUint32} {
			wantBucket(t, h, buckets, 0, api.ErrArg)
		}
	}
	wantBucket(t, 7, 1<<20, 7, api.OK)
	wantBucket(t, 7, 1, 0, api.OK)
}

// unlike are terms that may be, no two of which are the same, many of them alike in most bytes.
func unlike() []api.Term {
	small := []api.Term{num(0), num(1), num(256), atom(""), atom("a"), atom("b"), atom("ab"), atom("\x01\x00"), ref(0), ref(1), tid(0), tid(1), pid(0), pid(1), fun(0), fun(1), tuple(), null}
	l := slices.Clone(small)
	for _, x := range small {
		l = append(l, tuple(x), tuple(tuple(x)), fun(0, x), fun(1, x), fun(256, x))
		for _, y := range small {
			l = append(l, tuple(x, y), fun(0, x, y), cons(x, y), tuple(x, tuple(y)), tuple(tuple(x), y), tuple(x, y, null), tuple(x, cons(y, null)), cons(cons(x, y), null), cons(x, cons(y, null)))
		}
	}
	for _, x := range plain() {
		if !slices.ContainsFunc(l, func(y api.Term) bool { return term.Same(x.t, y) }) {
			l = append(l, x.t)
		}
	}
	return l
}

// P4.3: of terms that may be, those that are the same have the same bytes and one hash, and others have other bytes.
func TestSameTerms(t *testing.T) {
	seen := map[string]int{}
	all := unlike()
	for i, x := range all {
		b := string(hash.Bytes(x))
		if j, there := seen[b]; there {
			t.Errorf("%v and %v have the same bytes", all[j], x)
		}
		seen[b] = i
		again := term.Copy(x)
		if string(hash.Bytes(again)) != b || hash.Hash(again) != hash.Hash(x) {
			t.Errorf("%v has not the bytes, or not the hash, of its copy", x)
		}
	}
}

// P4.3: terms are the same, and so their bytes are, whatever room their lists have, and whether an empty one is there.
func TestSameTermsWithRoom(t *testing.T) {
	room := append(make([]api.Term, 0, 9), num(1), null, atom("a"), num(2))
	for _, kind := range []int{5, 7, 9} {
		for n := range 3 {
			a, b := of(kind, room[:n]...), api.Term{Kind: kind, L: slices.Clone(room[:n:n])}
			if !bytes.Equal(hash.Bytes(a), hash.Bytes(b)) || hash.Hash(a) != hash.Hash(b) {
				t.Errorf("of kind %d with %d terms: the room behind them tells", kind, n)
			}
		}
		a, b := api.Term{Kind: kind}, api.Term{Kind: kind, L: []api.Term{}}
		if !bytes.Equal(hash.Bytes(a), hash.Bytes(b)) || hash.Hash(a) != hash.Hash(b) {
			t.Errorf("of kind %d: an empty list tells", kind)
		}
	}
}

// wantSplit has hashes put into so many buckets, and into one more: those of one bucket alone go elsewhere, and all into the new one.
func wantSplit(t *testing.T, buckets int, hashes []uint32) {
	t.Helper()
	from, moved := -1, 0
	for _, h := range hashes {
		was, e := hash.Bucket(h, buckets)
		is, f := hash.Bucket(h, buckets+1)
		if e != api.OK || f != api.OK || was < 0 || was >= buckets || is < 0 || is > buckets {
			t.Fatalf("Bucket(%d) of %d and one more: %d, %v, %d, %v", h, buckets, was, e, is, f)
		}
		if is == was {
			continue
		}
		moved++
		if is != buckets || from >= 0 && was != from {
			t.Fatalf("with one bucket more than %d %d goes from %d to %d", buckets, h, was, is)
		}
		from = was
	}
	if moved == 0 {
		t.Errorf("with one bucket more than %d no hash goes to it", buckets)
	}
}

// P4.4: at each number of buckets up to some, and about the powers of two up to the greatest.
func TestOneBucketMore(t *testing.T) {
	for _, buckets := range counts() {
		if buckets == 1<<20 {
			continue
		}
		hashes := some()
		for i := range 3 {
			// Just hashes that leave the number of the new bucket are moved: there must be some, and their neighbours.
			for d := -2; d <= 2; d++ {
				hashes = append(hashes, uint32(buckets+d)+uint32(i)<<21)
			}
		}
		if buckets < 300 {
			for h := range uint32(2000) {
				hashes = append(hashes, h)
			}
		}
		wantSplit(t, buckets, hashes)
	}
}

// P1: what is asked again is answered again; P4.1: an answer is new memory, and what was handed in is as it was.
func TestAnswersAreTheirOwn(t *testing.T) {
	for _, x := range everything() {
		was := term.Copy(x.t)
		first, h := hash.Bytes(x.t), hash.Hash(x.t)
		kept := string(first)
		for i := range first[:cap(first)] {
			first[:cap(first)][i]++
		}
		if string(hash.Bytes(x.t)) != kept || hash.Hash(x.t) != h {
			t.Errorf("Bytes or Hash of %v is another one when asked again", was)
		}
		if !term.Same(x.t, was) {
			t.Errorf("%v is changed: %v", was, x.t)
		}
	}
	room := []byte("abcdef")
	hash.Mix(5, room[1:3])
	if string(room) != "abcdef" || hash.Mix(5, room[1:3]) != hash.Mix(5, []byte("bc")) {
		t.Error("Mix changes bytes, or looks behind them:", room)
	}
}

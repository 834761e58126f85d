// Package word is layer 1: words with tags: see shared/doc/01-word.md.
package word

import "tenure/api"

// The kind stands lowest, so that it is told without a look at the number.
const (
	kindBits = 4
	kindMask = 1<<kindBits - 1
)

// funRoom is what a HeadFun leaves below its function's number: a power of two above MaxTuple, so that both parts are told apart by bits.
const funRoom = 128

// bounds are the least and the greatest number of a kind.
type bounds struct{ least, most int }

// numbers has the bounds of each kind; a kind that has none here is none.
var numbers = [...]bounds{
	api.Nothing:   {0, 0},
	api.Int:       {api.MinInt, api.MaxInt},
	api.Atom:      {0, api.MaxNumber},
	api.Ref:       {0, api.MaxNumber},
	api.Tid:       {0, api.MaxNumber},
	api.Fun:       {0, api.MaxNumber},
	api.Pid:       {0, api.MaxNumber},
	api.Tuple:     {0, api.MaxNumber},
	api.Nil:       {0, 0},
	api.Cons:      {0, api.MaxNumber},
	api.HeadTuple: {0, api.MaxTuple},
	api.HeadFun:   {0, api.MaxNumber*funRoom + api.MaxTuple},
}

// known tells whether there is such a kind.
func known(kind int) bool { return kind >= 0 && kind < len(numbers) }

// fits tells whether a kind that is known has such a number. Of a HeadFun the bounds alone don't do: between its functions lie numbers that no count of terms makes.
func fits(kind, n int) bool {
	b := numbers[kind]
	if n < b.least || n > b.most {
		return false
	}
	return kind != api.HeadFun || n%funRoom <= api.MaxTuple
}

// Pack tells the word of a kind and a number.
func Pack(kind, n int) (uint64, api.Errno) {
	if !known(kind) {
		return 0, api.ErrArg
	}
	if !fits(kind, n) {
		return 0, api.ErrRange
	}
	return uint64(n)<<kindBits | uint64(kind), api.OK
}

// Unpack tells the kind and the number of a word.
func Unpack(w uint64) (int, int, api.Errno) {
	// The shift back goes over a signed number: it brings the sign of an Int along, and makes what is too great for the others negative.
	kind, n := Kind(w), int(int64(w)>>kindBits)
	if !known(kind) || !fits(kind, n) {
		return 0, 0, api.ErrBytes
	}
	return kind, n, api.OK
}

// Kind tells what a word's lowest bits say.
func Kind(w uint64) int { return int(w & kindMask) }

// Boxed tells whether a word names a place.
func Boxed(w uint64) bool {
	switch Kind(w) {
	case api.Tuple, api.Cons, api.Fun:
		return true
	}
	return false
}

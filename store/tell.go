package store

import (
	"tenure/api"
	"tenure/hash"
	"tenure/term"
	"tenure/tree"
)

// told tells something of each object.
func told[T any](numbers []int, tell func(number int) T) []T {
	var l []T
	for _, number := range numbers {
		l = append(l, tell(number))
	}
	return l
}

// asked tells the numbers of a key's objects, if it may be asked for.
func (s *Store) asked(key api.Term) ([]int, api.Errno) {
	if !s.made() {
		return nil, api.ErrNil
	}
	if term.Check(key) != api.OK {
		return nil, api.ErrArg
	}
	return s.find(key), api.OK
}

// Lookup tells a key's objects; Member whether there are any; Words the objects' words, Numbers their numbers, in order.
func (s *Store) Lookup(key api.Term) ([]api.Term, api.Errno) {
	numbers, errno := s.asked(key)
	return told(numbers, s.term), errno
}

func (s *Store) Member(key api.Term) (bool, api.Errno) {
	numbers, errno := s.asked(key)
	return len(numbers) > 0, errno
}

func (s *Store) Words(key api.Term) ([][]uint64, api.Errno) {
	numbers, errno := s.asked(key)
	return told(numbers, s.words), errno
}

func (s *Store) Numbers(key api.Term) ([]int, api.Errno) { return s.asked(key) }

// Objects tells all, in order; Size how many; Hidden how many are gone, but not taken away; Need how many words there are in use; Buckets how many buckets.
func (s *Store) Objects() []api.Term {
	if !s.made() {
		return nil
	}
	return told(picked(s.all(), false), s.term)
}

func (s *Store) Size() int {
	if !s.made() {
		return 0
	}
	return len(s.objects) - s.hidden
}

func (s *Store) Hidden() int {
	if !s.made() {
		return 0
	}
	return s.hidden
}

func (s *Store) Need() int {
	if !s.made() {
		return 0
	}
	return s.used
}

func (s *Store) Buckets() int {
	if !s.made() {
		return 0
	}
	return s.buckets.Count()
}

// Kind and Position tell what it is; Compared how many comparisons of keys were made.
func (s *Store) Kind() int {
	if !s.made() {
		return 0
	}
	return s.kind
}

func (s *Store) Position() int {
	if !s.made() {
		return 0
	}
	return s.position
}

func (s *Store) Compared() int {
	if !s.made() {
		return 0
	}
	return s.keys.Compared()
}

// Keys tells the keys of a bucket, those that are hidden, too; Bucket a key's; Next and Prev the keys about one, First and Last the ends, of an ordered one.
func (s *Store) Keys(bucket int) ([]api.Term, api.Errno) {
	if !s.made() {
		return nil, api.ErrNil
	}
	items, errno := s.buckets.At(bucket)
	if errno != api.OK {
		return nil, api.ErrArg
	}
	var keys []api.Term
	met := map[string]struct{}{}
	for number := range s.marked(items) {
		key := s.key(number)
		text := textOf(key)
		if _, again := met[text]; again {
			continue
		}
		met[text] = struct{}{}
		keys = append(keys, key)
	}
	return keys, api.OK
}

func (s *Store) Bucket(key api.Term) (int, api.Errno) {
	if !s.made() {
		return 0, api.ErrNil
	}
	if term.Check(key) != api.OK {
		return 0, api.ErrArg
	}
	return hash.Bucket(hash.Hash(key), s.buckets.Count())
}

// rising tells whether the keys can be gone through in their order.
func (s *Store) rising() api.Errno {
	if !s.made() {
		return api.ErrNil
	}
	if s.keys == nil {
		return api.ErrState
	}
	return api.OK
}

// beside tells the key that a tree tells of another one.
func (s *Store) beside(key api.Term, tell func(*tree.Tree, api.Term) (api.Term, int, bool)) (api.Term, bool, api.Errno) {
	if errno := s.rising(); errno != api.OK {
		return api.Term{}, false, errno
	}
	if term.Check(key) != api.OK {
		return api.Term{}, false, api.ErrArg
	}
	near, _, there := tell(s.keys, key)
	return near, there, api.OK
}

// end tells the key that a tree tells of all.
func (s *Store) end(tell func(*tree.Tree) (api.Term, int, bool)) (api.Term, bool, api.Errno) {
	if errno := s.rising(); errno != api.OK {
		return api.Term{}, false, errno
	}
	key, _, there := tell(s.keys)
	return key, there, api.OK
}

func (s *Store) Next(key api.Term) (api.Term, bool, api.Errno) {
	return s.beside(key, (*tree.Tree).Next)
}

func (s *Store) Prev(key api.Term) (api.Term, bool, api.Errno) {
	return s.beside(key, (*tree.Tree).Prev)
}

func (s *Store) First() (api.Term, bool, api.Errno) { return s.end((*tree.Tree).First) }

func (s *Store) Last() (api.Term, bool, api.Errno) { return s.end((*tree.Tree).Last) }

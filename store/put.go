package store

import (
	"slices"

	"tenure/api"
	"tenure/flat"
	"tenure/hash"
	"tenure/need"
	"tenure/term"
)

// What becomes of an object that is put.
const (
	comes = iota // it has a number and a node of its own
	takes        // it takes the place of another one, whose number it has
	stays        // it is there already
)

// put is an object that is to be put, with the text made of its key, and what becomes of it.
type put struct {
	key          api.Term
	text         string
	words        []uint64
	fate, number int
}

// plan is what is reckoned ahead, while nothing is put: the puts, and how the store is behind them.
type plan struct {
	s              *Store
	puts           []put
	under          map[string][]put // the objects that stand under keys then, as far as these were looked for
	last           int              // the number that was given last
	buckets, count int
	needed         int // words
}

// old tells the objects that stand under the key of one that is to be put.
func (p *plan) old(one put) []put {
	l, known := p.under[one.text]
	if known {
		return l
	}
	for _, number := range p.s.find(one.key) {
		l = append(l, put{number: number, words: p.s.words(number)})
	}
	p.under[one.text] = l
	return l
}

// more tells what an object needs that stands behind all others, and reckons it among them.
func (p *plan) more(t api.Term, alone int) int {
	if p.s.holds() {
		return alone + need.Node(p.s.kind)
	}
	words, _ := need.Put(p.s.kind, p.buckets, p.count, t)
	p.count++
	if p.count > 2*p.buckets && p.buckets < api.MaxBuckets {
		p.buckets++
	}
	return words
}

// add reckons with one object more. A set puts what takes no place as a bag does, and a bag what is not there as a bag with duplicates does.
func (p *plan) add(t api.Term, words []uint64) {
	one := put{key: p.s.keyOf(t), words: words, fate: comes}
	one.text = textOf(one.key)
	alone, _ := need.Object(t)
	switch p.s.kind {
	case api.Set, api.OrderedSet:
		if l := p.old(one); len(l) > 0 {
			one.fate, one.number = takes, l[0].number
			p.needed += alone
			break
		}
		fallthrough
	case api.Bag:
		if slices.ContainsFunc(p.old(one), func(o put) bool { return slices.Equal(o.words, words) }) {
			one.fate = stays
			break
		}
		fallthrough
	case api.DuplicateBag:
		p.last++
		one.number = p.last
		p.under[one.text] = append(p.under[one.text], one)
		p.needed += p.more(t, alone)
	}
	p.puts = append(p.puts, one)
}

// may tells whether a term is an object.
func (s *Store) may(t api.Term) bool {
	return t.Kind == api.Tuple && len(t.L) >= s.position && term.Check(t) == api.OK
}

// flatten tells the words of objects that are to be put.
func (s *Store) flatten(l []api.Term) ([][]uint64, api.Errno) {
	if !s.made() {
		return nil, api.ErrNil
	}
	if len(l) > api.MaxObjects {
		return nil, api.ErrLong
	}
	for _, t := range l {
		if !s.may(t) {
			return nil, api.ErrBadarg
		}
	}
	all := make([][]uint64, len(l))
	for i, t := range l {
		words, errno := flat.Flatten(s.atoms, t)
		if errno != api.OK {
			return nil, errno
		}
		all[i] = words
	}
	return all, api.OK
}

// insert puts objects, if there are words for all of them.
func (s *Store) insert(l []api.Term, words [][]uint64) api.Errno {
	p := &plan{s: s, under: map[string][]put{}, last: s.last, buckets: s.buckets.Count(), count: len(s.objects)}
	for i, t := range l {
		p.add(t, words[i])
	}
	if p.needed > s.arena.Left() {
		return api.ErrLimit
	}
	for _, one := range p.puts {
		switch one.fate {
		case comes:
			s.stand(one)
		case takes:
			s.replace(one.number, one.words)
		}
	}
	s.last = p.last
	return api.OK
}

// stand puts an object behind all of its bucket, or under its key.
func (s *Store) stand(one put) {
	o := object{words: s.take(one.words), node: s.take(make([]uint64, need.Node(s.kind)))}
	if s.buckets == nil {
		s.keys.Put(one.key, one.number)
		s.numbers[one.text] = one.number
	} else {
		o.hash = hash.Hash(one.key)
		s.buckets.Add(o.hash, one.number)
		if !s.holds() && s.buckets.Wants() > 0 {
			s.split()
		}
	}
	s.objects[one.number] = o
}

// replace gives an object other words, in a block of their own.
func (s *Store) replace(number int, words []uint64) {
	o := s.objects[number]
	old := o.words
	o.words = s.take(words)
	s.objects[number] = o
	s.drop(old)
}

// Insert puts objects; InsertNew only if none of their keys is there.
func (s *Store) Insert(l []api.Term) api.Errno {
	words, errno := s.flatten(l)
	if errno != api.OK {
		return errno
	}
	return s.insert(l, words)
}

func (s *Store) InsertNew(l []api.Term) (bool, api.Errno) {
	words, errno := s.flatten(l)
	if errno != api.OK {
		return false, errno
	}
	for _, t := range l {
		if len(s.find(s.keyOf(t))) > 0 {
			return false, api.OK
		}
	}
	errno = s.insert(l, words)
	return errno == api.OK, errno
}

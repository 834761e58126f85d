package store

import (
	"tenure/api"
	"tenure/need"
	"tenure/term"
)

// remove makes an object be there no more.
func (s *Store) remove(number int) {
	o := s.objects[number]
	if s.keys != nil {
		key := s.key(number)
		s.keys.Remove(key)
		delete(s.numbers, textOf(key))
	}
	s.buckets.Remove(o.hash, number)
	s.drop(o.words)
	s.drop(o.node)
	delete(s.objects, number)
}

// away takes objects away: how many. Those of a hashed store that is fixed are hidden.
func (s *Store) away(numbers []int) int {
	for _, number := range numbers {
		if s.holds() {
			o := s.objects[number]
			o.hidden = true
			s.objects[number] = o
			s.hidden++
			continue
		}
		s.remove(number)
		s.join()
	}
	return len(numbers)
}

// settle does what was put off while the store was fixed.
func (s *Store) settle() {
	for _, number := range picked(s.all(), true) {
		s.remove(number)
	}
	s.hidden = 0
	s.join()
	for s.buckets.Wants() > 0 && s.more() <= s.arena.Left() {
		s.split()
	}
}

// more tells how many words one bucket more needs.
func (s *Store) more() int {
	buckets := s.buckets.Count()
	return need.Buckets(buckets+1) - need.Buckets(buckets)
}

// Delete, DeleteObject and Clear take objects away: how many.
func (s *Store) Delete(key api.Term) (int, api.Errno) {
	numbers, errno := s.asked(key)
	return s.away(numbers), errno
}

func (s *Store) DeleteObject(t api.Term) (int, api.Errno) {
	if !s.made() {
		return 0, api.ErrNil
	}
	if term.Check(t) != api.OK {
		return 0, api.ErrArg
	}
	var same []int
	for _, number := range s.find(s.keyOf(t)) {
		if term.Same(s.term(number), t) {
			same = append(same, number)
		}
	}
	return s.away(same), api.OK
}

func (s *Store) Clear() (int, api.Errno) {
	if !s.made() {
		return 0, api.ErrNil
	}
	return s.away(picked(s.all(), false)), api.OK
}

// Fix holds it for a process; Release lets it go once, Leave altogether; Fixed tells whether somebody holds it, Holders who.
func (s *Store) Fix(pid int) api.Errno {
	if !s.made() {
		return api.ErrNil
	}
	return s.fixes.Add(pid)
}

func (s *Store) Release(pid int) api.Errno {
	if !s.made() {
		return api.ErrNil
	}
	last, errno := s.fixes.Release(pid)
	if last {
		s.settle()
	}
	return errno
}

func (s *Store) Leave(pid int) api.Errno {
	if !s.made() {
		return api.ErrNil
	}
	if _, last := s.fixes.Drop(pid); last {
		s.settle()
	}
	return api.OK
}

func (s *Store) Fixed() bool { return s.made() && s.fixes.Total() > 0 }

func (s *Store) Holders() []int {
	if !s.made() {
		return nil
	}
	return s.fixes.Holders()
}

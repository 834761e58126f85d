package store

import (
	"tenure/api"
	"tenure/atom"
	"tenure/flat"
	"tenure/need"
	"tenure/term"
)

// single tells whether there is one object a key.
func (s *Store) single() bool { return s.kind == api.Set || s.kind == api.OrderedSet }

// free tells whether an object has a place that may be changed.
func (s *Store) free(t api.Term, position int) bool {
	return position >= 1 && position <= len(t.L) && position != s.position
}

// changed tells what an object would be.
func (s *Store) changed(t api.Term, l []api.Change) (api.Term, api.Errno) {
	for _, c := range l {
		if !s.free(t, c.Position) {
			return api.Term{}, api.ErrBadarg
		}
		t.L[c.Position-1] = c.T
	}
	// Its parts may be, so that it can only have too many words.
	return t, term.Check(t)
}

// twin makes another table of the same atoms, in which it can be tried whether more get numbers.
func twin(a *atom.Table) *atom.Table {
	other := atom.New()
	for _, s := range a.All() {
		other.Intern(s)
	}
	return other
}

// fitting tells the words of what an object would be, if there is room for them.
func (s *Store) fitting(t api.Term) ([]uint64, api.Errno) {
	if needed, _ := need.Object(t); needed > s.arena.Left() {
		// What is refused for want of words gives no atom a number; but want of numbers comes first, and gives some.
		if _, errno := flat.Flatten(twin(s.atoms), t); errno == api.OK {
			return nil, api.ErrLimit
		}
	}
	return flat.Flatten(s.atoms, t)
}

// Update changes places of a key's object; Count adds to numbers there.
func (s *Store) Update(key api.Term, l []api.Change) (bool, api.Errno) {
	numbers, errno := s.asked(key)
	if errno != api.OK {
		return false, errno
	}
	for _, c := range l {
		if term.Check(c.T) != api.OK {
			return false, api.ErrArg
		}
	}
	if !s.single() || len(l) == 0 {
		return false, api.ErrBadarg
	}
	if len(numbers) == 0 {
		return false, api.OK
	}
	t, errno := s.changed(s.term(numbers[0]), l)
	if errno != api.OK {
		return false, errno
	}
	words, errno := s.fitting(t)
	if errno != api.OK {
		return false, errno
	}
	s.replace(numbers[0], words)
	return true, api.OK
}

// within tells whether a number may be a term.
func within(n int) bool { return n >= api.MinInt && n <= api.MaxInt }

// beyond tells whether a sum is beyond a step's cap.
func beyond(step api.Step, sum int) bool {
	if step.Add < 0 {
		return sum < step.Cap
	}
	return sum > step.Cap
}

// sum tells what a step makes of a number, if it may be done.
func sum(n int, step api.Step) (int, bool) {
	if !within(step.Add) {
		return 0, false
	}
	n += step.Add
	if step.Capped {
		if !within(step.Cap) || !within(step.Reset) {
			return 0, false
		}
		if beyond(step, n) {
			return step.Reset, true
		}
	}
	return n, within(n)
}

func (s *Store) Count(key api.Term, l []api.Step) ([]int, api.Errno) {
	numbers, errno := s.asked(key)
	if errno != api.OK {
		return nil, errno
	}
	if !s.single() || len(numbers) == 0 || len(l) == 0 {
		return nil, api.ErrBadarg
	}
	t := s.term(numbers[0])
	sums := make([]int, len(l))
	for i, step := range l {
		if !s.free(t, step.Position) || t.L[step.Position-1].Kind != api.Int {
			return nil, api.ErrBadarg
		}
		n, may := sum(t.L[step.Position-1].N, step)
		if !may {
			return nil, api.ErrBadarg
		}
		t.L[step.Position-1].N, sums[i] = n, n
	}
	// Its atoms have their numbers, and it has as many words as it had.
	words, _ := flat.Flatten(s.atoms, t)
	s.arena.Set(s.objects[numbers[0]].words, words)
	return sums, api.OK
}

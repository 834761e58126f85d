package order_test

import (
	"math"
	"slices"
	"strings"
	"testing"
	"unsafe"

	"tenure/api"
	"tenure/order"
	"tenure/term"
)

// Terms are written here field by field, so that no other layer is held against itself.
func num(n int) api.Term                  { return api.Term{Kind: 1, N: n} }
func atom(s string) api.Term              { return api.Term{Kind: 2, S: s} }
func ref(n int) api.Term                  { return api.Term{Kind: 3, N: n} }
func tid(n int) api.Term                  { return api.Term{Kind: 4, N: n} }
func fun(n int, l ...api.Term) api.Term   { return api.Term{Kind: 5, N: n, L: l} }
func pid(n int) api.Term                  { return api.Term{Kind: 6, N: n} }
func tuple(l ...api.Term) api.Term        { return api.Term{Kind: 7, L: l} }
func cons(head, tail api.Term) api.Term   { return api.Term{Kind: 9, L: []api.Term{head, tail}} }
func of(kind int, l ...api.Term) api.Term { return api.Term{Kind: kind, L: l} }

var null = api.Term{Kind: 8}

func list(l ...api.Term) api.Term {
	t := null
	for _, head := range slices.Backward(l) {
		t = cons(head, t)
	}
	return t
}

func nums(l ...int) (terms []api.Term) {
	for _, n := range l {
		terms = append(terms, num(n))
	}
	return terms
}

// wantCompare asks both ways at once.
func wantCompare(t *testing.T, a, b api.Term, want int) {
	t.Helper()
	if c := order.Compare(a, b); c != want {
		t.Errorf("Compare(%v, %v): %d; want %d", a, b, c, want)
	}
	if c := order.Compare(b, a); c != -want {
		t.Errorf("Compare(%v, %v): %d; want %d", b, a, c, -want)
	}
}

func wantTerms(t *testing.T, what string, got, want []api.Term) {
	t.Helper()
	if !slices.EqualFunc(got, want, term.Same) {
		t.Errorf("%s: %v; want %v", what, got, want)
	}
}

func wantFind(t *testing.T, l []api.Term, x api.Term, place int, there bool) {
	t.Helper()
	if n, ok := order.Find(l, x); n != place || ok != there {
		t.Errorf("Find(%v, %v): %d, %v; want %d, %v", l, x, n, ok, place, there)
	}
}

// P3.1, P3.2: the chapter's examples.
func TestExamples(t *testing.T) {
	a, one, empty := atom("a"), num(1), tuple()
	wantCompare(t, one, a, -1)
	wantCompare(t, tuple(num(9)), list(one), -1)
	wantCompare(t, tuple(num(9)), tuple(one, one), -1)
	wantCompare(t, list(one, num(2)), list(one, num(3)), -1)
	wantCompare(t, list(one, num(2)), list(one), 1)
	wantCompare(t, null, list(one), -1)
	wantCompare(t, a, atom("ab"), -1)
	wantCompare(t, empty, tuple(), 0)
	wantTerms(t, "Sort(b, 1, {}, a)", order.Sort([]api.Term{atom("b"), one, empty, a}), []api.Term{one, a, atom("b"), empty})
	wantTerms(t, "Unique(2 1 2 1)", order.Unique(nums(2, 1, 2, 1)), nums(1, 2))
	wantFind(t, nums(1, 3, 5), num(3), 1, true)
	wantFind(t, nums(1, 3, 5), num(4), 2, false)
}

// rising are terms each of which is ahead of the next one, as the chapter's Words tell it; some may not be.
func rising() []api.Term {
	return slices.Concat(risingPlain(), risingFuns(), []api.Term{pid(0), pid(1), pid(2), pid(1 << 30)}, risingTuples(), []api.Term{null}, risingConses(), []api.Term{
		of(10), of(11), of(17), of(1 << 32), of(1<<32 + 1), of(math.MaxInt),
	})
}

func risingPlain() []api.Term {
	return []api.Term{
		of(math.MinInt), of(-9), of(-1), {},
		num(math.MinInt), num(-1 << 59), num(-1<<59 + 1), num(-1 << 32), num(-256), num(-2), num(-1), num(0), num(1), num(2), num(10), num(255), num(1 << 32), num(1<<59 - 2), num(1<<59 - 1), num(1 << 59), num(math.MaxInt),
		atom(""), atom("\x00"), atom("\x00\x00"), atom("'"), atom("10"), atom("9"), atom("A"), atom("Z"), atom("_"), atom("a"), atom("a\x00"), atom("a\x00b"), atom("aB"), atom("aa"), atom("ab"), atom("abb"), atom("abc"), atom("ac"), atom("b"), atom("ba"), atom("z"), atom("\x7f"), atom("\x80"), atom("é"), atom("é\x00"), atom("\xe9"), atom("\xff"), atom("\xff" + strings.Repeat("a", 63)), atom("\xff" + strings.Repeat("a", 64)), atom("\xff\xff"),
		ref(-1), ref(0), ref(1), ref(2), ref(1 << 30), ref(1<<30 + 1),
		tid(-1), tid(0), tid(1), tid(2), tid(1 << 30),
	}
}

func risingFuns() []api.Term {
	one := num(1)
	return []api.Term{
		fun(-1, one, one, one), fun(0), fun(0, num(-1)), fun(0, one), fun(0, null), fun(0, list(one)), fun(0, num(0), num(9)), fun(0, one, num(0)), fun(0, one, one), fun(0, one, atom("")), fun(0, atom(""), num(0)), fun(0, num(0), num(0), num(0)),
		fun(1), fun(1, num(0)), fun(2), fun(1 << 30), fun(1<<30, num(0)), fun(1<<30 + 1),
	}
}

func risingTuples() []api.Term {
	one, wide := num(1), slices.Repeat(nums(1), 64)
	return []api.Term{
		tuple(), tuple(num(-1)), tuple(one), tuple(atom("a")), tuple(fun(0)), tuple(fun(0, one)), tuple(fun(1)), tuple(tuple()), tuple(tuple(one)), tuple(tuple(tuple())), tuple(tuple(null)), tuple(tuple(one, one)), tuple(null), tuple(list(one)),
		tuple(num(0), num(9)), tuple(one, num(0)), tuple(one, one), tuple(one, tuple()), tuple(tuple(), num(0)), tuple(tuple(one, num(2)), one), tuple(tuple(one, num(3)), num(0)),
		tuple(num(0), num(0), num(9)), tuple(num(0), one, num(0)), tuple(num(0), one, one), tuple(one, num(0), num(0)),
		tuple(slices.Repeat(nums(0), 4)...), tuple(wide[:63]...), tuple(slices.Concat(wide[:63], nums(0))...), tuple(wide...), tuple(slices.Concat(wide[:63], nums(2))...), tuple(slices.Concat(wide, nums(0))...),
	}
}

// risingConses begin and end with those that have not two terms: these are as tuples, the fewer ahead.
func risingConses() []api.Term {
	one := num(1)
	return []api.Term{
		of(9), of(9, num(0)), of(9, one), of(9, list(one)),
		cons(num(0), one), cons(num(0), atom("a")), cons(num(0), tuple(one, one)), list(num(0)), list(num(0), num(0)), list(num(0), num(0), one), list(num(0), one),
		cons(one, num(0)), cons(one, one), list(one), cons(one, of(9)), cons(one, of(9, one)), cons(one, cons(one, one)), list(one, one), list(one, one, one), list(one, num(2)), cons(one, of(9, num(0), num(0), num(0))), cons(one, of(10)),
		list(atom("a")), list(tuple()), list(null), list(of(9, one)), list(list(one)), list(list(one), num(0)), list(list(one, one)), list(list(num(2))),
		of(9, num(0), num(0), num(0)), of(9, num(0), one, num(0)), of(9, one, num(0), num(0)), of(9, num(0), num(0), num(0), num(0)),
	}
}

func sign(n int) int { return max(-1, min(1, n)) }

// P3.1, P3.3: of the chapter's order each two, both ways.
func TestCompare(t *testing.T) {
	all, again := rising(), rising()
	for i, a := range all {
		for j, b := range again {
			wantCompare(t, a, b, sign(i-j))
		}
	}
}

// about tells terms that have t as a part at each place, with what stands about it.
func about(t, ahead, behind api.Term) []api.Term {
	deep, far := cons(t, behind), tuple(t, behind)
	for range 200 {
		deep = tuple(cons(ahead, fun(3, deep, behind)), behind)
		far = cons(ahead, far)
	}
	return []api.Term{
		tuple(t), tuple(t, behind), tuple(ahead, t), tuple(ahead, t, behind), tuple(ahead, ahead, t, behind, behind),
		fun(1, t), fun(1, t, behind), fun(1, ahead, t), fun(1, ahead, t, behind), cons(t, behind), cons(ahead, t),
		list(t), list(t, behind), list(ahead, t, behind), list(ahead, ahead, t, behind), cons(ahead, cons(ahead, t)), cons(list(t), behind),
		of(9, t), of(9, t, behind, behind), of(9, ahead, t, behind), of(9, ahead, ahead, t), tuple(list(ahead, fun(2, tuple(cons(t, behind)))), behind), deep, far,
	}
}

// P3.1: the first part that differs tells, at each place, whatever stands behind it.
func TestFirstPartThatDiffers(t *testing.T) {
	l := rising()
	for i := 0; i < len(l); i += 3 {
		for j := 0; j < len(l); j += 2 {
			a, b := about(l[i], tuple(num(5)), num(9)), about(l[j], tuple(num(5)), num(9))
			lesser := about(l[j], tuple(num(5)), num(1))
			want := sign(i - j)
			for k := range a {
				if c := order.Compare(a[k], b[k]); c != want {
					t.Fatalf("Compare of %v and %v, within others %d: %d; want %d", l[i], l[j], k, c, want)
				}
				if c := order.Compare(a[k], lesser[k]); i != j && c != want {
					t.Fatalf("Compare of %v and %v, within others %d, with less behind: %d; want %d", l[i], l[j], k, c, want)
				}
			}
		}
	}
}

// P3.1: what stands behind parts that are alike is told, too.
func TestPartsBehindTell(t *testing.T) {
	for _, x := range rising() {
		for _, more := range []func(t api.Term) api.Term{
			func(y api.Term) api.Term { return tuple(x, y) },
			func(y api.Term) api.Term { return tuple(x, x, y, num(0)) },
			func(y api.Term) api.Term { return fun(4, x, y) },
			func(y api.Term) api.Term { return cons(x, y) },
			func(y api.Term) api.Term { return list(x, y) },
			func(y api.Term) api.Term { return list(x, x, y, x) },
			func(y api.Term) api.Term { return of(9, x, y, num(0)) },
			func(y api.Term) api.Term { return tuple(tuple(x), y) },
		} {
			wantCompare(t, more(num(1)), more(num(2)), -1)
			wantCompare(t, more(atom("a")), more(num(2)), 1)
			wantCompare(t, more(x), more(x), 0)
		}
	}
}

// fellows are terms of one kind that may not be, or may, and that are alike: they differ in what doesn't count.
func fellows() [][]api.Term {
	one := []api.Term{num(1)}
	groups := [][]api.Term{
		{{Kind: 2, S: "a"}, {Kind: 2, S: "a", N: 1}, {Kind: 2, S: "a", N: -1}, {Kind: 2, S: "a", L: one}, {Kind: 2, S: "a", N: 2, L: []api.Term{null, null}}},
		{{Kind: 8}, {Kind: 8, N: 1}, {Kind: 8, N: -1}, {Kind: 8, S: "a"}, {Kind: 8, L: one}, {Kind: 8, N: 1, S: "b", L: []api.Term{null, null}}},
		{{Kind: 7}, {Kind: 7, N: 1}, {Kind: 7, N: -1}, {Kind: 7, S: "a"}, {Kind: 7, L: []api.Term{}}, {Kind: 7, L: make([]api.Term, 0, 4)}},
		{{Kind: 7, L: one}, {Kind: 7, N: 1, L: one}, {Kind: 7, N: -1, S: "a", L: one}},
		{{Kind: 5, N: 3}, {Kind: 5, N: 3, S: "a"}, {Kind: 5, N: 3, L: []api.Term{}}},
		{{Kind: 5, N: 3, L: one}, {Kind: 5, N: 3, S: "a", L: one}},
		{{Kind: 9, L: []api.Term{num(1), null}}, {Kind: 9, N: 1, L: []api.Term{num(1), null}}, {Kind: 9, S: "a", L: []api.Term{num(1), null}}},
		{{Kind: 9}, {Kind: 9, N: 1}, {Kind: 9, N: -1, S: "a"}, {Kind: 9, L: []api.Term{}}},
		{{Kind: 9, L: one}, {Kind: 9, N: 1, L: one}, {Kind: 9, S: "a", L: one}},
	}
	for _, kind := range []int{1, 3, 4, 6} {
		groups = append(groups, []api.Term{{Kind: kind, N: 7}, {Kind: kind, N: 7, S: "a"}, {Kind: kind, N: 7, S: "b"}, {Kind: kind, N: 7, L: one}, {Kind: kind, N: 7, L: []api.Term{null, null}}})
	}
	kinds := []int{math.MinInt, 1<<32 + 7, 1<<32 + 9, math.MaxInt - 1}
	for kind := range 40 {
		kinds = append(kinds, -kind, 10+kind)
	}
	for _, kind := range kinds {
		groups = append(groups, []api.Term{{Kind: kind}, {Kind: kind, N: 1}, {Kind: kind, N: -1}, {Kind: kind, S: "a"}, {Kind: kind, L: one}, {Kind: kind, N: 1, S: "b", L: []api.Term{null, null}}})
	}
	return groups
}

// P3.1: terms that may not be are alike, where they differ in what the chapter doesn't name.
func TestAlikeThatMayNotBe(t *testing.T) {
	for _, group := range fellows() {
		for i, a := range group {
			for j, b := range group {
				wantCompare(t, a, b, 0)
				left, right := about(a, null, num(0)), about(b, null, num(0))
				for k := range left {
					if c := order.Compare(left[k], right[k]); c != 0 {
						t.Errorf("Compare of %d and %d of %v within others %d: %d", i, j, group, k, c)
					}
				}
			}
		}
	}
}

// P3.1, P3.3: those that are alike stand at one place among all others.
func TestAlikeAmongOthers(t *testing.T) {
	for _, group := range fellows() {
		for _, x := range slices.Concat(rising(), slices.Concat(fellows()...)) {
			want := order.Compare(group[0], x)
			for _, a := range group[1:] {
				wantCompare(t, a, x, want)
			}
		}
	}
	// What doesn't count is not looked at, where what counts differs either.
	wantCompare(t, api.Term{Kind: 1, N: 1, S: "b", L: nums(2)}, api.Term{Kind: 1, N: 2, S: "a", L: nums(1)}, -1)
	wantCompare(t, api.Term{Kind: 2, N: 2, S: "a", L: nums(2)}, api.Term{Kind: 2, N: 1, S: "b", L: nums(1)}, -1)
	wantCompare(t, api.Term{Kind: 7, N: 2, S: "b", L: nums(1)}, api.Term{Kind: 7, N: 1, S: "a", L: nums(2)}, -1)
	wantCompare(t, api.Term{Kind: 9, N: 2, S: "b", L: nums(1, 1)}, api.Term{Kind: 9, N: 1, S: "a", L: nums(1, 2)}, -1)
	wantCompare(t, api.Term{Kind: 5, N: 1, S: "b", L: nums(1)}, api.Term{Kind: 5, N: 1, S: "a", L: nums(2)}, -1)
}

// deeper tells terms of the given ones: all tuples, funs and conses of up to two of them.
func deeper(l []api.Term) []api.Term {
	all := slices.Concat(l, []api.Term{tuple(), fun(0), fun(1)})
	for _, x := range l {
		all = append(all, tuple(x), fun(0, x), fun(1, x))
		for _, y := range l {
			all = append(all, tuple(x, y), fun(0, x, y), cons(x, y))
		}
	}
	return all
}

// written tells numbers of a term that are ahead of another one's, one by one, just if it is ahead of that: an order in another way.
func written(t api.Term, l []int) []int {
	l = append(l, t.Kind)
	switch t.Kind {
	case 1, 3, 4, 6:
		return append(l, t.N)
	case 2:
		for i := range len(t.S) {
			l = append(l, int(t.S[i]))
		}
		return append(l, -1)
	case 5:
		l = append(l, t.N)
	case 7, 9:
	default:
		return l
	}
	l = append(l, len(t.L))
	for _, part := range t.L {
		l = written(part, l)
	}
	return l
}

// P3.3: all small terms stand in one order, and terms that may be are alike just if they are the same.
func TestOneOrder(t *testing.T) {
	small := []api.Term{num(0), num(1), atom("a"), atom("ab"), ref(0), tid(0), pid(0), null}
	all := append(deeper(small), deeper([]api.Term{num(1), tuple(num(0)), list(num(1)), cons(atom("a"), num(0)), fun(0, null), tuple(null, null), null})...)
	for _, x := range all {
		if e := term.Check(x); e != api.OK {
			t.Fatal("a term that may not be:", x, e)
		}
	}
	words := make([][]int, len(all))
	for i, x := range all {
		words[i] = written(x, nil)
	}
	for i, a := range all {
		for j, b := range all {
			c := order.Compare(a, b)
			if c != slices.Compare(words[i], words[j]) {
				t.Fatalf("Compare(%v, %v): %d", a, b, c)
			}
			if (c == 0) != term.Same(a, b) {
				t.Fatalf("Compare(%v, %v): %d, and the same: %v", a, b, c, term.Same(a, b))
			}
		}
	}
}

// P3.1: as deep as the document's bound lets terms be nested, at either end, and of a list's length.
func TestDeepAndLong(t *testing.T) {
	grow := func(t api.Term, more func(api.Term) api.Term, times int) api.Term {
		for range times {
			t = more(t)
		}
		return t
	}
	for i, more := range []func(api.Term) api.Term{
		func(x api.Term) api.Term { return tuple(x) },
		func(x api.Term) api.Term { return tuple(x, num(1)) },
		func(x api.Term) api.Term { return tuple(null, x) },
		func(x api.Term) api.Term { return fun(7, x, num(1)) },
		func(x api.Term) api.Term { return cons(x, num(1)) },
		func(x api.Term) api.Term { return cons(num(1), x) },
		func(x api.Term) api.Term { return of(9, null, x, null) },
	} {
		a, b := grow(num(1), more, 1<<16-1), grow(num(2), more, 1<<16-1)
		if order.Compare(a, b) != -1 || order.Compare(b, a) != 1 || order.Compare(a, a) != 0 {
			t.Error("deep terms are compared wrongly:", i)
		}
	}
	ones := slices.Repeat(nums(1), 300000)
	a, b, c := list(ones...), list(append(slices.Clone(ones), num(0))...), list(ones[1:]...)
	if order.Compare(a, b) != -1 || order.Compare(b, c) != 1 || order.Compare(a, c) != 1 || order.Compare(b, b) != 0 {
		t.Error("long lists are compared wrongly")
	}
}

// shuffled tells the terms of l in another order, one for each seed.
func shuffled(l []api.Term, seed uint32) []api.Term {
	l = slices.Clone(l)
	for i := len(l) - 1; i > 0; i-- {
		seed = seed*1664525 + 1013904223
		j := int(seed>>8) % (i + 1)
		l[i], l[j] = l[j], l[i]
	}
	return l
}

// P3.1, P3.2: whatever order terms stood in, they are sorted, each as often as it was, or once.
func TestSortAndUnique(t *testing.T) {
	all := rising()
	for seed := range uint32(40) {
		wantTerms(t, "Sort", order.Sort(shuffled(all, seed)), all)
		wantTerms(t, "Unique", order.Unique(shuffled(all, seed)), all)
		for n := range 30 {
			part := all[seed*3 : int(seed)*3+n]
			wantTerms(t, "Sort of a few", order.Sort(shuffled(part, seed)), part)
			var often []api.Term
			for i, x := range part {
				often = append(often, slices.Repeat([]api.Term{x}, 1+(i+n)%4)...)
			}
			wantTerms(t, "Sort of many alike", order.Sort(shuffled(often, seed)), often)
			wantTerms(t, "Unique of many alike", order.Unique(shuffled(often, seed)), part)
		}
	}
	wantTerms(t, "Sort of what is sorted", order.Sort(all), all)
	backward := slices.Clone(all)
	slices.Reverse(backward)
	wantTerms(t, "Sort of what falls", order.Sort(backward), all)
}

// P3.1, P3.2: of no terms, of one.
func TestSortFew(t *testing.T) {
	for _, l := range [][]api.Term{nil, {}, make([]api.Term, 0, 3), nums(1, 2)[:0]} {
		wantTerms(t, "Sort of none", order.Sort(l), nil)
		wantTerms(t, "Unique of none", order.Unique(l), nil)
		wantFind(t, l, num(1), 0, false)
		wantFind(t, l, api.Term{}, 0, false)
	}
	for _, x := range rising() {
		wantTerms(t, "Sort of one", order.Sort([]api.Term{x}), []api.Term{x})
		wantTerms(t, "Unique of one", order.Unique([]api.Term{x}), []api.Term{x})
		wantTerms(t, "Sort of two", order.Sort([]api.Term{x, x}), []api.Term{x, x})
		wantTerms(t, "Unique of two", order.Unique([]api.Term{x, x}), []api.Term{x})
	}
}

// marked are terms of some numbers, each with a mark that doesn't count: its place in the list.
func marked(n, kinds int) []api.Term {
	l := make([]api.Term, n)
	for i := range l {
		l[i] = api.Term{Kind: 1, N: i * 7 % kinds, S: strings.Repeat("x", i)}
	}
	return l
}

// P3.1, P3.2: those that are alike keep the order that they had; the first of them is left.
func TestSortKeepsTheOrderOfThoseAlike(t *testing.T) {
	for _, n := range []int{2, 3, 11, 12, 13, 20, 21, 50, 64, 300} {
		for _, kinds := range []int{1, 2, 3, 5, 11} {
			l := marked(n, kinds)
			var sorted, once []api.Term
			for k := range kinds {
				first := true
				for _, x := range l {
					if x.N == k {
						sorted = append(sorted, x)
						if first {
							once = append(once, x)
						}
						first = false
					}
				}
			}
			wantTerms(t, "Sort of those alike", order.Sort(l), sorted)
			wantTerms(t, "Unique of those alike", order.Unique(l), once)
		}
	}
	for _, group := range fellows() {
		wantTerms(t, "Sort of fellows", order.Sort(group), group)
		wantTerms(t, "Unique of fellows", order.Unique(group), group[:1])
		backward := slices.Clone(group)
		slices.Reverse(backward)
		wantTerms(t, "Sort of fellows, backward", order.Sort(backward), backward)
		wantTerms(t, "Unique of fellows, backward", order.Unique(backward), backward[:1])
	}
}

// places gathers where the terms of lists stand, the lists of their parts, too, with the spare room.
func places(l []api.Term, found map[*api.Term]int) map[*api.Term]int {
	all := l[:cap(l)]
	for i := range all {
		found[&all[i]]++
		places(all[i].L, found)
	}
	return found
}

// P3.1, P3.2: an answer is new memory, and what was handed in is not changed, its spare room neither.
func TestSortSharesNothing(t *testing.T) {
	s := strings.Repeat("z", 40)
	inner := append(make([]api.Term, 0, 5), num(3), atom(s))
	room := []api.Term{tuple(inner...), {Kind: 7, L: inner}, atom(s), list(num(2), tuple(inner...)), {Kind: 7, L: inner}, num(5), null, {Kind: 8, L: inner[:1]}, num(-1), num(-2)}
	was := make([]api.Term, len(room))
	for i, x := range room {
		was[i] = term.Copy(x)
	}
	for _, sort := range []func([]api.Term) []api.Term{order.Sort, order.Unique} {
		for n := range 9 {
			got := sort(room[:n])
			wantTerms(t, "what was handed in", room, was)
			mine, theirs := places(got, map[*api.Term]int{}), places(room, map[*api.Term]int{})
			for p, often := range mine {
				if often > 1 || theirs[p] > 0 {
					t.Fatalf("of %d: memory is shared, within the answer %d times, with the argument %d times", n, often, theirs[p])
				}
			}
			for _, x := range got {
				if x.Kind == 2 && unsafe.StringData(x.S) == unsafe.StringData(s) {
					t.Errorf("of %d: an atom's text is not the answer's own memory", n)
				}
			}
		}
	}
}

// P3.2: the place of each term in sorted lists: of those that are there, and between, ahead and behind.
func TestFind(t *testing.T) {
	all := rising()
	var even []api.Term
	for i := 1; i < len(all); i += 2 {
		even = append(even, all[i])
	}
	for i, x := range all {
		wantFind(t, all, x, i, true)
		if i%2 == 1 {
			wantFind(t, even, x, i/2, true)
		} else {
			wantFind(t, even, x, i/2, false)
		}
	}
	for n := range 40 {
		l := make([]api.Term, n)
		for i := range l {
			l[i] = num(2 * i)
		}
		for k := -1; k <= 2*n; k++ {
			wantFind(t, l, num(k), min(n, max(0, (k+1)/2)), k >= 0 && k%2 == 0 && k < 2*n)
		}
	}
}

// P3.2: of several that are alike, the first.
func TestFindFirstAlike(t *testing.T) {
	for ahead := range 9 {
		for same := range 9 {
			for behind := range 9 {
				l := slices.Concat(slices.Repeat(nums(1), ahead), slices.Repeat(nums(2), same), slices.Repeat(nums(3), behind))
				wantFind(t, l, num(2), ahead, same > 0)
				wantFind(t, l, api.Term{Kind: 1, N: 2, S: "a"}, ahead, same > 0)
				wantFind(t, l, num(1), 0, ahead > 0)
				wantFind(t, l, num(3), ahead+same, behind > 0)
				wantFind(t, l, num(0), 0, false)
				wantFind(t, l, null, len(l), false)
			}
		}
	}
	for _, group := range fellows() {
		for _, x := range group {
			wantFind(t, group, x, 0, true)
		}
	}
}

// P3.2: of a list that is not sorted: a place with what is ahead of the term before it, and at it what is not.
func TestFindInUnsorted(t *testing.T) {
	for seed := range uint32(60) {
		for n := range 30 {
			var l []api.Term
			for i := range n {
				l = append(l, num(i*5%17))
			}
			l = shuffled(l, seed)
			was := slices.Clone(l)
			for k := -1; k < 18; k++ {
				i, there := order.Find(l, num(k))
				if i < 0 || i > n || i > 0 && l[i-1].N >= k || i < n && l[i].N < k || there != (i < n && l[i].N == k) {
					t.Fatalf("Find(%v, %d): %d, %v", l, k, i, there)
				}
			}
			wantTerms(t, "what was looked through", l, was)
		}
	}
}

// P3.2: what Sort and Unique make is where Find finds each.
func TestFindWhatIsSorted(t *testing.T) {
	l := order.Sort(slices.Concat(rising(), rising(), rising()))
	u := order.Unique(l)
	for i, x := range u {
		wantFind(t, l, x, 3*i, true)
		wantFind(t, u, x, i, true)
	}
}

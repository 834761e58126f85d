package term_test

import (
	"math"
	"slices"
	"strconv"
	"strings"
	"testing"
	"unsafe"

	"tenure/api"
	"tenure/term"
)

// Terms are written here field by field, so that what makes them is not held against itself.
func num(n int) api.Term                       { return api.Term{Kind: 1, N: n} }
func atom(s string) api.Term                   { return api.Term{Kind: 2, S: s} }
func fun(n int, l ...api.Term) api.Term        { return api.Term{Kind: 5, N: n, L: l} }
func tuple(l ...api.Term) api.Term             { return api.Term{Kind: 7, L: l} }
func cons(head, tail api.Term) api.Term        { return api.Term{Kind: 9, L: []api.Term{head, tail}} }
func of(kind int, l ...api.Term) api.Term      { return api.Term{Kind: kind, L: l} }
func several(n int, t api.Term) (l []api.Term) { return slices.Repeat([]api.Term{t}, n) }

var null = api.Term{Kind: 8}

func list(l ...api.Term) api.Term {
	t := null
	for i := len(l) - 1; i >= 0; i-- {
		t = cons(l[i], t)
	}
	return t
}

// sized is a term, and the words that it has.
type sized struct {
	t     api.Term
	words int
}

// wellMade are terms that may be, of each kind, with the words that the chapter's table tells.
func wellMade() map[string]sized {
	return map[string]sized{
		"zero":              {num(0), 1},
		"least":             {num(-576460752303423488), 1},
		"most":              {num(576460752303423487), 1},
		"empty atom":        {atom(""), 1},
		"atom of 64":        {atom(strings.Repeat("a", 64)), 1},
		"atom of 32 runes":  {atom(strings.Repeat("é", 32)), 1},
		"atom of any bytes": {atom("\xff\x00 '"), 1},
		"ref 0":             {api.Term{Kind: 3}, 1},
		"ref":               {api.Term{Kind: 3, N: 1073741824}, 1},
		"tid 0":             {api.Term{Kind: 4}, 1},
		"tid":               {api.Term{Kind: 4, N: 1073741824}, 1},
		"pid 0":             {api.Term{Kind: 6}, 1},
		"pid":               {api.Term{Kind: 6, N: 1073741824}, 1},
		"fun":               {fun(0), 2},
		"fun with terms":    {fun(1073741824, num(1), tuple()), 5},
		"fun of 64":         {fun(7, several(64, num(1))...), 66},
		"tuple of none":     {tuple(), 2},
		"tuple":             {tuple(atom("a"), num(1)), 4},
		"tuple of 64":       {tuple(several(64, tuple())...), 130},
		"nil":               {null, 1},
		"cons of atoms":     {cons(atom("a"), atom("b")), 3},
		"cons":              {list(num(1), num(2)), 5},
		"spare room":        {api.Term{Kind: 1, L: make([]api.Term, 0, 3)}, 1},
		"all":               {tuple(list(fun(3, cons(num(1), num(2))), null), atom("x")), 2 + 1 + 2 + 1 + 1 + 1 + 1 + 1 + 1 + 1},
	}
}

// noTerms are none of the chapter's table, each by one thing alone, with their words.
func noTerms() map[string]sized {
	l := map[string]sized{
		"int too great":    {num(576460752303423488), 1},
		"int too small":    {num(-576460752303423489), 1},
		"greatest number":  {num(math.MaxInt), 1},
		"least number":     {num(math.MinInt), 1},
		"atom of 65":       {atom(strings.Repeat("a", 65)), 1},
		"atom of 33 runes": {atom(strings.Repeat("é", 33)), 1},
		"tuple of 65":      {tuple(several(65, num(1))...), 67},
		"fun of 65":        {fun(1, several(65, num(1))...), 67},
		"fun below 0":      {fun(-1), 2},
		"fun above":        {fun(1073741825), 2},
		"cons of none":     {of(9), 1},
		"cons of one":      {of(9, tuple()), 3},
		"cons of three":    {of(9, num(1), null, tuple()), 5},
	}
	for _, kind := range []int{0, 10, 11, 12, 17, -1, -7, 1 << 32, 1<<32 + 7, math.MinInt, math.MaxInt} {
		l["kind "+strconv.Itoa(kind)] = sized{of(kind), 1}
		l["kind with parts "+strconv.Itoa(kind)] = sized{of(kind, tuple(), num(1)), 1}
	}
	for _, kind := range []int{3, 4, 6} {
		l["number below 0 "+strconv.Itoa(kind)] = sized{api.Term{Kind: kind, N: -1}, 1}
		l["number above "+strconv.Itoa(kind)] = sized{api.Term{Kind: kind, N: 1073741825}, 1}
	}
	for _, kind := range []int{2, 7, 8} {
		l["with 1 "+strconv.Itoa(kind)] = sized{api.Term{Kind: kind, N: 1}, 1 + kind%8/7}
		l["with -1 "+strconv.Itoa(kind)] = sized{api.Term{Kind: kind, N: -1}, 1 + kind%8/7}
	}
	l["cons with 1"] = sized{api.Term{Kind: 9, N: 1, L: []api.Term{num(1), null}}, 3}
	for _, kind := range []int{1, 2, 3, 4, 6, 8} {
		l["with parts "+strconv.Itoa(kind)] = sized{of(kind, tuple(), num(1)), 1}
		l["with one part "+strconv.Itoa(kind)] = sized{of(kind, num(1)), 1}
	}
	for _, kind := range []int{1, 3, 4, 6, 8} {
		l["with text "+strconv.Itoa(kind)] = sized{api.Term{Kind: kind, S: "a"}, 1}
	}
	l["tuple with text"] = sized{api.Term{Kind: 7, S: "a"}, 2}
	l["fun with text"] = sized{api.Term{Kind: 5, S: "a"}, 2}
	l["cons with text"] = sized{api.Term{Kind: 9, S: "a", L: []api.Term{num(1), null}}, 3}
	return l
}

func wantCheck(t *testing.T, name string, x api.Term, want api.Errno) {
	t.Helper()
	if e := term.Check(x); e != want {
		t.Errorf("Check of %s: %v; want %v", name, e, want)
	}
}

// P2.1: the chapter's examples.
func TestExamples(t *testing.T) {
	if n := term.Words(num(5)); n != 1 {
		t.Error("Words(5):", n)
	}
	if n := term.Words(tuple(atom("a"), num(1))); n != 4 {
		t.Error("Words({a, 1}):", n)
	}
	if n := term.Words(list(num(1), num(2))); n != 5 {
		t.Error("Words([1, 2]):", n)
	}
	if n := term.Words(tuple(atom("a"), cons(num(1), atom("b")))); n != 6 {
		t.Error("Words({a,[1|b]}):", n)
	}
	wantCheck(t, "an Int of 2^59", num(1<<59), api.ErrArg)
	wantCheck(t, "a Cons of one term", of(9, null), api.ErrArg)
	wantCheck(t, "an Atom of 65 bytes", atom(strings.Repeat("x", 65)), api.ErrArg)
	wantCheck(t, "a Nil with N 1", api.Term{Kind: 8, N: 1}, api.ErrArg)
}

// wantEach checks terms and their words, each by itself and as a part wherever.
func wantEach(t *testing.T, l map[string]sized, want api.Errno) {
	t.Helper()
	for name, x := range l {
		wantCheck(t, name, x.t, want)
		for i, y := range within(x.t) {
			wantCheck(t, name+" within "+strconv.Itoa(i), y, want)
		}
		if n := term.Words(x.t); n != x.words {
			t.Errorf("Words of %s: %d; want %d", name, n, x.words)
		}
		if n := term.Words(tuple(x.t, fun(1, cons(x.t, x.t)))); n != 2+2+1+3*x.words {
			t.Errorf("Words of thrice %s: %d", name, n)
		}
	}
}

// P2.1: what may be and what may not, with the words of both.
func TestCheckAndWords(t *testing.T) {
	wantEach(t, wellMade(), api.OK)
	wantEach(t, noTerms(), api.ErrArg)
}

// about tells small terms that have t as a part: first, last, between.
func about(t api.Term) []api.Term {
	return []api.Term{
		tuple(t), tuple(t, num(1)), tuple(num(1), t), tuple(num(1), t, num(2)),
		fun(1, t), fun(1, t, num(1)), fun(1, num(1), t), cons(t, null), cons(null, t),
		list(num(1), t, num(3)), tuple(list(num(1), fun(2, tuple(cons(t, num(1))))), null),
	}
}

// within tells what about does, and terms that have t as a part deep within.
func within(t api.Term) []api.Term {
	deep, far := t, cons(null, t)
	for range 300 {
		deep = tuple(cons(fun(1, deep, num(1)), null), null)
		far = cons(tuple(), far)
	}
	return append(about(t), deep, far)
}

// P2.1: the length is told just beyond its bound, whatever kinds the words are of.
func TestLength(t *testing.T) {
	ones := several(32767, num(1))
	wantCheck(t, "65535 words in a list", list(ones...), api.OK)
	wantCheck(t, "65536 words in a list", cons(num(1), cons(tuple(), list(ones[:32766]...))), api.ErrLong)
	wantCheck(t, "65536 words", cons(tuple(), list(ones[1:]...)), api.OK)
	wantCheck(t, "65537 words", list(several(32768, num(1))...), api.ErrLong)
	wantCheck(t, "65537 words as a fun", fun(1, list(ones...)), api.ErrLong)
	wantCheck(t, "65536 words as a fun", fun(1, list(ones[1:]...), null), api.OK)
	inner := tuple(several(64, tuple(several(13, num(1))...))...)
	if n := term.Words(inner); n != 962 {
		t.Error("Words of 64 tuples of 13:", n)
	}
	full := tuple(several(64, inner)...)
	wantCheck(t, "61570 words", full, api.OK)
	wantCheck(t, "65536 words in two", cons(full, list(several(1982, num(1))...)), api.OK)
	wantCheck(t, "65537 words in two", cons(full, cons(tuple(), list(several(1981, num(1))...))), api.ErrLong)
	if n := term.Words(tuple(full, full)); n != 2+2*61570 {
		t.Error("Words beyond the bound:", n)
	}
	wantCheck(t, "twice 61570 words", tuple(full, full), api.ErrLong)
}

// P2.1: what is no term is told ahead of the length, however far behind it stands.
func TestBadPartBehindTheLength(t *testing.T) {
	l := several(70000, num(1))
	wantCheck(t, "a long list", list(l...), api.ErrLong)
	for _, i := range []int{0, 1, 32766, 32767, 32768, 69998, 69999} {
		l[i] = num(1 << 59)
		wantCheck(t, "a long list with no term at "+strconv.Itoa(i), list(l...), api.ErrArg)
		l[i] = num(1)
	}
	wantCheck(t, "a long list that ends badly", cons(list(l...), of(9)), api.ErrArg)
	wantCheck(t, "a long list that begins badly", cons(of(9), list(l...)), api.ErrArg)
}

// P2.1: as deep as the document's bound lets terms be nested, at either end.
func TestDeepTerms(t *testing.T) {
	first, last, both := null, null, null
	for range 1<<16 - 1 {
		first, last = tuple(first, null), tuple(null, last)
	}
	for range 1<<15 - 1 {
		both = fun(0, both)
	}
	wantCheck(t, "deep in the first", first, api.ErrLong)
	wantCheck(t, "deep in the last", last, api.ErrLong)
	wantCheck(t, "deep", both, api.OK)
	for _, x := range []api.Term{first, last} {
		if n := term.Words(x); n != 65535*3+1 {
			t.Error("Words of a deep term:", n)
		}
		if !term.Same(term.Copy(x), x) {
			t.Error("a deep term's copy is not the same")
		}
	}
	if term.Same(first, last) || !term.Same(first, first) {
		t.Error("deep terms are told apart wrongly")
	}
}

// unlike are terms of which no two are the same, some of which may not be.
func unlike() []api.Term {
	return []api.Term{
		{}, num(0), num(1), num(-1), num(1 << 59), atom(""), atom("a"), atom("b"), atom("ab"), atom("A"),
		{Kind: 2, S: "a", N: 1}, {Kind: 1, S: "a"}, {Kind: 3}, {Kind: 3, N: 1}, {Kind: 4}, {Kind: 4, N: 1}, {Kind: 6}, {Kind: 6, N: 1},
		fun(0), fun(1), fun(0, num(0)), fun(1, num(0)), fun(0, num(1)), fun(0, num(0), num(0)), {Kind: 5, S: "a"},
		tuple(), tuple(num(0)), tuple(num(1)), tuple(num(0), num(1)), tuple(num(1), num(0)), tuple(num(0), num(0), num(0)), {Kind: 7, N: 1}, {Kind: 7, S: "a"},
		tuple(tuple()), tuple(tuple(), tuple()), tuple(tuple(tuple())), tuple(null), null, {Kind: 8, N: 1},
		of(8, null), of(8, num(1)), of(1, null), of(1, num(0)), of(0, num(0)), of(17), of(17, num(0)), of(17, num(1)), of(-1),
		of(9), of(9, num(0)), cons(num(0), num(1)), cons(num(1), num(0)), cons(num(0), null), list(num(0), num(1)), list(num(1), num(0)), list(num(0), num(1), num(2)),
		of(9, num(0), null, num(0)), cons(cons(num(0), null), null), cons(cons(num(0), num(1)), num(2)), cons(num(0), cons(num(1), num(2))),
	}
}

// P2.1: which are the same, of what may not be, too, and of parts at each place.
func TestSame(t *testing.T) {
	all, again := unlike(), unlike()
	for i, a := range all {
		for j, b := range again {
			if s := term.Same(a, b); s != (i == j) {
				t.Errorf("Same(%v, %v): %v", a, b, s)
			}
			for k, x := range about(a) {
				if s := term.Same(x, about(b)[k]); s != (i == j) {
					t.Errorf("Same of %v and %v within others: %v", a, b, s)
				}
			}
		}
	}
	if !term.Same(api.Term{Kind: 7, L: []api.Term{}}, api.Term{Kind: 7}) || !term.Same(api.Term{Kind: 1, L: make([]api.Term, 0, 2)}, num(0)) {
		t.Error("a list of none and no list are not the same")
	}
	if term.Same(api.Term{Kind: 2, S: "a\x00"}, atom("a")) || term.Same(num(1), num(1+1<<32)) {
		t.Error("unlike terms are the same")
	}
}

// lists gathers the lists of a term's parts, whatever their kinds.
func lists(t api.Term, found [][]api.Term) [][]api.Term {
	if cap(t.L) > 0 {
		found = append(found, t.L[:cap(t.L)])
	}
	for _, part := range t.L {
		found = lists(part, found)
	}
	return found
}

// sharing tells whether some place of one's lists is a place of another's.
func sharing(a, b [][]api.Term) bool {
	places := map[*api.Term]int{}
	for _, l := range a {
		for i := range l {
			places[&l[i]] = 1
		}
	}
	for _, l := range b {
		for i := range l {
			if places[&l[i]] == 1 {
				return true
			}
		}
	}
	return false
}

// sharingWithin tells whether two of these lists have a place in common.
func sharingWithin(l [][]api.Term) bool {
	for i := range l {
		if sharing(l[:i], l[i:i+1]) {
			return true
		}
	}
	return false
}

// P2.1, P2.4: a copy is the same, in memory of its own, of what may not be, too.
func TestCopy(t *testing.T) {
	all := unlike()
	for _, x := range wellMade() {
		all = append(all, x.t)
	}
	for _, x := range noTerms() {
		all = append(all, x.t)
	}
	for _, x := range slices.Clone(all) {
		all = append(all, about(x)...)
	}
	roomy := append(make([]api.Term, 0, 9), num(1), tuple(null))
	all = append(all, api.Term{Kind: 7, L: roomy}, api.Term{Kind: 5, L: roomy[:0]}, tuple(tuple(roomy...), api.Term{Kind: 8, L: roomy[:1]}))
	for _, x := range all {
		c := term.Copy(x)
		if !term.Same(c, x) || !term.Same(x, c) {
			t.Errorf("the copy of %v is %v", x, c)
		}
		if sharing(lists(x, nil), lists(c, nil)) {
			t.Errorf("the copy of %v has memory of it", x)
		}
	}
}

// P2.4: parts that are one list in a term are two in its copy.
func TestCopySharesNothingWithin(t *testing.T) {
	l := []api.Term{num(1), tuple(num(2))}
	x := tuple(tuple(l...), tuple(l...), cons(tuple(l...), tuple(l...)))
	c := term.Copy(x)
	if sharingWithin(lists(c, nil)) {
		t.Error("two parts of a copy have memory in common")
	}
	l[0], l[1].L[0] = num(9), num(9)
	want := tuple(num(1), tuple(num(2)))
	if !term.Same(c, tuple(want, want, cons(want, want))) {
		t.Error("the copy follows what it was made of:", c)
	}
}

// P2.1, P2.2: the texts of a copy, and of an atom that is made, are their own memory, too.
func TestTextsAreOwnMemory(t *testing.T) {
	s := strings.Repeat("x", 40)
	c := term.Copy(tuple(atom(s), list(fun(1, atom(s)))))
	for i, x := range []api.Term{c.L[0], c.L[1].L[0].L[0], term.MakeAtom(s)} {
		if x.S != s || unsafe.StringData(x.S) == unsafe.StringData(s) {
			t.Error("the text is not its own memory in", i)
		}
	}
}

// P2.2: what is made is of just that, whether it may be or not.
func TestMake(t *testing.T) {
	for _, n := range []int{0, 1, -1, 576460752303423487, -576460752303423488, 1 << 59, math.MinInt, math.MaxInt} {
		if x := term.MakeInt(n); !term.Same(x, num(n)) {
			t.Errorf("MakeInt(%d): %v", n, x)
		}
	}
	for _, s := range []string{"", "a", "\xff\x00", strings.Repeat("é", 32), strings.Repeat("x", 65), strings.Repeat("x", 5000)} {
		if x := term.MakeAtom(s); !term.Same(x, atom(s)) {
			t.Errorf("MakeAtom(%q): %v", s, x)
		}
	}
	for n := range 200 {
		l := unlike()[:min(n, 60)]
		for len(l) < n {
			l = append(l, num(len(l)))
		}
		if x := term.MakeTuple(l); !term.Same(x, tuple(l...)) {
			t.Errorf("MakeTuple(%v): %v", l, x)
		}
		for _, tail := range []api.Term{null, num(7), {}, of(9, num(1)), list(num(1), num(2)), of(8, num(3))} {
			want := tail
			for i := len(l) - 1; i >= 0; i-- {
				want = cons(l[i], want)
			}
			if x := term.MakeList(l, tail); !term.Same(x, want) {
				t.Errorf("MakeList(%v, %v): %v", l, tail, x)
			}
		}
	}
	if x := term.MakeTuple(nil); !term.Same(x, tuple()) {
		t.Error("MakeTuple of none:", x)
	}
	if x := term.MakeList(nil, num(7)); !term.Same(x, num(7)) {
		t.Error("MakeList of none and 7:", x)
	}
}

// P2.2: the list that was handed in is neither changed nor kept, its spare room neither.
func TestMadeOfListsOfOthers(t *testing.T) {
	room := []api.Term{num(1), atom("a"), tuple(num(2)), num(3), num(4)}
	was := slices.Clone(room)
	for n := range 4 {
		l := room[:n]
		x, y := term.MakeTuple(l), term.MakeList(l, null)
		wantTuple, wantList := tuple(slices.Clone(l)...), list(l...)
		for i := range room {
			if !term.Same(room[i], was[i]) {
				t.Error("what was handed in is changed at", i)
			}
			room[i] = num(99)
		}
		if !term.Same(x, wantTuple) || !term.Same(y, wantList) {
			t.Errorf("what was made of %d follows the list: %v, %v", n, x, y)
		}
		copy(room, was)
		places := [][]api.Term{room}
		for _, made := range []api.Term{x, y} {
			for made.Kind == 9 || made.Kind == 7 {
				if sharing(places, [][]api.Term{made.L[:cap(made.L)]}) {
					t.Errorf("what was made of %d has memory of the list", n)
				}
				if made.Kind == 7 {
					break
				}
				made = made.L[1]
			}
		}
	}
}

func wantItems(t *testing.T, x api.Term, want []api.Term, proper bool) {
	t.Helper()
	l, ok := term.Items(x)
	if ok != proper || !slices.EqualFunc(l, want, term.Same) {
		t.Errorf("Items(%v): %v, %v; want %v, %v", x, l, ok, want, proper)
	}
}

// P2.3: items of proper lists, and nothing of others.
func TestItems(t *testing.T) {
	wantItems(t, list(num(1), num(2)), []api.Term{num(1), num(2)}, true)
	wantItems(t, cons(num(1), num(2)), nil, false)
	wantItems(t, num(5), nil, false)
	wantItems(t, null, nil, true)
	wantItems(t, list(list(num(1)), null, atom("a")), []api.Term{list(num(1)), null, atom("a")}, true)
	wantItems(t, list(null), []api.Term{null}, true)
	wantItems(t, cons(cons(num(1), num(2)), null), []api.Term{cons(num(1), num(2))}, true)
	wantItems(t, cons(num(1), cons(num(2), atom("nil"))), nil, false)
	wantItems(t, cons(num(1), tuple()), nil, false)
	wantItems(t, cons(num(1), tuple(num(1), null)), nil, false)
	for _, x := range unlike() {
		if x.Kind != 8 && x.Kind != 9 {
			wantItems(t, x, nil, false)
			wantItems(t, cons(num(1), x), nil, false)
		}
		// An item may be anything: it is the tails that make a list proper.
		wantItems(t, list(num(1), x, num(2)), []api.Term{num(1), x, num(2)}, true)
	}
}

// P2.3: a Cons without just two terms is no proper list, nor what ends with it.
func TestItemsOfBrokenLists(t *testing.T) {
	for _, broken := range []api.Term{of(9), of(9, null), of(9, num(1), null, null), of(9, num(1), null, num(2), null)} {
		wantItems(t, broken, nil, false)
		wantItems(t, cons(num(1), broken), nil, false)
		wantItems(t, cons(broken, null), []api.Term{broken}, true)
	}
}

// P2.3: a long list; its items are the answer's own memory.
func TestItemsOfLongLists(t *testing.T) {
	want := several(200000, tuple(num(1)))
	wantItems(t, list(want...), want, true)
	x := list(tuple(num(1)), list(num(2)), null)
	l, ok := term.Items(x)
	if !ok || len(l) != 3 {
		t.Fatal("Items of three:", l, ok)
	}
	if sharing(lists(x, nil), lists(api.Term{L: l}, nil)) {
		t.Error("items have memory of their list")
	}
	one := []api.Term{num(1)}
	l, _ = term.Items(list(tuple(one...), tuple(one...)))
	if sharingWithin(lists(api.Term{L: l}, nil)) {
		t.Error("two items have memory in common")
	}
}

// P2.4: a list that was made of terms and Nil has them as items, and one word, and of each one more than that has.
func TestListsThereAndBack(t *testing.T) {
	var l []api.Term
	words := 1
	for _, x := range append(unlike(), list(num(1), num(2)), tuple(list(num(1))), fun(3, tuple())) {
		l = append(l, x)
		words += 1 + term.Words(x)
		made := term.MakeList(l, term.MakeList(nil, null))
		wantItems(t, made, l, true)
		if n := term.Words(made); n != words {
			t.Errorf("Words of a list of %d: %d; want %d", len(l), n, words)
		}
		if n := term.Words(term.Copy(made)); n != words {
			t.Errorf("Words of a copy of a list of %d: %d; want %d", len(l), n, words)
		}
	}
}

// P2.4: words of a term are those of its parts, and its own.
func TestWordsAreThoseOfParts(t *testing.T) {
	own := map[int]int{5: 2, 7: 2, 9: 1}
	var all []api.Term
	for _, x := range wellMade() {
		all = append(append(all, x.t), within(x.t)...)
	}
	for _, x := range all {
		want := max(own[x.Kind], 1)
		for _, part := range x.L {
			want += term.Words(part)
		}
		if n := term.Words(x); n != want {
			t.Errorf("Words(%v): %d; want %d", x, n, want)
		}
	}
}

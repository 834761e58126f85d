package atom_test

import (
	"math"
	"slices"
	"strconv"
	"strings"
	"testing"
	"unsafe"

	"tenure/api"
	"tenure/atom"
)

// The limits, written anew from the chapter.
const (
	mostAtoms = 4096
	mostBytes = 65536
	longest   = 64
)

func wantIntern(t *testing.T, x *atom.Table, s string, want int, errno api.Errno) {
	t.Helper()
	if n, e := x.Intern(s); n != want || e != errno {
		t.Errorf("Intern(%.80q): %d, %v; want %d, %v", s, n, e, want, errno)
	}
}

func wantFind(t *testing.T, x *atom.Table, s string, want int, there bool) {
	t.Helper()
	if n, is := x.Find(s); n != want || is != there {
		t.Errorf("Find(%.80q): %d, %v; want %d, %v", s, n, is, want, there)
	}
}

func wantName(t *testing.T, x *atom.Table, n int, want string, errno api.Errno) {
	t.Helper()
	if s, e := x.Name(n); s != want || e != errno {
		t.Errorf("Name(%d): %q, %v; want %q, %v", n, s, e, want, errno)
	}
}

// noNumbers are numbers that no atom of a table of so many has.
func noNumbers(many int) []int {
	return []int{-1, -2, -many, many, many + 1, mostAtoms, mostAtoms + 1, 1 << 16, 1 << 31, 1 << 32, 1 << 62, -1 << 32, math.MinInt, math.MaxInt}
}

// wantAll asks for just these atoms, one by one, by their texts, and together.
func wantAll(t *testing.T, x *atom.Table, want []string) {
	t.Helper()
	if n := x.Len(); n != len(want) {
		t.Errorf("Len: %d; want %d", n, len(want))
	}
	if l := x.All(); !slices.Equal(l, want) {
		t.Errorf("All: %.300q; want %.300q", l, want)
	}
	for n, s := range want {
		wantName(t, x, n, s, api.OK)
		wantFind(t, x, s, n, true)
	}
	for _, n := range noNumbers(len(want)) {
		wantName(t, x, n, "", api.ErrRange)
	}
}

// tableOf makes a table of atoms, each of which must have the number of its place.
func tableOf(t *testing.T, l []string) *atom.Table {
	t.Helper()
	x := atom.New()
	for n, s := range l {
		wantIntern(t, x, s, n, api.OK)
	}
	return x
}

// some tells so many texts of so many bytes each, no two alike: a number, with zeros ahead.
func some(many, bytes int) []string {
	l := make([]string, many)
	for i := range l {
		s := strconv.Itoa(i)
		l[i] = strings.Repeat("0", bytes-len(s)) + s
	}
	return l
}

// P6.1, P6.2: the chapter's examples.
func TestExamples(t *testing.T) {
	x := atom.New()
	wantIntern(t, x, "a", 0, api.OK)
	wantIntern(t, x, "b", 1, api.OK)
	wantIntern(t, x, "a", 0, api.OK)
	if n := x.Len(); n != 2 {
		t.Errorf("Len: %d; want 2", n)
	}
	wantName(t, x, 1, "b", api.OK)
	wantName(t, x, 2, "", api.ErrRange)
	wantFind(t, x, "b", 1, true)
	wantFind(t, x, "c", 0, false)
	wantIntern(t, x, strings.Repeat("a", 65), 0, api.ErrArg)
	wantIntern(t, x, "", 2, api.OK)
	wantAll(t, x, []string{"a", "b", ""})
}

// P6.1, P6.2: a new table has none, not even the atom without bytes, and to be asked for it puts nothing there.
func TestNewTable(t *testing.T) {
	x := atom.New()
	if x == nil {
		t.Fatal("New: nil")
	}
	for range 2 {
		wantAll(t, x, nil)
		for _, s := range []string{"", "a", "0", "\x00", strings.Repeat("a", 64), strings.Repeat("a", 65)} {
			wantFind(t, x, s, 0, false)
		}
		wantName(t, x, 0, "", api.ErrRange)
	}
}

// P6.1: an atom is its bytes, whatever these are; texts that are nearly alike are two.
func TestTextsAreBytes(t *testing.T) {
	l := []string{"", "\x00", "\x00\x00", "a", "A", "a\x00", "\x00a", "a ", " a", " ", "aa", "é", "e\u0301", "\xe9", "\xff", "\xfe", "\xc3", "\ufffd", "'a'", "a'", `\`, "\n", "end", "[]", "0", "00", "-0", strings.Repeat("a", 63), strings.Repeat("a", 64), strings.Repeat("é", 32), strings.Repeat("\xff", 64)}
	for c := range 256 {
		l = append(l, "x"+string([]byte{byte(c)}))
	}
	x := tableOf(t, l)
	wantAll(t, x, l)
	for n, s := range l {
		wantIntern(t, x, s, n, api.OK)
	}
	wantAll(t, x, l)
}

// P6.1: an atom of 64 bytes is put, one of 65 and more is not, and changes nothing; a Find of it finds none, not even of one that begins as it does.
func TestLengths(t *testing.T) {
	for length := range 300 {
		s := strings.Repeat("s", length)
		x := tableOf(t, []string{"a"})
		if length <= longest {
			wantIntern(t, x, s, 1, api.OK)
			wantAll(t, x, []string{"a", s})
			continue
		}
		wantIntern(t, x, s[:longest], 1, api.OK)
		wantIntern(t, x, s, 0, api.ErrArg)
		wantFind(t, x, s, 0, false)
		wantAll(t, x, []string{"a", s[:longest]})
	}
	for _, length := range []int{1 << 8, 1<<8 + 1, 1 << 16, 1<<16 + 1, 1<<16 + 64, 1 << 20} {
		x := atom.New()
		wantIntern(t, x, strings.Repeat("s", length), 0, api.ErrArg)
		wantAll(t, x, nil)
	}
	// Bytes are counted, not signs: 33 of two bytes each are too many.
	wantIntern(t, atom.New(), strings.Repeat("é", 33), 0, api.ErrArg)
}

// wantFull asks that a full table refuses some texts, keeps those that it has, and is changed by neither.
func wantFull(t *testing.T, x *atom.Table, l, refused []string) {
	t.Helper()
	for _, s := range refused {
		wantIntern(t, x, s, 0, api.ErrFull)
		wantFind(t, x, s, 0, false)
	}
	// That a text is too long is told ahead of that there is no room.
	wantIntern(t, x, strings.Repeat("s", longest+1), 0, api.ErrArg)
	for n, s := range l {
		wantIntern(t, x, s, n, api.OK)
	}
	wantAll(t, x, l)
}

// P6.1, P6.3: of 4,096 atoms each is put, and has its number for ever; one more is not, not even the one without bytes.
func TestFullOfAtoms(t *testing.T) {
	refused := []string{"x", "y", "", strings.Repeat("s", longest)}
	for _, length := range []int{4, 15} {
		l := some(mostAtoms, length)
		wantFull(t, tableOf(t, l), l, refused)
	}
	// Of 16 bytes each they have 65,536 together as well.
	l := some(mostAtoms, 16)
	wantFull(t, tableOf(t, l), l, refused)
	// One of them may be the one without bytes, the first one or the last.
	l = slices.Concat([]string{""}, some(mostAtoms-1, 5))
	wantFull(t, tableOf(t, l), l, refused[:2])
	l = slices.Concat(some(mostAtoms-1, 5), []string{""})
	wantFull(t, tableOf(t, l), l, refused[:2])
}

// P6.1: one atom less leaves room for one, of any length.
func TestRoomForTheLastAtom(t *testing.T) {
	for _, s := range []string{"", "x", strings.Repeat("s", longest)} {
		l := some(mostAtoms-1, 4)
		x := tableOf(t, l)
		wantAll(t, x, l)
		l = append(l, s)
		wantIntern(t, x, s, mostAtoms-1, api.OK)
		wantFull(t, x, l, []string{"y", "xy"})
	}
}

// P6.1: atoms that have 65,536 bytes together are put; one byte more is not, but the atom without bytes is.
func TestFullOfBytes(t *testing.T) {
	l := some(mostBytes/longest, longest)
	x := tableOf(t, l)
	wantFull(t, x, l, []string{"x", "xy", "0", strings.Repeat("s", longest)})
	l = append(l, "")
	wantIntern(t, x, "", len(l)-1, api.OK)
	wantFull(t, x, l, []string{"x", "xy", "0", strings.Repeat("s", longest)})
}

// P6.1: what room is left for bytes is told by the text that is asked for, and a text that was refused takes none of it.
func TestRoomForTheLastBytes(t *testing.T) {
	full := some(mostBytes/longest-1, longest)
	for room := range longest + 1 {
		l := append(slices.Clone(full), strings.Repeat("l", longest-room))
		x := tableOf(t, l)
		for length := room + 1; length <= longest; length++ {
			for range 2 {
				wantIntern(t, x, strings.Repeat("s", length), 0, api.ErrFull)
			}
		}
		// What is there already takes no room, however often it is asked for.
		for n, s := range l {
			wantIntern(t, x, s, n, api.OK)
			wantIntern(t, x, s, n, api.OK)
		}
		fits := strings.Repeat("s", room)
		if room == longest {
			// The one that was put last is the one without bytes.
			wantIntern(t, x, "", len(l)-1, api.OK)
		}
		wantIntern(t, x, fits, len(l), api.OK)
		wantFull(t, x, append(l, fits), []string{"x", strings.Repeat("t", longest)})
	}
}

// P6.1: the room is filled byte by byte as well, by texts of all lengths.
func TestBytesOfUnlikeLengths(t *testing.T) {
	var l []string
	x, bytes := atom.New(), 0
	for i := 0; ; i++ {
		s := strconv.Itoa(i)
		s += strings.Repeat("-", i*7%(longest-len(s)+1))
		if bytes+len(s) > mostBytes {
			wantIntern(t, x, s, 0, api.ErrFull)
			break
		}
		wantIntern(t, x, s, len(l), api.OK)
		l, bytes = append(l, s), bytes+len(s)
	}
	rest := strings.Repeat("r", mostBytes-bytes)
	wantIntern(t, x, rest, len(l), api.OK)
	wantFull(t, x, append(l, rest), []string{"x"})
}

// none are tables that New did not answer: no table at all, one without anything, and a copy of one that has an atom.
func none() map[string]*atom.Table {
	x := atom.New()
	x.Intern("a")
	copied := *x
	return map[string]*atom.Table{"nil": nil, "zero": {}, "new": new(atom.Table), "copy": &copied}
}

// P1, rule 5: a table that New did not answer tells that it is none ahead of all else, and has nothing.
func TestNoTable(t *testing.T) {
	for name, x := range none() {
		t.Run(name, func(t *testing.T) {
			for range 2 {
				for _, s := range []string{"", "a", "b", strings.Repeat("s", longest), strings.Repeat("s", longest+1)} {
					wantIntern(t, x, s, 0, api.ErrNil)
					wantFind(t, x, s, 0, false)
				}
				for _, n := range append(noNumbers(1), 0) {
					wantName(t, x, n, "", api.ErrNil)
				}
				if n, l := x.Len(), x.All(); n != 0 || len(l) != 0 {
					t.Errorf("Len, All: %d, %q", n, l)
				}
			}
		})
	}
}

// Rule 5: what is asked of a copy leaves the table that New answered as it is.
func TestCopyChangesNothing(t *testing.T) {
	x := tableOf(t, []string{"a", "b"})
	copied := *x
	wantIntern(t, &copied, "c", 0, api.ErrNil)
	wantFind(t, x, "c", 0, false)
	wantIntern(t, x, "d", 2, api.OK)
	wantAll(t, x, []string{"a", "b", "d"})
}

// P6.3: tables have their numbers each by itself.
func TestTablesAreApart(t *testing.T) {
	x, y := tableOf(t, []string{"a", "b"}), tableOf(t, []string{"b", "c", "a"})
	if x == y {
		t.Fatal("New: the same table twice")
	}
	wantAll(t, x, []string{"a", "b"})
	wantAll(t, y, []string{"b", "c", "a"})
	wantFind(t, x, "c", 0, false)
	full := tableOf(t, some(mostAtoms, 16))
	wantIntern(t, full, "a", 0, api.ErrFull)
	wantIntern(t, x, "d", 2, api.OK)
	wantAll(t, y, []string{"b", "c", "a"})
}

// model is what a table must tell: its atoms in a plain list, looked through from the front.
type model []string

func (m *model) intern(s string) (int, api.Errno) {
	bytes := len(s)
	for n, at := range *m {
		bytes += len(at)
		if at == s {
			return n, api.OK
		}
	}
	if len(s) > longest {
		return 0, api.ErrArg
	}
	if len(*m) == mostAtoms || bytes > mostBytes {
		return 0, api.ErrFull
	}
	*m = append(*m, s)
	return len(*m) - 1, api.OK
}

func (m *model) find(s string) (int, bool) {
	n := slices.Index(*m, s)
	return max(n, 0), n >= 0
}

// draws tells numbers that look drawn, the same ones each time.
func draws(seed uint64) func(below int) int {
	return func(below int) int {
		seed = seed*6364136223846793005 + 1442695040888963407
		return int(seed>>33) % below
	}
}

// drawText tells a text of some of the bytes, up to so many: few bytes make texts that are met again.
func drawText(draw func(int) int, bytes, most int) string {
	b := make([]byte, draw(most+1))
	for i := range b {
		b[i] = byte(draw(bytes))
	}
	return string(b)
}

// P6.1 to P6.3: whatever is asked in whatever order, the table tells what a plain list tells.
func TestAgainstList(t *testing.T) {
	for seed, form := range []struct{ bytes, most, calls int }{{2, 3, 500}, {3, 5, 2000}, {256, 70, 400}, {256, 70, 4000}, {2, 12, 9000}, {1, 70, 500}, {10, 64, 3000}} {
		x, m, draw := atom.New(), model{}, draws(uint64(seed))
		for range form.calls {
			s := drawText(draw, form.bytes, form.most)
			place, there := m.find(s)
			wantFind(t, x, s, place, there)
			n, errno := m.intern(s)
			wantIntern(t, x, s, n, errno)
			if n = draw(len(m) + 2); n < len(m) {
				wantName(t, x, n, m[n], api.OK)
			} else {
				wantName(t, x, n, "", api.ErrRange)
			}
			if x.Len() != len(m) {
				t.Fatalf("Len: %d; want %d", x.Len(), len(m))
			}
		}
		wantAll(t, x, m)
	}
}

// P6.3: each number that was told is told again, of just that text, while others come, up to the last one, and behind it.
func TestNumbersAreForEver(t *testing.T) {
	l := some(mostAtoms, 8)
	x := atom.New()
	for n, s := range l {
		wantIntern(t, x, s, n, api.OK)
		for _, ahead := range []int{0, n / 2, n} {
			wantIntern(t, x, l[ahead], ahead, api.OK)
			wantFind(t, x, l[ahead], ahead, true)
			wantName(t, x, ahead, l[ahead], api.OK)
		}
		wantName(t, x, n+1, "", api.ErrRange)
		if n+1 < len(l) {
			wantFind(t, x, l[n+1], 0, false)
		}
	}
	wantFull(t, x, l, []string{"x"})
}

// Rule 4: what was handed in is not kept: it may come out of bytes that are changed behind the call.
func TestTextsAreNotKept(t *testing.T) {
	b := []byte("abc")
	s := unsafe.String(&b[0], len(b))
	x := tableOf(t, []string{"z", s})
	copy(b, "xyz")
	wantAll(t, x, []string{"z", "abc"})
	wantFind(t, x, "xyz", 0, false)
	wantIntern(t, x, "xyz", 2, api.OK)
	wantIntern(t, x, "abc", 1, api.OK)
}

// Rule 4: an answer is new memory: what is done to one reaches neither the table nor another answer.
func TestAnswersAreTheirOwn(t *testing.T) {
	l := []string{"abc", "", "def"}
	x := tableOf(t, l)
	first, second := x.All(), x.All()
	room := first[:cap(first)]
	for i := range room {
		room[i] = "changed"
	}
	if !slices.Equal(second, l) {
		t.Errorf("All: %q, behind a change of another answer", second)
	}
	wantIntern(t, x, "ghi", 3, api.OK)
	wantAll(t, x, []string{"abc", "", "def", "ghi"})
	found := map[*byte]bool{unsafe.StringData(l[0]): true}
	for range 2 {
		s, _ := x.Name(0)
		for _, s := range []string{s, x.All()[0]} {
			if found[unsafe.StringData(s)] {
				t.Error("two answers, or an answer and what was handed in, share a text's memory")
			}
			found[unsafe.StringData(s)] = true
		}
	}
}

package text_test

import (
	"fmt"
	"math"
	"regexp"
	"runtime"
	"slices"
	"strconv"
	"strings"
	"testing"
	"unsafe"

	"tenure/api"
	"tenure/term"
	"tenure/text"
)

// Terms are written here field by field, so that no other layer is held against itself.
func num(n int) api.Term                  { return api.Term{Kind: 1, N: n} }
func atom(s string) api.Term              { return api.Term{Kind: 2, S: s} }
func ref(n int) api.Term                  { return api.Term{Kind: 3, N: n} }
func tid(n int) api.Term                  { return api.Term{Kind: 4, N: n} }
func fun(n int, l ...api.Term) api.Term   { return api.Term{Kind: 5, N: n, L: l} }
func pid(n int) api.Term                  { return api.Term{Kind: 6, N: n} }
func tuple(l ...api.Term) api.Term        { return api.Term{Kind: 7, L: l} }
func cons(head, tail api.Term) api.Term   { return api.Term{Kind: 9, L: []api.Term{head, tail}} }
func of(kind int, l ...api.Term) api.Term { return api.Term{Kind: kind, L: l} }

var null = api.Term{Kind: 8}

func list(l ...api.Term) api.Term {
	t := null
	for _, head := range slices.Backward(l) {
		t = cons(head, t)
	}
	return t
}

func several(n int, t api.Term) []api.Term { return slices.Repeat([]api.Term{t}, n) }

// reserved are the words that no plain atom is.
func reserved() []string {
	return strings.Fields("after and andalso begin case catch div end fun not of or orelse receive rem try when")
}

// many tells n times a text, with commas between.
func many(n int, s string) string { return strings.Repeat(s+",", n-1) + s }

// written is a term, and its text.
type written struct {
	t    api.Term
	text string
}

// leaves are terms without parts, with their texts, taken from the chapter's words one by one.
func leaves() []written {
	x := strings.Repeat
	l := []written{
		{num(0), "0"}, {num(1), "1"}, {num(-1), "-1"}, {num(9), "9"}, {num(10), "10"}, {num(-10), "-10"}, {num(100), "100"}, {num(1234567890), "1234567890"},
		{num(576460752303423487), "576460752303423487"}, {num(-576460752303423488), "-576460752303423488"},
		{ref(0), "#Ref<0>"}, {ref(5), "#Ref<5>"}, {ref(1 << 30), "#Ref<1073741824>"}, {tid(0), "#Tid<0>"}, {tid(50), "#Tid<50>"}, {tid(1 << 30), "#Tid<1073741824>"},
		{pid(0), "<0.0.0>"}, {pid(7), "<0.7.0>"}, {pid(1 << 30), "<0.1073741824.0>"}, {fun(0), "#Fun<0>"}, {fun(1 << 30), "#Fun<1073741824>"}, {tuple(), "{}"}, {null, "[]"},
		{atom("a"), "a"}, {atom("z"), "z"}, {atom("aZ"), "aZ"}, {atom("a_b@c"), "a_b@c"}, {atom("a0"), "a0"}, {atom("x" + x("Y", 63)), "x" + x("Y", 63)},
		{atom("if"), "if"}, {atom("true"), "true"}, {atom("ends"), "ends"}, {atom("en"), "en"}, {atom("eND"), "eND"}, {atom("x00"), "x00"},
		{atom(""), "''"}, {atom("A"), "'A'"}, {atom("Ab"), "'Ab'"}, {atom("_"), "'_'"}, {atom("_a"), "'_a'"}, {atom("@"), "'@'"}, {atom("0"), "'0'"}, {atom("0a"), "'0a'"}, {atom("-1"), "'-1'"},
		{atom(" "), "' '"}, {atom("odd atom"), "'odd atom'"}, {atom("a "), "'a '"}, {atom("a-b"), "'a-b'"}, {atom("a.b"), "'a.b'"}, {atom("[]"), "'[]'"}, {atom("#Ref<5>"), "'#Ref<5>'"}, {atom("{a,1}"), "'{a,1}'"},
		{atom("it's"), `'it\'s'`}, {atom("'"), `'\''`}, {atom("''"), `'\'\''`}, {atom(`\`), `'\\'`}, {atom(`a\`), `'a\\'`}, {atom(`\'`), `'\\\''`}, {atom(`\x0a`), `'\\x0a'`}, {atom(`"`), `'"'`},
		{atom("\n"), `'\x0a'`}, {atom("\x00"), `'\x00'`}, {atom("\x1f"), `'\x1f'`}, {atom("~"), "'~'"}, {atom("\x7f"), `'\x7f'`}, {atom("\x80"), `'\x80'`}, {atom("\xff"), `'\xff'`}, {atom("é"), `'\xc3\xa9'`}, {atom("a\tb"), `'a\x09b'`},
		{atom("X" + x("y", 63)), "'X" + x("y", 63) + "'"}, {atom(x("'", 64)), "'" + x(`\'`, 64) + "'"}, {atom(x("\xab", 64)), "'" + x(`\xab`, 64) + "'"},
	}
	for _, s := range reserved() {
		l = append(l, written{atom(s), "'" + s + "'"}, written{atom(s + "_"), s + "_"}, written{atom(s[:1]), s[:1]})
	}
	return l
}

// grown are terms with parts, with their texts.
func grown() []written {
	a, b, one, two := atom("a"), atom("b"), num(1), num(2)
	return []written{
		{tuple(a), "{a}"}, {tuple(a, one), "{a,1}"}, {tuple(tuple()), "{{}}"}, {tuple(null, null), "{[],[]}"}, {tuple(a, one, cons(b, atom("c"))), "{a,1,[b|c]}"}, {tuple(num(-1), atom(",")), "{-1,','}"},
		{tuple(several(64, one)...), "{" + many(64, "1") + "}"}, {tuple(several(64, tuple(a))...), "{" + many(64, "{a}") + "}"},
		{fun(2, one), "#Fun<2,1>"}, {fun(2, fun(3)), "#Fun<2,#Fun<3>>"}, {fun(0, tuple(), null, a), "#Fun<0,{},[],a>"}, {fun(1, several(64, pid(3))...), "#Fun<1," + many(64, "<0.3.0>") + ">"}, {fun(1, several(64, atom(">"))...), "#Fun<1," + many(64, "'>'") + ">"},
		{list(one), "[1]"}, {list(one, two), "[1,2]"}, {list(null), "[[]]"}, {list(null, null), "[[],[]]"}, {list(list(one), two), "[[1],2]"}, {list(one, list(two)), "[1,[2]]"}, {list(several(200, a)...), "[" + many(200, "a") + "]"},
		{cons(one, two), "[1|2]"}, {cons(one, cons(two, a)), "[1,2|a]"}, {cons(null, one), "[[]|1]"}, {cons(cons(one, two), a), "[[1|2]|a]"}, {cons(one, tuple()), "[1|{}]"}, {cons(one, tuple(null)), "[1|{[]}]"}, {cons(a, ref(1)), "[a|#Ref<1>]"},
		{cons(a, atom("")), "[a|'']"}, {cons(a, atom("[")), "[a|'[']"}, {cons(a, pid(1)), "[a|<0.1.0>]"}, {cons(a, fun(1, list(a))), "[a|#Fun<1,[a]>]"}, {cons(a, num(-1)), "[a|-1]"}, {cons(a, tid(9)), "[a|#Tid<9>]"}, {list(cons(a, b), cons(a, b)), "[[a|b],[a|b]]"},
		{tuple(list(fun(3, cons(one, two)), null), atom("x y")), "{[#Fun<3,[1|2]>,[]],'x y'}"},
	}
}

// all are the terms above, each by itself and as a part wherever.
func all() []written {
	l := slices.Concat(leaves(), grown())
	for _, x := range slices.Clone(l) {
		l = append(l, within(x)...)
	}
	return l
}

// within tells terms that have a term as a part, each with its text; as a tail just what is no list is behind a bar.
func within(x written) []written {
	l := []written{
		{tuple(x.t), "{" + x.text + "}"}, {tuple(x.t, num(1)), "{" + x.text + ",1}"}, {tuple(num(1), x.t), "{1," + x.text + "}"}, {tuple(null, x.t, null), "{[]," + x.text + ",[]}"},
		{fun(1, x.t), "#Fun<1," + x.text + ">"}, {fun(1, num(2), x.t, num(3)), "#Fun<1,2," + x.text + ",3>"},
		{list(x.t), "[" + x.text + "]"}, {list(x.t, num(1)), "[" + x.text + ",1]"}, {list(num(1), x.t), "[1," + x.text + "]"}, {cons(x.t, num(1)), "[" + x.text + "|1]"}, {list(list(x.t)), "[[" + x.text + "]]"},
	}
	if x.t.Kind < 8 {
		l = append(l, written{cons(num(1), x.t), "[1|" + x.text + "]"}, written{cons(num(1), cons(null, x.t)), "[1,[]|" + x.text + "]"})
	}
	return l
}

func wantWrite(t *testing.T, x api.Term, want string, errno api.Errno) {
	t.Helper()
	if s, e := text.Write(x); s != want || e != errno {
		t.Errorf("Write(%s): %.200q, %v; want %.200q, %v", short(x), s, e, want, errno)
	}
}

func wantRead(t *testing.T, s string, want api.Term) {
	t.Helper()
	if x, e := text.Read(s); e != api.OK || !term.Same(x, want) {
		t.Errorf("Read(%.200q): %s, %v; want %s", s, short(x), e, short(want))
	}
}

// short tells the beginning of a term, as another library writes it.
func short(x api.Term) string {
	s := fmt.Sprint(x)
	return s[:min(len(s), 200)]
}

// wantRefused asks for the error, and for nothing beside it.
func wantRefused(t *testing.T, s string, errno api.Errno) {
	t.Helper()
	if x, e := text.Read(s); e != errno || x.Kind != 0 || x.N != 0 || x.S != "" || x.L != nil {
		t.Errorf("Read(%.200q): %s, %v; want %v", s, short(x), e, errno)
	}
}

// P5.1, P5.2: the chapter's examples.
func TestExamples(t *testing.T) {
	wantWrite(t, tuple(atom("a"), num(1), cons(atom("b"), atom("c"))), "{a,1,[b|c]}", api.OK)
	wantWrite(t, list(num(1), num(2)), "[1,2]", api.OK)
	wantWrite(t, atom("odd atom"), "'odd atom'", api.OK)
	wantWrite(t, atom("it's"), `'it\'s'`, api.OK)
	wantWrite(t, atom("\n"), `'\x0a'`, api.OK)
	wantWrite(t, atom("end"), "'end'", api.OK)
	wantWrite(t, pid(7), "<0.7.0>", api.OK)
	wantWrite(t, fun(2, num(1)), "#Fun<2,1>", api.OK)
	wantWrite(t, ref(5), "#Ref<5>", api.OK)
	wantRead(t, "{a,1}", tuple(atom("a"), num(1)))
	wantRefused(t, "{a, 1}", api.ErrBytes)
	wantRefused(t, "'a'", api.ErrBytes)
	wantRefused(t, "01", api.ErrBytes)
	wantRefused(t, "[1|[2]]", api.ErrBytes)
	wantRead(t, "[]", null)
	wantRead(t, "''", atom(""))
}

func wantPlain(t *testing.T, s string, want bool) {
	t.Helper()
	if p := text.Plain(s); p != want {
		t.Errorf("Plain(%q): %v", s, p)
	}
}

// P5.1: which atoms are plain: each byte at each place, each length, each word of the language.
func TestPlain(t *testing.T) {
	const small, great = "abcdefghijklmnopqrstuvwxyz", "ABCDEFGHIJKLMNOPQRSTUVWXYZ"
	for b := range 256 {
		s := string([]byte{byte(b)})
		behind := strings.Contains(small+great+"0123456789_@", s)
		wantPlain(t, s, strings.Contains(small, s))
		wantPlain(t, s+"q", strings.Contains(small, s))
		for _, ahead := range []string{"q", "qQ", "q" + strings.Repeat("_", 62)} {
			wantPlain(t, ahead+s, behind)
		}
		wantPlain(t, "q"+s+"q", behind)
		wantPlain(t, "q"+s+" ", false)
	}
	for n := range 300 {
		wantPlain(t, strings.Repeat("a", n), n >= 1 && n <= 64)
	}
	for _, s := range reserved() {
		wantPlain(t, s, false)
		wantPlain(t, s+"x", true)
		wantPlain(t, "x"+s, true)
		wantPlain(t, strings.ToUpper(s), false)
		wantPlain(t, s[:1]+strings.ToUpper(s[1:]), true)
		wantPlain(t, s+" ", false)
		wantPlain(t, s[:len(s)-1], !slices.Contains(reserved(), s[:len(s)-1]))
	}
	for _, s := range strings.Fields("if let cond maybe else true false bnot band bor bxor bsl bsr xor undefined endend ends") {
		wantPlain(t, s, true)
	}
}

// P5.1, P5.2: the text of each kind, of whatever parts, and the term of that text.
func TestWriteAndRead(t *testing.T) {
	for _, x := range all() {
		wantWrite(t, x.t, x.text, api.OK)
		wantRead(t, x.text, x.t)
	}
}

// quoted tells an atom's text in quotes, by another library's means.
func quoted(s string) string {
	out := "'"
	for _, b := range []byte(s) {
		switch {
		case strings.ContainsRune(`'\`, rune(b)):
			out += `\` + string(rune(b))
		case b >= 0x20 && b < 0x7f:
			out += string(rune(b))
		default:
			out += fmt.Sprintf(`\x%02x`, b)
		}
	}
	return out + "'"
}

// P5.1, P5.2: each byte in an atom that needs quotes; a byte in quotes is read in one way alone.
func TestQuotedBytes(t *testing.T) {
	for b := range 256 {
		raw, low, up := string([]byte{byte(b)}), fmt.Sprintf(`\x%02x`, b), fmt.Sprintf(`\x%02X`, b)
		for _, s := range []string{"A" + raw, "A" + raw + "'", "\\" + raw + "\x00", " " + raw + raw} {
			wantWrite(t, atom(s), quoted(s), api.OK)
			wantRead(t, quoted(s), atom(s))
		}
		for _, ahead := range []string{"A", `\'`, `\xff`} {
			shown := b >= 32 && b <= 126
			if shown {
				wantRefused(t, "'"+ahead+low+"'", api.ErrBytes)
			} else {
				wantRefused(t, "'"+ahead+raw+"'", api.ErrBytes)
			}
			if up != low || shown {
				wantRefused(t, "'"+ahead+up+"'", api.ErrBytes)
			}
			if b != '\'' && b != '\\' {
				wantRefused(t, "'"+ahead+`\`+raw+"'", api.ErrBytes)
				wantRefused(t, "'"+ahead+`\`+raw, api.ErrBytes)
			}
		}
	}
}

// P5.2: of all two bytes behind a \x just those are read that are digits of a byte that needs them.
func TestEscapes(t *testing.T) {
	const digits = "0123456789abcdef"
	for p := range 256 {
		for q := range 256 {
			s := `'A\x` + string([]byte{byte(p), byte(q)}) + "'"
			high, low := strings.IndexByte(digits, byte(p)), strings.IndexByte(digits, byte(q))
			if b := 16*high + low; high >= 0 && low >= 0 && (b < 32 || b > 126) {
				wantRead(t, s, atom("A"+string([]byte{byte(b)})))
			} else {
				wantRefused(t, s, api.ErrBytes)
			}
		}
	}
}

// P5.2: an atom that needs no quotes has none, one that needs them does, and none is too long.
func TestQuotesWhereNeeded(t *testing.T) {
	for _, s := range []string{"a", "ab", "aB_@0", "if", "true", "ends", "a" + strings.Repeat("b", 63)} {
		wantRefused(t, "'"+s+"'", api.ErrBytes)
		wantRefused(t, "{'"+s+"',1}", api.ErrBytes)
		wantRead(t, s, atom(s))
	}
	for _, s := range append(reserved(), "A", "_", "_a", "@", "Ab", "", "a-b", "a b", "a.", "é", "a'") {
		wantRefused(t, s, api.ErrBytes)
		wantRefused(t, "["+s+"|1]", api.ErrBytes)
		wantRead(t, quoted(s), atom(s))
	}
	for n := 60; n < 300; n++ {
		for _, b := range []string{"a", "A", "'", `\`, "\x00", "\xff", "_"} {
			s := strings.Repeat(b, n)
			switch {
			case n > 64:
				wantRefused(t, s, api.ErrBytes)
				wantRefused(t, quoted(s), api.ErrBytes)
				wantWrite(t, atom(s), "", api.ErrArg)
			case b == "a":
				wantRead(t, s, atom(s))
			default:
				wantRead(t, quoted(s), atom(s))
				wantWrite(t, atom(s), quoted(s), api.OK)
			}
		}
	}
}

// P5.2: numbers at and beyond the bounds of each kind, and in none but their own digits.
func TestNumbers(t *testing.T) {
	marks := []struct {
		ahead, behind string
		kind          int
		least, most   int
	}{
		{"", "", 1, -576460752303423488, 576460752303423487}, {"#Ref<", ">", 3, 0, 1073741824}, {"#Tid<", ">", 4, 0, 1073741824}, {"#Fun<", ">", 5, 0, 1073741824}, {"<0.", ".0>", 6, 0, 1073741824},
	}
	edges := []int{0, 1, -1, 2, 10, -10, 99, 1<<30 - 1, 1 << 30, 1<<30 + 1, 1 << 31, 1 << 32, -1 << 30, 1<<32 + 5, 1<<59 - 1, 1 << 59, 1<<59 + 1, -1 << 59, -1<<59 + 1, -1<<59 - 1, math.MaxInt, math.MinInt}
	for _, m := range marks {
		for _, n := range edges {
			s := m.ahead + strconv.Itoa(n) + m.behind
			if n < m.least || n > m.most {
				wantRefused(t, s, api.ErrBytes)
				wantRefused(t, "{1,"+s+"}", api.ErrBytes)
				wantWrite(t, api.Term{Kind: m.kind, N: n}, "", api.ErrArg)
				continue
			}
			wantRead(t, s, api.Term{Kind: m.kind, N: n})
			wantWrite(t, api.Term{Kind: m.kind, N: n}, s, api.OK)
		}
		for _, s := range strings.Fields("- -0 -00 00 000 01 -01 007 +0 +1 --1 -+1 0x1 0b1 0o1 1_0 1e1 1.0 1. 0. .1 9223372036854775808 -9223372036854775809 18446744073709551616 18446744073709551617 340282366920938463463374607431768211457 ٣ １ 1a a1 1- 0-0") {
			if s == "a1" && m.kind == 1 {
				continue
			}
			wantRefused(t, m.ahead+s+m.behind, api.ErrBytes)
			wantRefused(t, "["+m.ahead+s+m.behind+"]", api.ErrBytes)
		}
		wantRefused(t, m.ahead+m.behind, api.ErrBytes)
		wantRefused(t, m.ahead+strings.Repeat("0", 5000)+"1"+m.behind, api.ErrBytes)
		wantRefused(t, m.ahead+strings.Repeat("1", 5000)+m.behind, api.ErrBytes)
		wantRefused(t, m.ahead+"-"+strings.Repeat("1", 5000)+m.behind, api.ErrBytes)
	}
}

// P5.2: texts that are no term's own, each by one thing.
func TestNoTexts(t *testing.T) {
	for _, s := range strings.Split("| |\t|\n|\x00|,|.|:|;|!|>|<|#|'|''a|a''|'a|a'|'''|''''|'\\|'\\'|'\\x|'\\x0|'\\x0'|'\\x0g'|'\\X00'|'\\n'|'\\ '|\"a\"|$a|a |\na|1 |0 1|a b|a,b|1,|,1|"+
		"A|_|@a|é|a\x00|a\n|%|a%|a.|1.|end|fun|case|-a|--1|+1|1.5|16#ff|"+
		"{|}|{{}|{}}|{,}|{a,}|{,a}|{a,,b}|{a;b}|{a b}|{a|b}|{a}{b}|{}a|{]|{a]|{(a)}|{ }|{a ,b}|{a,b }|#{a}|"+
		"[|]|[[]|[]]|[,]|[a,]|[,a]|[a,,b]|[ ]|[a, b]|[a }|[a)|[a]b|[][]|[a", "|") {
		wantRefused(t, s, api.ErrBytes)
	}
	for _, s := range []string{
		"[|]", "[|a]", "[a|]", "[a||b]", "[a|b|c]", "[a|b,c]", "[a,|b]", "[a|,b]", "[a |b]", "[a| b]", "[a|b", "[a|b}", "[a|b]]", "[a|[]]", "[a|[b]]", "[a|[b|c]]", "[a,b|[]]", "[a|[[]]]", "{a|[]}", "[a|",
		"#Ref", "#Ref<", "#Ref<>", "#Ref<1", "#Ref<1>>", "#Ref<a>", "#Ref< 1>", "#Ref<1 >", "#Ref<1,2>", "#ref<1>", "#REF<1>", "Ref<1>", "#Ref1", "# Ref<1>", "#Ref <1>", "#Ref{1}", "#Ref<1.>", "#Ref<0.1.0>",
		"#Tid<", "#Tid<>", "#Tid<1", "#Tid<1,2>", "#tid<1>", "#Tid<a>", "#Pid<1>", "#Port<1>", "#Atom<1>", "#Int<1>",
		"<0.1.0", "<0.1.1>", "<1.1.0>", "<0.1>", "<0..0>", "<0.a.0>", "<.1.0>", "<0.1.>", "<0.1.0.0>", "<0.1.00>", "<00.1.0>", "<0,1,0>", "<0.1.0>>", "<0.1.0 >", "< 0.1.0>", "<0.1,0>", "<1>", "<>",
		"#Fun", "#Fun<", "#Fun<>", "#Fun<,>", "#Fun<1", "#Fun<1,", "#Fun<1,>", "#Fun<,1>", "#Fun<a>", "#Fun<a,1>", "#Fun<1 ,2>", "#Fun<1, 2>", "#Fun<1,,2>", "#Fun<1|2>", "#Fun<1,2|3>", "#Fun<1,2,>", "#Fun<1,2>>", "#Fun<1,2", "#fun<1>", "#Fun<1>1", "#Fun<1,A>", "#Fun<1]",
		"aé", "{a,1}\n", " {a,1}", "{a,1} ", "{a,1}.", "a'b'", "'a'b", "'A'b", "'A''B'", "'A'1", "1'A'", "'A' ", "{'A}", "a{}", "a[]", "a()", "f(1)", "<<>>", "<<1>>", "#{}", "#{a=>1}", "\"\"", "true.", "A=1",
	} {
		wantRefused(t, s, api.ErrBytes)
		for _, x := range within(written{num(0), s}) {
			wantRefused(t, x.text, api.ErrBytes)
		}
	}
	wantRefused(t, "", api.ErrBytes)
}

// P5.2: a tuple and a fun have 64 terms at most; a list as many as it will.
func TestNumbersOfElements(t *testing.T) {
	for n := 60; n < 200; n++ {
		items, l := many(n, "a"), several(n, atom("a"))
		wantRead(t, "["+items+"]", list(l...))
		for _, x := range []written{{tuple(l...), "{" + items + "}"}, {fun(1, l...), "#Fun<1," + items + ">"}} {
			if n <= 64 {
				wantRead(t, x.text, x.t)
				wantWrite(t, x.t, x.text, api.OK)
				continue
			}
			wantRefused(t, x.text, api.ErrBytes)
			wantRefused(t, "[1,"+x.text+"|2]", api.ErrBytes)
			wantWrite(t, x.t, "", api.ErrArg)
		}
	}
}

// P5.1: of what may not be nothing is written, wherever it stands.
func TestWriteRefuses(t *testing.T) {
	for _, x := range []api.Term{
		{}, of(10), of(11), of(-1), of(1<<32 + 7), {Kind: 1, N: 1 << 59}, {Kind: 1, S: "a"}, {Kind: 1, L: []api.Term{null}}, {Kind: 2, N: 1, S: "a"}, {Kind: 2, S: "a", L: []api.Term{null}}, atom(strings.Repeat("a", 65)),
		ref(-1), ref(1<<30 + 1), tid(-1), tid(1<<30 + 1), pid(-1), pid(1<<30 + 1), fun(-1), fun(1<<30 + 1), {Kind: 3, S: "a"}, {Kind: 4, L: []api.Term{null}}, {Kind: 5, S: "a"}, {Kind: 7, N: 1}, {Kind: 7, S: "a"}, {Kind: 8, N: 1}, {Kind: 8, S: "a"}, of(8, null),
		of(9), of(9, null), of(9, null, null, null), {Kind: 9, N: 1, L: []api.Term{null, null}}, {Kind: 9, S: "a", L: []api.Term{null, null}},
	} {
		wantWrite(t, x, "", api.ErrArg)
		for _, y := range append(within(written{x, ""}), written{cons(num(1), x), ""}) {
			wantWrite(t, y.t, "", api.ErrArg)
		}
	}
}

// sized tells a term of so many words, 2 or more, and its text.
func sized(words int) written {
	if words%2 == 0 {
		return written{cons(list(several((words-2)/2, num(1))...), num(2)), "[[" + strings.TrimSuffix(strings.Repeat("1,", (words-2)/2), ",") + "]|2]"}
	}
	return written{list(several((words-1)/2, num(1))...), "[" + strings.TrimSuffix(strings.Repeat("1,", (words-1)/2), ",") + "]"}
}

// P5.1, P5.2: terms of just 65,536 words, and of a few more, of each kind.
func TestTooLong(t *testing.T) {
	longs := []written{}
	for words := 65525; words <= 65540; words++ {
		longs = append(longs, sized(words))
	}
	for words := 65530; words <= 65536; words++ {
		longs = append(longs, within(sized(words))...)
	}
	for words := 131068; words <= 131078; words++ {
		longs = append(longs, sized(words))
	}
	longs = append(longs, sized(400001))
	for _, x := range longs {
		if term.Words(x.t) > 65536 {
			wantWrite(t, x.t, "", api.ErrLong)
			wantRefused(t, x.text, api.ErrLong)
			continue
		}
		wantWrite(t, x.t, x.text, api.OK)
		wantRead(t, x.text, x.t)
	}
}

// P5.2: a text that is too long is refused for its form ahead of its length, wherever the fault is.
func TestFaultsAheadOfLength(t *testing.T) {
	// Of the one there are as many terms as words may be, so that with more of them the parts are counted, of the other all words.
	long, less := sized(131071).text, sized(65537).text
	for _, s := range []string{"'a'", "01", "-0", "[1|[2]]", "[1|[]]", "A", "end", " 1", "1 ", "'", "'\x00'", "{" + many(65, "1") + "}", "#Fun<1," + many(65, "1") + ">", strings.Repeat("a", 65), "'" + strings.Repeat("A", 65) + "'", "576460752303423488", "#Ref<1073741825>", "#Fun<1073741825>", "#Fun<1073741825,1>", "<0.1073741825.0>", "", "{", "]"} {
		for _, whole := range []string{less + "{" + s + "}", s + "[" + less, "{" + s + "," + less + "}", "[" + long + "|" + s + "]", less[:len(less)-1] + "," + s + "]"} {
			wantRefused(t, whole, api.ErrBytes)
		}
	}
	for _, s := range []string{long, less} {
		wantRefused(t, s[:len(s)-1], api.ErrBytes)
		wantRefused(t, s[:len(s)-2], api.ErrBytes)
		wantRefused(t, s[1:], api.ErrBytes)
	}
	for _, s := range []string{"[1|" + long + "]", "[[1|" + long + "]]", "[" + long + "|[1]]", "[" + long + "|[]]", "[" + long + ",1|[" + long + "]]", "{" + many(65, long) + "}", "#Fun<1," + many(65, long) + ">"} {
		wantRefused(t, s, api.ErrBytes)
	}
	for _, s := range []string{"[" + long + "|{" + long + "}]", "{" + many(64, long) + "}", "#Fun<1," + many(64, long) + ">", "[" + many(65, long) + "|a]", "[" + long + "|#Fun<2,[1]>]"} {
		wantRefused(t, s, api.ErrLong)
	}
}

// P1, P5.2: as deep as the document's bound lets terms be nested, and far beyond: nothing but the answer comes.
func TestDeep(t *testing.T) {
	for _, x := range []struct {
		open, inner, shut string
		more              func(api.Term) api.Term
		words             int
	}{
		{"[", "[]", "]", func(t api.Term) api.Term { return list(t) }, 2}, {"{", "1", "}", func(t api.Term) api.Term { return tuple(t) }, 2}, {"#Fun<1,", "a", ">", func(t api.Term) api.Term { return fun(1, t) }, 2},
		{"[1,", "[]", "]", func(t api.Term) api.Term { return list(num(1), t) }, 4}, {"[1|{", "[]", "}]", func(t api.Term) api.Term { return cons(num(1), tuple(t)) }, 4},
	} {
		most := 65535 / x.words
		deep, _ := text.Read(x.inner)
		for range most {
			deep = x.more(deep)
		}
		wantRead(t, strings.Repeat(x.open, most)+x.inner+strings.Repeat(x.shut, most), deep)
		wantWrite(t, deep, strings.Repeat(x.open, most)+x.inner+strings.Repeat(x.shut, most), api.OK)
		wantWrite(t, x.more(deep), "", api.ErrLong)
		for _, n := range []int{most + 1, 1 << 16} {
			wantRefused(t, strings.Repeat(x.open, n)+x.inner+strings.Repeat(x.shut, n), api.ErrLong)
			wantRefused(t, strings.Repeat(x.open, n)+x.inner+strings.Repeat(x.shut, n-1), api.ErrBytes)
			wantRefused(t, strings.Repeat(x.open, n)+x.inner+strings.Repeat(x.shut, n+1), api.ErrBytes)
			wantRefused(t, strings.Repeat(x.open, n), api.ErrBytes)
		}
	}
	for _, open := range []string{"[", "#Fun<1,", "[1|{"} {
		if x, e := text.Read(strings.Repeat(open, 3<<20)); e == api.OK || x.Kind != 0 {
			t.Errorf("Read of many %q: %v", open, e)
		}
	}
}

// P1, P5.2: how many brackets there are is no matter, if few are in one another.
func TestManyBracketsSideBySide(t *testing.T) {
	const n = 300000
	for _, s := range []string{"[]", "{}", "[1]", "{1}", "#Fun<1,1>", "[[1],[2]]"} {
		wantRefused(t, "["+many(n, s)+"]", api.ErrLong)
		wantRefused(t, "["+many(n, s), api.ErrBytes)
		wantRefused(t, "["+many(n, s)+"]"+s, api.ErrBytes)
	}
}

// P1, P5.2: of a text that is far too long nothing is kept but what shows that it is.
func TestLongTextsAreNotKept(t *testing.T) {
	s := "[" + many(2000000, "1") + "]"
	var ahead, behind runtime.MemStats
	runtime.ReadMemStats(&ahead)
	wantRefused(t, s, api.ErrLong)
	runtime.ReadMemStats(&behind)
	if n := behind.TotalAlloc - ahead.TotalAlloc; n > 100<<20 {
		t.Errorf("Read of a list of 2000000 numbers takes %d bytes", n)
	}
}

// The oracle's words, each from the front of what is left on; what they become has t for a term, l for a list, F for a fun that is open.
var (
	quotes   = regexp.MustCompile(`^'(?:[ -&(-\[\]-~]|\\'|\\\\|\\x[0-9a-f]{2})*'`)
	bare     = regexp.MustCompile(`^[a-z][A-Za-z0-9_@]*`)
	numbered = regexp.MustCompile(`^(?:#(?:Ref|Tid)<(0|[1-9][0-9]*)>|<0\.(0|[1-9][0-9]*)\.0>|#Fun<(0|[1-9][0-9]*))`)
	integer  = regexp.MustCompile(`^(?:0|-?[1-9][0-9]*)`)
	sign     = regexp.MustCompile(`^[\[\]{},|>]`)
	piece    = regexp.MustCompile(`\\x..|\\.|.`)
	whole    = regexp.MustCompile(`\[(?:[tl](?:,[tl])*(?:\|t)?)?\]|\{(?:[tl](?:,[tl]){0,63})?\}|F(?:,[tl]){0,64}>`)
)

// plainText tells whether an atom needs no quotes, in the oracle's way.
func plainText(s string) bool {
	return len(s) <= 64 && bare.FindString(s) == s && s != "" && !slices.Contains(reserved(), s)
}

// quotedText tells whether a text in quotes is an atom's own.
func quotedText(s string) bool {
	var raw []byte
	for _, p := range piece.FindAllString(s[1:len(s)-1], -1) {
		if len(p) == 4 {
			n, _ := strconv.ParseUint(p[2:], 16, 8)
			if n >= 32 && n <= 126 {
				return false
			}
			raw = append(raw, byte(n))
		} else {
			raw = append(raw, p[len(p)-1])
		}
	}
	return len(raw) <= 64 && !plainText(string(raw))
}

// within30 tells whether digits are at most 2^30, and below60 whether a number is from -2^59 to 2^59 - 1.
func within30(s string) bool {
	return len(s) < 10 || len(s) == 10 && s <= "1073741824"
}

func below60(s string) bool {
	n, e := strconv.ParseInt(s, 10, 60)
	return e == nil && strconv.FormatInt(n, 10) == s
}

// cut tells how the first word of s is written in the oracle's signs, and how long it is; none: it is no word.
func cut(s string) (string, int) {
	if q := quotes.FindString(s); q != "" && quotedText(q) {
		return "t", len(q)
	}
	if b := bare.FindString(s); b != "" && plainText(b) {
		return "t", len(b)
	}
	if n := numbered.FindStringSubmatch(s); n != nil && within30(n[1]+n[2]+n[3]) {
		if n[3] != "" {
			return "F", len(n[0])
		}
		return "t", len(n[0])
	}
	if i := integer.FindString(s); i != "" && below60(i) {
		return "t", len(i)
	}
	if g := sign.FindString(s); g != "" {
		return g, 1
	}
	return "", 0
}

// isText tells whether a text, a short one, is a term's own: in another way, by writing wholes of parts as parts.
func isText(s string) bool {
	signs := ""
	for s != "" {
		w, n := cut(s)
		if w == "" {
			return false
		}
		signs += w
		s = s[n:]
	}
	for {
		next := whole.ReplaceAllStringFunc(signs, func(x string) string {
			if x[0] == '[' {
				return "l"
			}
			return "t"
		})
		if next == signs {
			return signs == "t" || signs == "l"
		}
		signs = next
	}
}

// wantAsSaid holds a text against the oracle: what is no text is refused, what is one is read, and written as it was.
func wantAsSaid(t *testing.T, s string) {
	t.Helper()
	x, e := text.Read(s)
	if !isText(s) {
		if e != api.ErrBytes || x.Kind != 0 {
			t.Errorf("Read(%q): %v, %v; want it refused", s, x, e)
		}
		return
	}
	if e != api.OK || term.Check(x) != api.OK {
		t.Errorf("Read(%q): %v, %v", s, x, e)
		return
	}
	wantWrite(t, x, s, api.OK)
}

// pieces goes through all texts of so many pieces.
func pieces(of []string, n int, s string, do func(string)) {
	do(s)
	if n > 0 {
		for _, p := range of {
			pieces(of, n-1, s+p, do)
		}
	}
}

// P5.2, P5.3: of all short texts of some pieces just those are read that are a term's own.
func TestAllShortTexts(t *testing.T) {
	asked := func(s string) { wantAsSaid(t, s) }
	pieces(strings.Split("0 1 - a A ' \\ x0 { } [ ] , | #Fun< #Ref< <0. .0> > end", " "), 3, "", asked)
	pieces(strings.Split("a { } [ ] , |", " "), 6, "", asked)
	pieces(strings.Split("a [ ] , |", " "), 7, "", asked)
	pieces(strings.Split("' \\ x a 0 9 f \x00", " "), 5, "'", asked)
	pieces(strings.Split("#Fun< 0 1 , > {", " "), 6, "", asked)
	pieces(strings.Split("- 0 1 9 ,", " "), 5, "[", func(s string) { asked(s); asked(s + "]") })
	pieces(strings.Split("< 0. 0 . 1 >", " "), 6, "", asked)
}

// P5.2, P5.3: of texts that are changed by a byte just those are read that are a term's own.
func TestChangedTexts(t *testing.T) {
	const bytes = " '\\\"x0129aAzZ_@-+#<>.,|[]{}()RTF%;:\x00\n\x7f\x80\xff"
	for _, x := range slices.Concat(leaves(), grown()) {
		s := x.text
		if len(s) > 70 {
			continue
		}
		wantAsSaid(t, s)
		for i := range s {
			wantAsSaid(t, s[:i])
			wantAsSaid(t, s[i:])
			wantAsSaid(t, s[:i]+s[i+1:])
			wantAsSaid(t, s[:i]+s[i:i+1]+s[i:])
			if i > 0 {
				wantAsSaid(t, s[:i-1]+s[i:i+1]+s[i-1:i]+s[i+1:])
			}
			for j := range len(bytes) {
				wantAsSaid(t, s[:i]+bytes[j:j+1]+s[i+1:])
				wantAsSaid(t, s[:i]+bytes[j:j+1]+s[i:])
			}
		}
		for j := range len(bytes) {
			wantAsSaid(t, s+bytes[j:j+1])
		}
	}
}

// small are all terms of some leaves, with one or two of them in each kind of whole, and wholes of these.
func small() []api.Term {
	l := []api.Term{num(0), num(-12), atom("a"), atom("A'\\"), atom(""), atom("\x00"), ref(1), tid(2), pid(3), fun(4), tuple(), null}
	once := wholes(l)
	return slices.Concat(l, once, wholes(once[:60]), wholes(once[len(once)-60:]))
}

func wholes(l []api.Term) (all []api.Term) {
	for _, x := range l {
		all = append(all, tuple(x), fun(7, x), list(x), tuple(x, x, x))
		for _, y := range l {
			all = append(all, tuple(x, y), fun(7, x, y), cons(x, y), list(x, y), cons(x, cons(y, num(1))))
		}
	}
	return all
}

// P5.3: what is written is read as it was, and no two terms have one text.
func TestThereAndBack(t *testing.T) {
	seen := map[string]api.Term{}
	for _, x := range small() {
		s, e := text.Write(x)
		if e != api.OK {
			t.Fatalf("Write(%v): %v", x, e)
		}
		wantRead(t, s, x)
		if y, there := seen[s]; there && !term.Same(x, y) {
			t.Errorf("%v and %v are both written %q", x, y, s)
		}
		seen[s] = x
	}
}

// P5.3: atoms of any bytes, of any length.
func TestAtomsThereAndBack(t *testing.T) {
	seed := uint32(1)
	for n := range 6500 {
		b := make([]byte, n%65)
		for i := range b {
			seed = seed*1664525 + 1013904223
			b[i] = byte(seed >> (16 + n%3*4))
			if n%5 == 0 {
				b[i] = "'\\x0aAz \n"[int(b[i])%9]
			}
		}
		s, e := text.Write(atom(string(b)))
		if e != api.OK || s != quoted(string(b)) && s != string(b) || text.Plain(string(b)) != (s == string(b)) {
			t.Errorf("Write of an Atom %q: %q, %v", b, s, e)
		}
		wantRead(t, s, atom(string(b)))
	}
}

// places gathers where the terms of a term's lists stand, spare room as well, and which texts it has.
func places(x api.Term, found map[unsafe.Pointer]int) {
	if len(x.S) > 0 {
		found[unsafe.Pointer(unsafe.StringData(x.S))]++
	}
	room := x.L[:cap(x.L)]
	for i := range room {
		found[unsafe.Pointer(&room[i])]++
		places(room[i], found)
	}
}

// P1, P5.2: an answer is new memory, and each part of it is its own.
func TestAnswersAreTheirOwn(t *testing.T) {
	for _, x := range all() {
		a, _ := text.Read(x.text)
		b, _ := text.Read(x.text)
		found := map[unsafe.Pointer]int{}
		places(a, found)
		places(b, found)
		from := uintptr(unsafe.Pointer(unsafe.StringData(x.text)))
		for p, often := range found {
			if often > 1 || uintptr(p) >= from && uintptr(p) < from+uintptr(len(x.text)) {
				t.Errorf("the answers to Read(%q) share memory, or have that of the text", x.text)
			}
		}
		was := term.Copy(x.t)
		s, _ := text.Write(x.t)
		if !term.Same(x.t, was) {
			t.Errorf("Write changes %v to %v", was, x.t)
		}
		if x.t.S != "" && unsafe.StringData(s) == unsafe.StringData(x.t.S) {
			t.Errorf("the text of %v has the memory of the atom", x.t)
		}
	}
}

package tree

import (
	"errors"
	"fmt"
	"math"
	"math/rand"
	"regexp"
	"slices"
	"sort"
	"strings"
	"testing"

	"wheelhouse/api"
	"wheelhouse/fault"
	"wheelhouse/lex"
)

const (
	deepest = 4
	mostArg = 16
)

// stmt is a statement without a block, in a line.
func stmt(line int, key string, args ...string) Node {
	return Node{Key: key, Args: args, Line: line}
}

// within is a statement with a block of these.
func within(n Node, list ...Node) Node {
	n.Block, n.List = true, list
	return n
}

// nest is statements in so many blocks, the keys of which are a, each in a line of its own, from 1 on.
func nest(deep int, inner ...Node) []Node {
	for line := deep; line > 0; line-- {
		inner = []Node{within(stmt(line, "a"), inner...)}
	}
	return inner
}

// nested is the text of nest.
func nested(deep int, inner string) string {
	return strings.Repeat("a {\n", deep) + inner + strings.Repeat("}", deep)
}

// many is so many texts.
func many(n int, s string) []string {
	return slices.Repeat([]string{s}, n)
}

// times is so many statements that are alike.
func times(n int, s Node) []Node {
	return slices.Repeat([]Node{s}, n)
}

// told is all that statements say, with their lines or without; of lists that are nil, or empty, the same.
func told(l []Node, lines bool) string {
	var text strings.Builder
	for _, n := range l {
		fmt.Fprintf(&text, "%q%q%t", n.Key, n.Args, n.Block)
		if lines {
			fmt.Fprint(&text, n.Line)
		}
		text.WriteString("(" + told(n.List, lines) + ")")
	}
	return text.String()
}

// clone is a copy of statements that shares no list with them.
func clone(l []Node) []Node {
	l = slices.Clone(l)
	for i := range l {
		l[i].Args, l[i].List = slices.Clone(l[i].Args), clone(l[i].List)
	}
	return l
}

// reads: Read tells these statements.
func reads(t *testing.T, s string, want ...Node) {
	t.Helper()
	l, err := Read(s)
	if err != nil || told(l, true) != told(want, true) {
		t.Errorf("Read(%.80q): %.200s, %v; want %.200s", s, told(l, true), err, told(want, true))
	}
}

// fails: Read has an error of a code and a line, which says nothing else, and no statements.
func fails(t *testing.T, s string, c api.Code, line int) {
	t.Helper()
	l, err := Read(s)
	if want := fault.New(c, line, ""); err == nil || fault.Of(err) != c || fault.Line(err) != line || err.Error() != want.Error() {
		t.Errorf("Read(%.80q): %v; want %v", s, err, want)
		return
	}
	var f *fault.Fault
	if !errors.As(err, &f) || f.What != "" || f.Line != line {
		t.Errorf("Read(%.80q): %#v is no Fault of line %d without a text", s, err, line)
	}
	if len(l) != 0 {
		t.Errorf("Read(%.80q): %.200s beside %v", s, told(l, true), err)
	}
}

// The limits.
func TestNumbers(t *testing.T) {
	if Deep != deepest || Many != mostArg {
		t.Error(Deep, Many)
	}
}

// Promises 13.1 and 13.2: ordinary texts.
func TestRead(t *testing.T) {
	for _, s := range []string{"", " ", "\n\n", "\t\r\n", "# a note", "# { a; }\n"} {
		reads(t, s)
	}
	reads(t, "console a { lines 20; }", within(stmt(1, "console", "a"), stmt(1, "lines", "20")))
	reads(t, "a;", stmt(1, "a"))
	reads(t, "a b;", stmt(1, "a", "b"))
	reads(t, "a\nb\n;", stmt(1, "a", "b"))
	reads(t, "\n\n a b c ; # x;\n", stmt(3, "a", "b", "c"))
	reads(t, "a;b;\nc;", stmt(1, "a"), stmt(1, "b"), stmt(2, "c"))
	reads(t, "a;a;a;", stmt(1, "a"), stmt(1, "a"), stmt(1, "a"))
	reads(t, `a "b c" "" "d" "\"\\" "{" ";" "}" "#";`, stmt(1, "a", "b c", "", "d", `"\`, "{", ";", "}", "#"))
	reads(t, `a"b"c"d";`, stmt(1, "a", "b", "c", "d"))
	reads(t, "a{}", within(stmt(1, "a")))
	reads(t, "a{}b;", within(stmt(1, "a")), stmt(1, "b"))
	reads(t, "a b { } c { }", within(stmt(1, "a", "b")), within(stmt(1, "c")))
	reads(t, "a\n{\nb\n\"c\"\n;\n}\nd;", within(stmt(1, "a"), stmt(3, "b", "c")), stmt(7, "d"))
	reads(t, "a {\n  b c;\n  d {\n    e;\n  }\n  f;\n}\ng;\n",
		within(stmt(1, "a"), stmt(2, "b", "c"), within(stmt(3, "d"), stmt(4, "e")), stmt(6, "f")), stmt(8, "g"))
	reads(t, "a{b{}c{}d;}e{f{g{}}}",
		within(stmt(1, "a"), within(stmt(1, "b")), within(stmt(1, "c")), stmt(1, "d")),
		within(stmt(1, "e"), within(stmt(1, "f"), within(stmt(1, "g")))))
	// What looks like something else is a word, as any.
	reads(t, "20 !~ *; - { [] ?; }", stmt(1, "20", "!~", "*"), within(stmt(1, "-"), stmt(1, "[]", "?")))
}

// Promise 13.2: what may not stand where it does, and what lacks at the end, each with its line.
func TestReadForm(t *testing.T) {
	for s, line := range map[string]int{
		// Something lacks at the end.
		"a": 1, "a\n": 1, "\na\n\n# b;": 2, "a\nb\nc": 3, "a;\nb": 2, "a \"b\"\n\"c\"\n": 2,
		"a {": 1, "a\n{\n": 2, "a {\n b;": 2, "a {\n b;\n\n#}": 2, "a {\n b": 2, "a {\n b\n{": 3, "a {\n b\n{\n}": 4, "a{a{a{a{\na;}}}": 2,
		// There is no key ahead.
		";": 1, "\n;": 2, "a;\n;": 2, "a;\n;;\n;": 2, "a {\n;\n}": 2, "a {}\n;": 2, "a { b; }\n;\n": 2, "a{a{a{a{\n;}}}}": 2,
		"{": 1, "{ a; }": 1, "a;\n{ b; }": 2, "a { {\n}\n}": 1, "a {\n{": 2, "a {}\n{}": 2, "a\n{\nb;\n{\n{": 4, "a{a{a{a{\n{\n{": 2, "a{a{a{a{a;\n{": 2,
		"\"a\";": 1, "a;\n\"b\"\nc;": 2, "a {\n\"b\"\n;}": 2, "\"\"": 1, "\"a\" {\n}": 1, "a{a{a{a{\n\"a\"\n{": 2,
		// Nothing is there that could be closed.
		"}": 1, "a;\n}": 2, "a {\n}\n}": 3, "a { b {\n} }\n}": 3, "a{a{a{a{}}}}\n}": 2,
		"a\n}": 2, "a { b\n}": 2, "a {\nb c \"d\"\n}": 3, "a{a{a{a{a\n}": 2,
		// The first one of several is told.
		"a {}\nb c\n}\nd}\n{": 3, "a;\n}\n\"b\";\n{;": 2, "a;\n\"b\"\n;}": 2, ";\n{": 1, "a {\n;\nb": 2, "a\n}\nb": 2,
	} {
		fails(t, s, api.ErrForm, line)
	}
}

// Promises 13.1 and 13.2: as many arguments as there may be, and more, in as many blocks.
func TestReadMany(t *testing.T) {
	for deep := range deepest + 1 {
		line := deep + 1
		for arg, put := range map[string]string{"x": "x", "{": `"{"`, "": `""`, "x y": `"x y"`} {
			for n := range mostArg + 1 {
				s, want := "b\n"+strings.Repeat(put+"\n", n), stmt(line, "b", many(n, arg)...)
				reads(t, nested(deep, s+";"), nest(deep, want)...)
				if deep < deepest {
					reads(t, nested(deep, s+"{}"), nest(deep, within(want))...)
				}
			}
			full := "b\n" + strings.Repeat(put+"\n", mostArg)
			for _, more := range []string{"x", `""`, "\"{\"\n", "x ;", "x {}", "x }", "x\n\n;\n}}}}}", "x {{{", "\"y\"\nx\nx;", "x\n\"z\" \"z\"", strings.Repeat("x\n", 5000)} {
				fails(t, nested(deep, full+more), api.ErrLimit, line+mostArg+1)
				fails(t, "q r;\n"+nested(deep, full+"\n"+more+"\n;"), api.ErrLimit, line+mostArg+3)
			}
			fails(t, nested(deep, full+"}"), api.ErrForm, line+mostArg+1)
			fails(t, strings.TrimRight(nested(deep, full), "}"), api.ErrForm, line+mostArg)
		}
	}
	// Each statement's arguments are counted for themselves.
	row := "a" + strings.Repeat(" x", mostArg)
	full := stmt(1, "a", many(mostArg, "x")...)
	reads(t, row+";"+row+"{"+row+";"+row+"{}}"+row+";", full, within(full, full, within(full)), full)
}

// Promises 13.1 and 13.2: as many blocks in one another as there may be, and more.
func TestReadDeep(t *testing.T) {
	for deep := range deepest + 1 {
		line := deep + 1
		reads(t, nested(deep, "b c;"), nest(deep, stmt(line, "b", "c"))...)
		reads(t, nested(deep, "b;b;\nb;"), nest(deep, stmt(line, "b"), stmt(line, "b"), stmt(line+1, "b"))...)
		reads(t, nested(deep, ""), nest(deep)...)
	}
	for _, head := range []string{"b", "b c", `b "{"`, "b x" + strings.Repeat(" \"\"", mostArg-1)} {
		for _, more := range []string{"{", "{}", "{ c; }", "{{", "{;", "{\"\"", "{ }\n}}}}}}", "{\n a{}", "{" + strings.Repeat("\na", 5000)} {
			fails(t, nested(deepest, head+"\n"+more), api.ErrLimit, deepest+2)
			fails(t, nested(deepest, "c;\n"+head+"\n\n"+more), api.ErrLimit, deepest+4)
		}
	}
	fails(t, "a{a{a{a{a{}}}}}", api.ErrLimit, 1)
	fails(t, strings.Repeat("a\n{\n", 4096), api.ErrLimit, 2*deepest+2)
	// Blocks that ended do not count.
	whole := nested(deepest, "") + "\n"
	reads(t, whole+whole, append(nest(deepest), moved(nest(deepest), deepest+1)...)...)
	row := strings.Repeat("b{}c;", 50)
	reads(t, nested(3, row), nest(3, slices.Repeat([]Node{within(stmt(4, "b")), stmt(4, "c")}, 50)...)...)
	fails(t, nested(3, row+"b{\nb\n{"), api.ErrLimit, 6)
}

// moved is statements so many lines below.
func moved(l []Node, lines int) []Node {
	l = clone(l)
	for i := range l {
		l[i].Line += lines
		l[i].List = moved(l[i].List, lines)
	}
	return l
}

// Promise 13.2: chapter 12's errors come first, whatever else is wrong.
func TestReadLex(t *testing.T) {
	const mostBytes, mostPieces = 65536, 8192
	for _, wrong := range []string{"\"", "\\", "\x00", "\xff", "é", "\"\\n\"", "\"\n\""} {
		for _, s := range []string{"", "a;", "a", "}", ";", "{", "\"\"", "a{a{a{a{a{", "a" + strings.Repeat(" x", mostArg+1)} {
			fails(t, s+"\n\n"+wrong, api.ErrForm, 3)
			fails(t, s+"\n\n"+wrong+"\n;}", api.ErrForm, 3)
		}
	}
	for _, s := range []string{"a;", "}\n", ";", "a ", "a{", "{", "\x00"} {
		fails(t, strings.Repeat(s, mostBytes/len(s)+1), api.ErrSize, 0)
	}
	for _, s := range []string{";", "}", "{", "a\t", `""`} {
		fails(t, strings.Repeat(s, mostPieces)+"\n\n;", api.ErrLimit, 3)
		fails(t, strings.Repeat(s, mostPieces)+"\n\n\x00", api.ErrLimit, 3)
		if _, err := lex.Read(strings.Repeat(s, mostPieces)); err != nil {
			t.Errorf("%d pieces are too many: %v", mostPieces, err)
		}
	}
	half := mostPieces / 2
	row := strings.Repeat("a;", half)
	fails(t, row+"\n}", api.ErrLimit, 2)
	reads(t, row+"\n# }", times(half, stmt(1, "a"))...)
	reads(t, "b{"+row[6:]+"}c;", within(stmt(1, "b"), times(half-3, stmt(1, "a"))...), stmt(1, "c"))
	reads(t, strings.Repeat(" ", mostBytes-2)+"a;", stmt(1, "a"))
	reads(t, strings.Repeat("a", mostBytes-1)+";", stmt(1, strings.Repeat("a", mostBytes-1)))
	reads(t, strings.Repeat("\n", mostBytes-2)+"a;", stmt(mostBytes-1, "a"))
}

// grammar is what 13.1 says, as a pattern of the kinds' signs, with so many blocks and so many arguments at most.
func grammar(deep, most int) *regexp.Regexp {
	block := ""
	s := ""
	for range deep + 1 {
		s = fmt.Sprintf(`w[wq]{0,%d}(?:;%s)`, most, block)
		block = `|\{(?:` + s + `)*\}`
	}
	return regexp.MustCompile(`^(?:` + s + `)*$`)
}

var (
	strict = grammar(deepest, mostArg)
	wider  = grammar(deepest+1, mostArg+1)
)

// begins: may a row of kinds be the beginning of what a pattern takes?
func begins(p *regexp.Regexp, kinds string) bool {
	for deep := range deepest + 2 {
		if end := strings.Repeat("}", deep); p.MatchString(kinds+end) || p.MatchString(kinds+";"+end) {
			return true
		}
	}
	return false
}

// plainly is what 13.2 says of kinds, by the patterns: a code, and the place of the piece that is told.
func plainly(kinds string) (api.Code, int) {
	// What does not begin any text is no beginning of one either, however it goes on.
	at := sort.Search(len(kinds), func(i int) bool { return !begins(strict, kinds[:i+1]) })
	switch {
	case at == len(kinds) && strict.MatchString(kinds):
		return api.OK, 0
	case at == len(kinds):
		return api.ErrForm, at - 1
	case begins(wider, kinds[:at+1]):
		return api.ErrLimit, at
	}
	return api.ErrForm, at
}

// signs are the kinds of pieces as the patterns have them.
func signs(l []lex.Piece) string {
	s := ""
	for _, p := range l {
		s += " wq{};"[p.Kind : p.Kind+1]
	}
	return s
}

// flat is statements as the pieces of which they are: an argument as a word, and lines of keys alone.
func flat(l []Node) []lex.Piece {
	var row []lex.Piece
	for _, n := range l {
		row = append(row, lex.Piece{Kind: lex.Word, Text: n.Key, Line: n.Line})
		for _, a := range n.Args {
			row = append(row, lex.Piece{Kind: lex.Word, Text: a})
		}
		if !n.Block {
			row = append(row, lex.Piece{Kind: lex.Semi})
			continue
		}
		row = append(row, lex.Piece{Kind: lex.Open})
		row = append(row, flat(n.List)...)
		row = append(row, lex.Piece{Kind: lex.Close})
	}
	return row
}

// flattened is the pieces of a text that is right, as flat tells them.
func flattened(row []lex.Piece) []lex.Piece {
	l := slices.Clone(row)
	for i := range l {
		if i > 0 && (row[i-1].Kind == lex.Word || row[i-1].Kind == lex.Quote) || row[i].Kind == lex.Close {
			l[i].Line = 0
		}
		if l[i].Kind == lex.Quote {
			l[i].Kind = lex.Word
		}
	}
	return l
}

// asPlainly: Read tells of s what the words say.
func asPlainly(t *testing.T, s string) {
	t.Helper()
	row, err := lex.Read(s)
	if err != nil {
		fails(t, s, fault.Of(err), fault.Line(err))
		return
	}
	if c, at := plainly(signs(row)); c != api.OK {
		fails(t, s, c, row[at].Line)
		return
	}
	if l, err := Read(s); err != nil || !slices.Equal(flat(l), flattened(row)) {
		t.Errorf("Read(%.80q): %.200s, %v", s, told(l, true), err)
	}
}

// Promises 13.1 and 13.2: all short rows of pieces, each in a line of its own, behind some beginnings.
func TestReadAll(t *testing.T) {
	x := strings.Repeat("x\n", mostArg-1)
	open := "a\n{\n"
	for _, begin := range []string{"", open + open, strings.Repeat(open, deepest-1), strings.Repeat(open, deepest), "a\n" + x, open + "a\n" + x, strings.Repeat(open, deepest) + "a\n" + x} {
		rows := []string{begin}
		for range 6 {
			var longer []string
			for _, s := range rows {
				asPlainly(t, s)
				for _, p := range []string{"k", `"q"`, "{", "}", ";"} {
					longer = append(longer, s+p+"\n")
				}
			}
			rows = longer
		}
	}
}

// grown is statements by chance, that stand in so many blocks.
func grown(chance *rand.Rand, deep int) []Node {
	texts := []string{"a", "web1", "20", "", " ", "a b", `"`, `\`, "{", "};", "#", "~!", `\"x`}
	l := make([]Node, chance.Intn(5))
	for i := range l {
		l[i].Key = texts[chance.Intn(3)]
		l[i].Line = chance.Intn(9) - 4
		for range chance.Intn(mostArg+1) * chance.Intn(2) {
			l[i].Args = append(l[i].Args, texts[chance.Intn(len(texts))])
		}
		if deep < deepest && chance.Intn(2) == 0 {
			l[i] = within(l[i], grown(chance, deep+1)...)
		}
	}
	return l
}

// quoted is a text as a quote, or as a word, if it may be one.
func quoted(s string) string {
	if regexp.MustCompile(`^[!$-:<-\[\]-z|~]+$`).MatchString(s) {
		return s
	}
	return `"` + strings.NewReplacer(`\`, `\\`, `"`, `\"`).Replace(s) + `"`
}

// printed is what 13.3 says of statements that may be.
func printed(l []Node, in string) string {
	s := ""
	for _, n := range l {
		s += in + n.Key
		for _, a := range n.Args {
			s += " " + quoted(a)
		}
		if n.Block {
			s += " {\n" + printed(n.List, in+"  ") + in + "}\n"
		} else {
			s += ";\n"
		}
	}
	return s
}

// Promise 13.2: texts by chance, with pieces that were taken out, put in, or changed.
func TestReadChance(t *testing.T) {
	chance := rand.New(rand.NewSource(13))
	parts := []string{"a", "b1", `""`, `"x y"`, "{", "}", ";", "a {", "};", "x x x x x x x x"}
	gaps := []string{" ", "\n", "\t\r\n\n", " # a note {\n"}
	for range 1500 {
		row := strings.Fields(printed(grown(chance, 0), ""))
		for range chance.Intn(3) {
			at := chance.Intn(len(row) + 1)
			row = slices.Replace(row, at, min(len(row), at+chance.Intn(2)), many(chance.Intn(2), parts[chance.Intn(len(parts))])...)
		}
		s := ""
		for _, p := range row {
			s += p + gaps[chance.Intn(len(gaps))]
		}
		asPlainly(t, s)
	}
}

// each goes through all statements, in blocks, too, with how many blocks each stands in.
func each(l []Node, deep int, do func(n *Node, deep int)) {
	for i := range l {
		do(&l[i], deep)
		each(l[i].List, deep+1, do)
	}
}

// Rule R3: what is answered is new: neither two answers nor two lists of one share anything.
func TestReadIsNew(t *testing.T) {
	s := "a b c { d e; f { g h i; j; } } k l;"
	first, _ := Read(s)
	want := told(first, true)
	each(first, 0, func(n *Node, deep int) {
		_ = append(n.Args, "turned")
		_ = append(n.List, Node{Key: "turned"})
	})
	if got := told(first, true); got != want {
		t.Errorf("lists share what lies behind them: %s", got)
	}
	each(first, 0, func(n *Node, deep int) {
		for i := range n.Args {
			n.Args[i] = "turned"
		}
		n.Key, n.Line = "turned", 9
	})
	if second, _ := Read(s); told(second, true) != want {
		t.Errorf("two answers share something: %s", told(second, true))
	}
}

// prints: Print tells this text.
func prints(t *testing.T, want string, l ...Node) {
	t.Helper()
	if s, c := Print(l); s != want || c != api.OK {
		t.Errorf("Print(%.200s): %.200q, %d; want %.200q", told(l, false), s, c, want)
	}
}

// refuses: Print tells that statements may not be.
func refuses(t *testing.T, l ...Node) {
	t.Helper()
	if s, c := Print(l); s != "" || c != api.ErrForm {
		t.Errorf("Print(%.200s): %.200q, %d", told(l, false), s, c)
	}
}

// Promise 13.3: ordinary statements.
func TestPrint(t *testing.T) {
	prints(t, "")
	prints(t, "", []Node{}...)
	prints(t, "a;\n", stmt(1, "a"))
	prints(t, "a b 20;\nc;\n", stmt(1, "a", "b", "20"), stmt(1, "c"))
	prints(t, "a \"\" \"b c\" \" \" \"\\\"\" \"\\\\\" \"{\" \"}\" \"a;\" \"#\" ~;\n", stmt(1, "a", "", "b c", " ", `"`, `\`, "{", "}", "a;", "#", "~"))
	prints(t, "a {\n}\n", within(stmt(1, "a")))
	prints(t, "a {\n}\n", within(stmt(1, "a"), []Node{}...))
	prints(t, "a b \"\" {\n}\nc;\n", within(stmt(1, "a", "b", "")), stmt(1, "c"))
	prints(t, "console a {\n  lines 20;\n}\n", within(stmt(1, "console", "a"), stmt(1, "lines", "20")))
	prints(t, "a {\n  b {\n    c {\n      d {\n        e f;\n      }\n      g;\n    }\n  }\n  h {\n  }\n}\ni;\n",
		within(stmt(1, "a"), within(stmt(1, "b"), within(stmt(1, "c"), within(stmt(1, "d"), stmt(1, "e", "f")), stmt(1, "g"))), within(stmt(1, "h"))), stmt(1, "i"))
	// A statement's line does not matter.
	for _, line := range []int{math.MinInt, -1, 0, 1, 7, math.MaxInt} {
		prints(t, "b;\na {\n  b;\n}\n", stmt(line, "b"), within(stmt(line, "a"), stmt(line, "b")))
	}
	// A list without elements is none.
	prints(t, "a;\n", Node{Key: "a", Args: []string{}, List: []Node{}})
	// What is printed may be longer than what is read.
	prints(t, "a "+strings.Repeat("b", 1<<20)+";\n", stmt(1, "a", strings.Repeat("b", 1<<20)))
	prints(t, strings.Repeat("a {\n}\n", 50000), times(50000, within(stmt(1, "a")))...)
}

// Promise 13.3: each byte in a key, and in an argument, at some places, in as many blocks as there may be.
func TestPrintBytes(t *testing.T) {
	for i := range 256 {
		for at := range 3 {
			s := strings.Repeat("m", at) + string([]byte{byte(i)}) + strings.Repeat("m", 2-at)
			word := i >= 33 && i <= 126 && !strings.ContainsRune(`{};"#\`, rune(i))
			for deep := range deepest + 1 {
				key, arg := nest(deep, stmt(1, "b"), stmt(1, s, "c")), nest(deep, stmt(1, "b", "c", s))
				if word {
					prints(t, printed(key, ""), key...)
				} else {
					refuses(t, key...)
				}
				if i >= 32 && i <= 126 {
					prints(t, printed(arg, ""), arg...)
				} else {
					refuses(t, arg...)
				}
			}
		}
	}
	for _, s := range []string{"", "a b", " a", "a ", "é", "\xff", `""`, "a\n", "a;", strings.Repeat("a", 5000) + " "} {
		refuses(t, stmt(1, s))
		refuses(t, within(stmt(1, s)))
		refuses(t, stmt(1, "a"), within(stmt(1, s), stmt(1, "a")))
	}
	for _, s := range []string{"é", "日", "\u0161", "\u0122", "\ufffd", "a\n", "a b\x7f", "\t", strings.Repeat("a", 5000) + "\x00"} {
		refuses(t, stmt(1, "a", s))
		refuses(t, within(stmt(1, "a", "b", s, "c")))
	}
}

// Promise 13.3: as many arguments as there may be, and more.
func TestPrintMany(t *testing.T) {
	for deep := range deepest + 1 {
		for n := range mostArg + 1 {
			l := nest(deep, stmt(1, "b", many(n, "x y")...))
			prints(t, printed(l, ""), l...)
		}
		for _, n := range []int{mostArg + 1, mostArg + 2, 100, 5000} {
			refuses(t, nest(deep, stmt(1, "b", many(n, "x")...))...)
			refuses(t, nest(deep, stmt(1, "b"), within(stmt(1, "b", many(n, "")...)))...)
		}
	}
}

// Promise 13.3: as many blocks in one another as there may be, and more, also such as have nothing in them.
func TestPrintDeep(t *testing.T) {
	for deep := range 40 {
		for _, l := range [][]Node{nest(deep), nest(deep, stmt(1, "b"))} {
			l = append(l, stmt(1, "c"))
			if deep <= deepest {
				prints(t, printed(l, ""), l...)
			} else {
				refuses(t, l...)
			}
		}
	}
	refuses(t, nest(deepest, within(stmt(1, "b")))...)
	refuses(t, nest(deepest, stmt(1, "b"), within(stmt(1, "b"), []Node{}...))...)
}

// Promise 13.3: any one thing that is wrong, wherever it stands.
func TestPrintWrong(t *testing.T) {
	breaks := []func(n *Node, deep int){
		func(n *Node, deep int) { n.Key = "" },
		func(n *Node, deep int) { n.Key += " x" },
		func(n *Node, deep int) { n.Key = `"` + n.Key + `"` },
		func(n *Node, deep int) { n.Args = append(slices.Clone(n.Args), "\n") },
		func(n *Node, deep int) { n.Args = append([]string{"\x80"}, n.Args...) },
		func(n *Node, deep int) { n.Args = many(mostArg+1, "x") },
		func(n *Node, deep int) { n.Block, n.List = false, append(slices.Clone(n.List), stmt(1, "a")) },
		func(n *Node, deep int) { n.Block, n.List = false, []Node{{}} },
		func(n *Node, deep int) { *n = within(*n, nest(deepest-deep, within(stmt(1, "a")))...) },
	}
	whole := []Node{stmt(1, "a"), within(stmt(1, "b", "c"), stmt(1, "d"), within(stmt(1, "e"), within(stmt(1, "f"), within(stmt(1, "g"), stmt(1, "h", "")), stmt(1, "i")))), within(stmt(1, "j")), stmt(1, "k", "l")}
	prints(t, printed(whole, ""), whole...)
	for at := range Count(whole) {
		for _, wrong := range breaks {
			l, i := clone(whole), 0
			each(l, 0, func(n *Node, deep int) {
				if i == at {
					wrong(n, deep)
				}
				i++
			})
			refuses(t, l...)
		}
	}
}

// Promise 13.4: what is printed is read as the same, each line of it a statement's, or the end of a block.
func TestThereAndBack(t *testing.T) {
	chance := rand.New(rand.NewSource(134))
	for range 3000 {
		l := grown(chance, 0)
		prints(t, printed(l, ""), l...)
		back(t, l)
	}
	for i := range 95 {
		for j := range 95 {
			back(t, []Node{stmt(1, "a", string(rune(32+i))+string(rune(32+j)))})
		}
	}
}

// back: what is printed of statements is read as the same, and printed as the same text.
func back(t *testing.T, l []Node) {
	t.Helper()
	s, c := Print(l)
	again, err := Read(s)
	if c != api.OK || err != nil || told(again, false) != told(l, false) || !Same(l, again) || !Same(again, l) {
		t.Errorf("%.200s, printed as %.200q (%d), is read as %.200s, %v", told(l, false), s, c, told(again, false), err)
	}
	if twice, _ := Print(again); twice != s {
		t.Errorf("%.200q is printed, once it is read, as %.200q", s, twice)
	}
	lines := strings.Split(s, "\n")
	each(again, 0, func(n *Node, deep int) {
		line := strings.Repeat("  ", deep) + n.Key
		if !strings.HasPrefix(lines[n.Line-1]+" ", line+" ") && lines[n.Line-1] != line+";" {
			t.Errorf("%.200q: %q is no line of the key %q in %d blocks", s, lines[n.Line-1], n.Key, deep)
		}
		lines[n.Line-1] = "}"
	})
	for _, line := range lines {
		if line = strings.TrimLeft(line, " "); line != "}" && line != "" {
			t.Errorf("%.200q: %q is no statement's line", s, line)
		}
	}
}

// unlike is statements of which no two are the same.
func unlike() [][]Node {
	a, b := stmt(1, "a"), stmt(1, "b")
	l := [][]Node{
		nil, {a}, {b}, {a, a}, {a, b}, {b, a}, {a, a, a}, {a, b, a},
		{stmt(1, "")}, {stmt(1, "A")}, {stmt(1, "aa")}, {stmt(1, "a b")}, {stmt(1, "a\xff")},
		{stmt(1, "a", "")}, {stmt(1, "a", "b")}, {stmt(1, "a", "a")}, {stmt(1, "a", "b", "a")}, {stmt(1, "a", "a", "b")}, {stmt(1, "a", "a b")}, {stmt(1, "a", "", "")}, {stmt(1, "a", "b", "")}, {stmt(1, "a", "", "b")}, {stmt(1, "a", many(100, "x")...)}, {stmt(1, "a", many(101, "x")...)},
		{within(a)}, {within(b)}, {within(a, a)}, {within(a, b)}, {within(a, a, b)}, {within(a, b, a)}, {within(a), a}, {a, within(a)}, {within(a, a), b}, {within(a), within(a)}, {within(stmt(1, "a", "b"))}, {within(stmt(1, "a", "b"), a)}, {within(a, stmt(1, "a", "b"))},
		{within(a, within(a))}, {within(a, within(b))}, {within(a, within(a, a))}, {within(a, within(a), a)}, {within(a, within(a)), a}, {within(a, a, within(a))},
		// Also of such as may not be all is asked.
		{{Key: "a", List: []Node{a}}}, {{Key: "a", List: []Node{b}}}, {{Key: "a", List: []Node{a, b}}},
	}
	for deep := 3; deep < 12; deep++ {
		l = append(l, nest(deep), nest(deep, b), nest(deep, stmt(1, "b", "c")))
	}
	return l
}

// Promise 13.3: statements that are the same are so whatever their lines are; no others are.
func TestSame(t *testing.T) {
	all := unlike()
	for i, a := range all {
		for j, b := range all {
			if Same(a, b) != (i == j) {
				t.Errorf("Same(%s, %s) is %v", told(a, false), told(b, false), i != j)
			}
		}
		for _, lines := range []int{1, -1, 5, math.MaxInt, math.MinInt} {
			if m := moved(a, lines); !Same(a, m) || !Same(m, a) || !Same(m, clone(m)) {
				t.Errorf("%s, %d lines below, is not the same", told(a, false), lines)
			}
		}
	}
	if !Same(nil, []Node{}) || !Same([]Node{}, nil) || !Same([]Node{{Args: []string{}, List: []Node{}}}, []Node{{}}) {
		t.Error("a list that is nil is not the same as one without elements")
	}
	chance := rand.New(rand.NewSource(133))
	for range 2000 {
		a, b := grown(chance, 2), grown(chance, 3)
		if want := told(a, false) == told(b, false); Same(a, b) != want {
			t.Errorf("Same(%s, %s) is %v", told(a, false), told(b, false), !want)
		}
	}
}

// Promise 13.3: one thing that is another one, wherever it stands.
func TestSameBut(t *testing.T) {
	turns := []func(n *Node){
		func(n *Node) { n.Key += "x" },
		func(n *Node) { n.Args = append(slices.Clone(n.Args), "") },
		func(n *Node) { n.Block = !n.Block },
		func(n *Node) { n.List = append(slices.Clone(n.List), Node{}) },
	}
	l := grown(rand.New(rand.NewSource(7)), 0)
	for at := range Count(l) {
		for i, turn := range turns {
			m, seen := moved(l, 3), 0
			each(m, 0, func(n *Node, deep int) {
				if seen == at {
					turn(n)
				}
				seen++
			})
			if Same(l, m) || Same(m, l) {
				t.Errorf("statement %d, turned in way %d, is the same", at, i)
			}
		}
	}
}

// Promise 13.3: how many statements there are.
func TestCount(t *testing.T) {
	a := stmt(1, "a", "b", "c")
	for _, x := range []struct {
		l    []Node
		want int
	}{
		{nil, 0}, {[]Node{}, 0}, {[]Node{{}}, 1}, {[]Node{a}, 1}, {[]Node{a, a, a}, 3}, {[]Node{within(a)}, 1}, {[]Node{within(a, a)}, 2}, {[]Node{within(a, a, a), a}, 4},
		{[]Node{a, within(a, within(a, a), a), within(a)}, 6}, {nest(4, a, a), 6}, {nest(40), 40}, {nest(40, a), 41}, {times(100000, a), 100000}, {times(1000, within(a, times(1000, a)...)), 1001000},
		{[]Node{{List: []Node{a, a}}}, 3}, {[]Node{within(a, Node{List: []Node{a}})}, 3},
	} {
		if got := Count(x.l); got != x.want {
			t.Errorf("Count(%.200s): %d; want %d", told(x.l, false), got, x.want)
		}
	}
	chance := rand.New(rand.NewSource(1333))
	for range 500 {
		// No text of these statements has a bracket of this kind.
		l := grown(chance, 0)
		if want := strings.Count(told(l, false), "("); Count(l) != want {
			t.Errorf("Count(%.200s): %d; want %d", told(l, false), Count(l), want)
		}
	}
}

// Promise 13.3 and rule R7: as deep as what is given may be.
func TestDeepest(t *testing.T) {
	const deep = 1<<16 - 2
	for _, block := range []bool{true, false} {
		a, b := []Node{stmt(1, "a")}, []Node{stmt(1, "b")}
		for i := range deep {
			a, b = []Node{{Key: "x", Block: block, List: a, Line: i}}, []Node{{Key: "x", Block: block, List: b}}
		}
		if Count(a) != deep+1 {
			t.Errorf("%d statements", Count(a))
		}
		if !Same(a, a) || Same(a, b) || Same(b, a) || Same(a, a[0].List) {
			t.Error("what is the same is not told")
		}
		if s, c := Print(a); s != "" || c != api.ErrForm {
			t.Errorf("Print: %d bytes, %d", len(s), c)
		}
	}
}

// Rule R3: what is handed in is not changed, and what lies behind a list's length is not asked.
func TestKept(t *testing.T) {
	rows := append(unlike(), grown(rand.New(rand.NewSource(33)), 0))
	for _, l := range rows {
		wrong := Node{Key: "\n", Args: []string{"\n"}, List: []Node{{}}}
		longer := func(l []Node) []Node { return append(slices.Clone(l), wrong, wrong) }
		m := longer(l)
		each(m[:len(l)], 0, func(n *Node, deep int) {
			n.Args = append(slices.Clone(n.Args), "\n", "\n")[:len(n.Args)]
			n.List = longer(n.List)[:len(n.List)]
		})
		before := told(m, true)
		short := m[:len(l)]
		s, c := Print(short)
		if want, code := Print(l); s != want || c != code {
			t.Errorf("%.200s: Print asks what lies behind: %.200q, %d", told(l, false), s, c)
		}
		if !Same(short, l) || !Same(l, short) || Count(short) != Count(l) {
			t.Errorf("%.200s: what lies behind is asked", told(l, false))
		}
		if told(m, true) != before {
			t.Errorf("%.200s: changed", before)
		}
		each(short, 0, func(n *Node, deep int) {
			if args, list := n.Args[:len(n.Args)+2], n.List[:len(n.List)+2]; args[len(n.Args)] != "\n" || args[len(n.Args)+1] != "\n" || told(list[len(n.List):], true) != told([]Node{wrong, wrong}, true) {
				t.Errorf("%.200s: what lies behind is changed", before)
			}
		})
	}
}

// Promises 13.1 to 13.4, of texts that come as they like.
func FuzzRead(f *testing.F) {
	for _, s := range []string{"", "console a { lines 20; }", "a {\n b;", "a{a{a{a{a{}}}}}", "a \"b c\" \"\\\\\" {\n} # x\n;", "}", "{", "a" + strings.Repeat(" x", mostArg+1) + ";", "\xff"} {
		f.Add(s)
	}
	f.Fuzz(func(t *testing.T, s string) {
		asPlainly(t, s)
		l, err := Read(s)
		if err != nil {
			return
		}
		prints(t, printed(l, ""), l...)
		if text, _ := Print(l); len(text) <= 1<<16 {
			back(t, l)
		}
	})
}

package lex

import (
	"errors"
	"math"
	"math/rand"
	"regexp"
	"slices"
	"strings"
	"testing"

	"wheelhouse/api"
	"wheelhouse/fault"
)

const (
	mostBytes  = 65536
	mostPieces = 8192
	// The bytes that a word may have, and those that a quote may say.
	ofWord  = "!$%&'()*+,-./0123456789:<=>?@ABCDEFGHIJKLMNOPQRSTUVWXYZ[]^_`abcdefghijklmnopqrstuvwxyz|~"
	ofQuote = ofWord + " #{};\"\\"
)

// has: is this byte one of these?
func has(signs string, c byte) bool {
	return strings.IndexByte(signs, c) >= 0
}

// one is the text of a single byte.
func one(c int) string {
	return string([]byte{byte(c)})
}

// each goes through all texts of up to so many of these signs, the shortest first.
func each(signs string, n int, do func(s string)) {
	row := []string{""}
	for range n + 1 {
		var next []string
		for _, s := range row {
			do(s)
			for i := range len(signs) {
				next = append(next, s+signs[i:i+1])
			}
		}
		row = next
	}
}

// word, quoted, begin, end and semi are pieces.
func word(text string, line int) Piece   { return Piece{Kind: 1, Text: text, Line: line} }
func quoted(text string, line int) Piece { return Piece{Kind: 2, Text: text, Line: line} }
func begin(line int) Piece               { return Piece{Kind: 3, Line: line} }
func end(line int) Piece                 { return Piece{Kind: 4, Line: line} }
func semi(line int) Piece                { return Piece{Kind: 5, Line: line} }

// fails: Read has an error of a code and a line, which says nothing else, and no pieces.
func fails(t *testing.T, s string, c api.Code, line int) {
	t.Helper()
	l, err := Read(s)
	if err == nil {
		t.Errorf("Read(%.60q): %d pieces, no error; want %s in line %d", s, len(l), fault.Word(c), line)
		return
	}
	if !fault.Has(err, c) || fault.Of(err) != c || fault.Line(err) != line {
		t.Errorf("Read(%.60q): %q; want %s in line %d", s, err, fault.Word(c), line)
	}
	if want := fault.Text(fault.New(c, line, "")); err.Error() != want {
		t.Errorf("Read(%.60q): %q; want %q", s, err, want)
	}
	var f *fault.Fault
	if !errors.As(err, &f) || f.What != "" || f.Line != line {
		t.Errorf("Read(%.60q): %#v is no Fault of line %d without a text", s, err, line)
	}
	if len(l) != 0 {
		t.Errorf("Read(%.60q): %v beside %q", s, l, err)
	}
}

// reads: Read tells these pieces.
func reads(t *testing.T, s string, want ...Piece) {
	t.Helper()
	l, err := Read(s)
	if err != nil || !slices.Equal(l, want) {
		t.Errorf("Read(%.60q): %v, %v; want %v", s, l, err, want)
	}
}

// The kinds, and the limits.
func TestNumbers(t *testing.T) {
	if None != 0 || Word != 1 || Quote != 2 || Open != 3 || Close != 4 || Semi != 5 {
		t.Error("kinds", None, Word, Quote, Open, Close, Semi)
	}
	if MostBytes != mostBytes || MostPieces != mostPieces {
		t.Error("limits", MostBytes, MostPieces)
	}
}

// Promise 12.1: ordinary words, and what is none.
func TestWordy(t *testing.T) {
	for _, s := range []string{
		"a", "Z", "0", "!", "~", "$", "|", "z", ":", "<", "[", "]", "web1", "console", "20", "-1", "w*b?", "a.b-c_d", "'a'", "a,b", "a:b", "a=b", "//", "/*", "(x)", "[x]", "a@b!", "%^&+`~|", "<>", "$1",
		ofWord, strings.Repeat("a", 4097), strings.Repeat("~", mostBytes), strings.Repeat("!", mostBytes+1), strings.Repeat("a", 1<<20),
	} {
		if !Wordy(s) {
			t.Errorf("Wordy(%.60q) is false", s)
		}
	}
	for _, s := range []string{
		"", " ", "\t", "\r", "\n", "a b", " a", "a ", "a\t", "\ta", "a\n", "\na", "a\r", "{", "}", ";", "\"", "#", "\\", "a{", "{a", "a}", "}a", "a;", ";a", "a#", "#a", "a\"", "\"a\"", "a\\", "\\a", "a\\\"", "a;b", "{}", "\x00", "a\x00", "\x7f", "a\x7fb", "\x1f", "\v", "\f", "a\vb",
		"\x80", "\xff", "a\xff", "\xffa", "é", "aé", "日", "\u00a0", "a\u2003b", "\u017f", "\uff21", "\ufffd", "a\ufffd", "\U0001f600", "\u0121", "\u0161", "\u0141", "\xc1\xa1", "\xe0\x81\xa1", "\ufeffa",
		strings.Repeat("a", mostBytes) + " ", strings.Repeat("a", 1<<20) + "\x00", ";" + strings.Repeat("a", 1<<20),
	} {
		if Wordy(s) {
			t.Errorf("Wordy(%.60q) is true", s)
		}
	}
}

// Promise 12.1: all texts of one and of two bytes, and each byte at each place of longer ones.
func TestWordyBytes(t *testing.T) {
	for i := range 256 {
		c := byte(i)
		// What the words say, said with numbers.
		may := c >= 33 && c <= 126 && c != 123 && c != 125 && c != 59 && c != 34 && c != 35 && c != 92
		if may != has(ofWord, c) {
			t.Fatalf("the test's own bytes of words are wrong: %q", c)
		}
		if Wordy(one(i)) != may {
			t.Errorf("Wordy(%q) is %v", one(i), !may)
		}
		for j := range 256 {
			if s := one(i) + one(j); Wordy(s) != (may && has(ofWord, byte(j))) {
				t.Errorf("Wordy(%q) is %v", s, Wordy(s))
			}
		}
		for size := 3; size < 40; size++ {
			for at := range size {
				if s := strings.Repeat("m", at) + one(i) + strings.Repeat("m", size-at-1); Wordy(s) != may {
					t.Errorf("Wordy(%q) is %v", s, !may)
				}
			}
		}
	}
}

// Promise 12.2: ordinary texts.
func TestRead(t *testing.T) {
	reads(t, "")
	reads(t, " \t\r\n \n")
	reads(t, "#")
	reads(t, "# a note")
	reads(t, "# a note\n")
	reads(t, "#\n#\n")
	reads(t, "a", word("a", 1))
	reads(t, "web1 { # a note", word("web1", 1), begin(1))
	reads(t, "web1 { # a note\n}", word("web1", 1), begin(1), end(2))
	reads(t, "{};", begin(1), end(1), semi(1))
	reads(t, ";}{", semi(1), end(1), begin(1))
	reads(t, "{{}};;", begin(1), begin(1), end(1), end(1), semi(1), semi(1))
	reads(t, "console a { lines 20; }", word("console", 1), word("a", 1), begin(1), word("lines", 1), word("20", 1), semi(1), end(1))
	reads(t, "console a{lines 20;}", word("console", 1), word("a", 1), begin(1), word("lines", 1), word("20", 1), semi(1), end(1))
	reads(t, "default\n{\n\tsize 4096;\n}\n\nuser bob secret;\n", word("default", 1), begin(2), word("size", 3), word("4096", 3), semi(3), end(4), word("user", 6), word("bob", 6), word("secret", 6), semi(6))
	reads(t, "break 1 \"+++\\\\z\\\"\"; # \"not\" this {\n", word("break", 1), word("1", 1), quoted("+++\\z\"", 1), semi(1))
	reads(t, "init \"\";", word("init", 1), quoted("", 1), semi(1))
	reads(t, "a# b\nc", word("a", 1), word("c", 2))
	reads(t, "a#\n#b\n#\nc#", word("a", 1), word("c", 4))
	reads(t, "# a # b\n# c \"\na", word("a", 3))
	reads(t, "a \"b # c\" d", word("a", 1), quoted("b # c", 1), word("d", 1))
	reads(t, "\"{\" \"}\" \";\" \"#\" \" \"", quoted("{", 1), quoted("}", 1), quoted(";", 1), quoted("#", 1), quoted(" ", 1))
	reads(t, "\"a\"b\"c\"\"d\"", quoted("a", 1), word("b", 1), quoted("c", 1), quoted("d", 1))
	reads(t, "a\"b\"c", word("a", 1), quoted("b", 1), word("c", 1))
	reads(t, "\"\"\"\"", quoted("", 1), quoted("", 1))
	reads(t, "a\rb\r\nc", word("a", 1), word("b", 1), word("c", 2))
	reads(t, "\r\ra", word("a", 1))
	reads(t, "\n\ra\n\r\n;", word("a", 2), semi(4))
	reads(t, "a#\x00\xff\x80é日\x7f\\\r\"\nb", word("a", 1), word("b", 2))
	reads(t, "#\xe3\n#\xe3\x80\n;", semi(3))
	reads(t, "# \x85\u2028\vx\n;", semi(2))
	reads(t, ofWord, word(ofWord, 1))
}

// Promise 12.2: backslashes in quotes.
func TestReadBackslashes(t *testing.T) {
	reads(t, `"\""`, quoted(`"`, 1))
	reads(t, `"\\"`, quoted(`\`, 1))
	reads(t, `"\\\""`, quoted(`\"`, 1))
	reads(t, `"\\\\"`, quoted(`\\`, 1))
	reads(t, `"\"\""`, quoted(`""`, 1))
	reads(t, `"\"\\"`, quoted(`"\`, 1))
	reads(t, `"a\"b\\c"`, quoted(`a"b\c`, 1))
	reads(t, `"\\"a`, quoted(`\`, 1), word("a", 1))
	reads(t, `"\\""\\"`, quoted(`\`, 1), quoted(`\`, 1))
	reads(t, `"\\n\\"`, quoted(`\n\`, 1))
	for _, s := range []string{
		`"`, `"a`, `"\`, `"\"`, `"\\`, `"\\\`, `"\\\"`, `"a\"`, `"\n"`, `"\a"`, `"\ "`, `"\#"`, `"\{"`, `"\;"`, `"\\\n"`, `"\"\a"`, `\`, `\"`, `\\`, `\"a\"`, `\a`, `a\`, `a\b`, `""\`, `"a"b\"`, `"""`, `""a"`, `a"`, `"\x41"`, `"\0"`, `"a\b"`,
		`"\` + "\n", `"\` + "\n\"", `"\` + "\xff\"", `"\` + "\x00\"", `"\` + "\x7f\"",
	} {
		fails(t, s, api.ErrForm, 1)
		fails(t, "a {\n\n"+s+"\n}", api.ErrForm, 3)
	}
	for size := range 200 {
		s := `"` + strings.Repeat(`\`, size) + `"`
		if size%2 == 0 {
			reads(t, s, quoted(strings.Repeat(`\`, size/2), 1))
		} else {
			fails(t, s, api.ErrForm, 1)
			reads(t, s+`"`, quoted(strings.Repeat(`\`, size/2)+`"`, 1))
		}
	}
}

// Promise 12.2: each byte behind a backslash in a quote, and in a quote, and in a note, and by itself.
func TestReadBytes(t *testing.T) {
	for i := range 256 {
		c, s := byte(i), one(i)
		if c == '"' || c == '\\' {
			reads(t, `"a\`+s+`b"`, quoted("a"+s+"b", 1))
		} else {
			fails(t, `;"a\`+s+`b"`, api.ErrForm, 1)
		}
		switch {
		case c == '"' || c == '\\':
			fails(t, `"a`+s+`b"`, api.ErrForm, 1)
		case c >= 32 && c <= 126:
			reads(t, `"a`+s+`b"`, quoted("a"+s+"b", 1))
			reads(t, `"`+s+`"`, quoted(s, 1))
		default:
			fails(t, `"a`+s+`b"`, api.ErrForm, 1)
			fails(t, "\n\""+s+"\"", api.ErrForm, 2)
		}
		if c == '\n' {
			reads(t, "a #x"+s+"y;", word("a", 1), word("y", 2), semi(2))
		} else {
			reads(t, "a #x"+s+"y;\nb", word("a", 1), word("b", 2))
			reads(t, "a #"+s+"\nb", word("a", 1), word("b", 2))
		}
		switch {
		case has(ofWord, c):
			reads(t, s, word(s, 1))
			reads(t, "a"+s+"b", word("a"+s+"b", 1))
			reads(t, "{"+s+"}", begin(1), word(s, 1), end(1))
		case c == ' ' || c == '\t' || c == '\r':
			reads(t, s)
			reads(t, "a"+s+"b", word("a", 1), word("b", 1))
		case c == '\n':
			reads(t, "a"+s+"b", word("a", 1), word("b", 2))
		case c == '{' || c == '}' || c == ';':
			p := Piece{Kind: 3 + strings.IndexByte("{};", c), Line: 1}
			reads(t, s, p)
			reads(t, "a"+s+"b", word("a", 1), p, word("b", 1))
		case c == '#':
			reads(t, "a"+s+"b", word("a", 1))
		default:
			fails(t, s, api.ErrForm, 1)
			fails(t, "a"+s+"b", api.ErrForm, 1)
			fails(t, "{\n} #\n "+s, api.ErrForm, 3)
		}
	}
	for _, s := range []string{"é", "aé", "日", "a\u00a0b", "\u2028", "\u0085", "\ufeffa;", "\ufffd", "\u0120", "\u0122", "\u0123", "\u013b", "\u015c", "\u017b", "\U0001f600", "\xc0\xa0", "\xe0\x80\xa0"} {
		fails(t, s, api.ErrForm, 1)
		fails(t, "\n\""+s+"\"", api.ErrForm, 2)
		reads(t, "#"+s)
	}
}

// Promise 12.2: a line is told of each piece, and of what is none.
func TestReadLines(t *testing.T) {
	reads(t, "a\nb\n\nc", word("a", 1), word("b", 2), word("c", 4))
	reads(t, "\n\n\na", word("a", 4))
	reads(t, "#\n# x\n\"q\"#\n{#\n\n#\n}", quoted("q", 3), begin(4), end(7))
	reads(t, "a b\nc d\n", word("a", 1), word("b", 1), word("c", 2), word("d", 2))
	reads(t, strings.Repeat("\n", mostBytes-1)+"a", word("a", mostBytes))
	reads(t, strings.Repeat("#\n", mostBytes/2-1)+"a", word("a", mostBytes/2))
	reads(t, strings.Repeat("\r", mostBytes-1)+"a", word("a", 1))
	fails(t, "a;\n\"b\n\"", api.ErrForm, 2)
	fails(t, "\"b\n\"", api.ErrForm, 1)
	fails(t, "a\n\n\"b", api.ErrForm, 3)
	fails(t, "\"a\" \"b\n\"c\"\n\x00", api.ErrForm, 1)
	fails(t, "a\n\\\n\\", api.ErrForm, 2)
	fails(t, "#\n#\n#\n\x7f", api.ErrForm, 4)
	fails(t, "a\r\r\x01", api.ErrForm, 1)
	fails(t, strings.Repeat("\n", mostBytes-1)+"\"", api.ErrForm, mostBytes)
	var text strings.Builder
	var want []Piece
	line := 1
	for i := range 5000 {
		text.WriteString(strings.Repeat("\n", i%3) + "w ")
		line += i % 3
		want = append(want, word("w", line))
	}
	reads(t, text.String(), want...)
}

// Promise 12.2: as many bytes as there may be, and more.
func TestReadSize(t *testing.T) {
	reads(t, strings.Repeat("a", mostBytes), word(strings.Repeat("a", mostBytes), 1))
	reads(t, "\""+strings.Repeat(" ", mostBytes-2)+"\"", quoted(strings.Repeat(" ", mostBytes-2), 1))
	reads(t, "\""+strings.Repeat("\\\"", mostBytes/2-1)+"\"", quoted(strings.Repeat("\"", mostBytes/2-1), 1))
	reads(t, strings.Repeat(" ", mostBytes))
	reads(t, "#"+strings.Repeat("\xff", mostBytes-1))
	reads(t, strings.Repeat(" ", mostBytes-1)+";", semi(1))
	fails(t, "\""+strings.Repeat("a", mostBytes-1), api.ErrForm, 1)
	fails(t, strings.Repeat("\x00", mostBytes), api.ErrForm, 1)
	for _, more := range []int{1, 2, 255, mostBytes, 1 << 20} {
		for _, s := range []string{"a", " ", "\n", "#", "\"", ";", "\x00", "\xff", "\\"} {
			fails(t, strings.Repeat(s, mostBytes+more), api.ErrSize, 0)
		}
	}
	fails(t, strings.Repeat("a\n", mostBytes/2)+"\x00", api.ErrSize, 0)
	fails(t, "\x00"+strings.Repeat("a", mostBytes), api.ErrSize, 0)
	fails(t, strings.Repeat(" ", mostBytes)+";", api.ErrSize, 0)
}

// Promise 12.2: as many pieces as there may be, and more.
func TestReadLimit(t *testing.T) {
	for _, x := range []struct {
		s string
		p Piece
	}{{"a ", word("a", 1)}, {";", semi(1)}, {"{", begin(1)}, {"}\t", end(1)}, {`""`, quoted("", 1)}, {`"\\"`, quoted(`\`, 1)}} {
		full := strings.Repeat(x.s, mostPieces)
		want := slices.Repeat([]Piece{x.p}, mostPieces)
		reads(t, full, want...)
		// Blanks and notes are nothing more.
		for _, s := range []string{" ", "\n", "\r\n\t ", "# a note", "\n# a note {\n", "#\x00\xff\\\""} {
			reads(t, full+s, want...)
		}
		reads(t, full[len(x.s):], want[1:]...)
		for _, s := range []string{"b", ";", "{", "}", `""`, `"b"`, `"`, `"b`, `\`, "\x00", "\x7f", "\xff", "é", "b c", "b\n\x00", `"\a"`, "\"\n\"", ";;", "b #"} {
			s = " " + s
			fails(t, full+s, api.ErrLimit, 1)
			fails(t, full+"\n"+s, api.ErrLimit, 2)
			fails(t, "\n"+full+"#{}\"\n \r\n"+s+"\n", api.ErrLimit, 4)
		}
		// What is wrong ahead of them is found first.
		fails(t, "\n\x00"+full+";;", api.ErrForm, 2)
		fails(t, full[len(x.s):]+"\n\n\\;;", api.ErrForm, 3)
		fails(t, full[len(x.s):]+"\n\"", api.ErrForm, 2)
		reads(t, full[len(x.s):]+"\n;", append(slices.Clone(want[1:]), semi(2))...)
	}
	fails(t, strings.Repeat(";", mostBytes), api.ErrLimit, 1)
	fails(t, strings.Repeat("\"", mostBytes), api.ErrLimit, 1)
	fails(t, strings.Repeat("a\n", mostBytes/2), api.ErrLimit, mostPieces+1)
	fails(t, strings.Repeat(";", mostBytes+1), api.ErrSize, 0)
	var want []Piece
	for i := range mostPieces {
		want = append(want, word("a", i+1))
	}
	reads(t, strings.Repeat("a\n", mostPieces), want...)
}

// grammar is what 12.2 says, said as patterns: of blanks, a note, a word, a quote, and the three marks.
var grammar = regexp.MustCompile(`^(?:([ \t\r\n]+)|(#[^\n]*)|([!$-:<-\[\]-z|~]+)|("(?:[ !#-\[\]-~]|\\["\\])*")|([{};]))`)

// plainly is what 12.2 says of s, by the patterns: its pieces, or a code and a line.
func plainly(s string) ([]Piece, api.Code, int) {
	if len(s) > mostBytes {
		return nil, api.ErrSize, 0
	}
	var l []Piece
	at := 0
	for at < len(s) {
		line := 1 + strings.Count(s[:at], "\n")
		m := grammar.FindStringSubmatch(s[at:])
		if m != nil && (m[1] != "" || m[2] != "") {
			at += len(m[0])
			continue
		}
		switch {
		case len(l) == mostPieces:
			return nil, api.ErrLimit, line
		case m == nil:
			return nil, api.ErrForm, line
		case m[3] != "":
			l = append(l, word(m[3], line))
		case m[4] != "":
			text := strings.NewReplacer(`\\`, `\`, `\"`, `"`).Replace(m[4][1 : len(m[4])-1])
			l = append(l, quoted(text, line))
		default:
			l = append(l, Piece{Kind: 3 + strings.Index("{};", m[5]), Line: line})
		}
		at += len(m[0])
	}
	return l, api.OK, 0
}

// asPlainly: Read tells of s what the words say.
func asPlainly(t *testing.T, s string) {
	t.Helper()
	if want, c, line := plainly(s); c == api.OK {
		reads(t, s, want...)
	} else {
		fails(t, s, c, line)
	}
}

// Promise 12.2: all short texts of some signs.
func TestReadAll(t *testing.T) {
	each("a\"\\#{; \n\xff", 5, func(s string) { asPlainly(t, s) })
	each("a\"\\#\n", 7, func(s string) { asPlainly(t, s) })
	each("\"\\", 12, func(s string) { asPlainly(t, s) })
	for i := range 256 {
		for j := range 256 {
			asPlainly(t, one(i)+one(j))
			asPlainly(t, `"`+one(i)+one(j)+`"`)
			asPlainly(t, "\n#"+one(i)+one(j)+"\x00")
		}
	}
}

// parts: pieces, what stands between, and what is wrong, of which texts are put together.
var parts = []string{
	"a", "web1", "20", "!~", "{", "}", ";", `""`, `"a b"`, `"\""`, `"\\"`, `"#{};"`, " ", " ", "  ", "\t", "\r\n", "\n", "\n", "\n\n", "# a note\n", "#\"\n", "#\xff\\\n",
}
var wrongs = []string{`"`, `\`, "\x00", "\xff", "é", "\x7f", `"\n"`, "\"\n", "#"}

// Promise 12.2: long texts, put together by chance, with something wrong in some of them.
func TestReadChance(t *testing.T) {
	chance := rand.New(rand.NewSource(12))
	for range 4000 {
		var l []string
		for range chance.Intn(200) {
			l = append(l, parts[chance.Intn(len(parts))])
		}
		for range chance.Intn(3) {
			l = slices.Insert(l, chance.Intn(len(l)+1), wrongs[chance.Intn(len(wrongs))])
		}
		asPlainly(t, strings.Join(l, ""))
	}
	for range 20 {
		var l []string
		for range 18000 {
			l = append(l, parts[chance.Intn(len(parts))])
		}
		asPlainly(t, strings.Join(l, ""))
	}
}

// Rule R3: what is answered is new: two answers share no list.
func TestReadIsNew(t *testing.T) {
	const s = "a { \"b\" ; }"
	l, _ := Read(s)
	for i := range l[:cap(l)] {
		l[:cap(l)][i] = Piece{Kind: 9, Text: "turned", Line: 9}
	}
	reads(t, s, word("a", 1), begin(1), quoted("b", 1), semi(1), end(1))
}

// puts: Put tells this text, or this code.
func puts(t *testing.T, p Piece, want string, c api.Code) {
	t.Helper()
	if s, code := Put(p); s != want || code != c {
		t.Errorf("Put(%d, %.60q, %d): %.60q, %d; want %.60q, %d", p.Kind, p.Text, p.Line, s, code, want, c)
	}
}

// Promise 12.3: ordinary pieces, and such as may not be.
func TestPut(t *testing.T) {
	for _, s := range []string{"a", "web1", "20", "!", "~", ofWord, strings.Repeat("a", mostBytes), strings.Repeat("a", mostBytes+1)} {
		puts(t, word(s, 1), s, api.OK)
		puts(t, quoted(s, 1), `"`+s+`"`, api.OK)
	}
	for _, s := range []string{"", " ", "a b", "#", "{", "}", ";", "a;", " # {};", strings.Repeat(" ", mostBytes)} {
		puts(t, word(s, 1), "", api.ErrForm)
		puts(t, quoted(s, 1), `"`+s+`"`, api.OK)
	}
	for s, want := range map[string]string{
		`"`: `"\""`, `\`: `"\\"`, `""`: `"\"\""`, `\\`: `"\\\\"`, `\"`: `"\\\""`, `"\`: `"\"\\"`, `a"b\c`: `"a\"b\\c"`, `\n`: `"\\n"`, `+++\z`: `"+++\\z"`, `"a"`: `"\"a\""`,
	} {
		puts(t, word(s, 1), "", api.ErrForm)
		puts(t, quoted(s, 1), want, api.OK)
	}
	for _, s := range []string{"\n", "\t", "\r", "\x00", "\x1f", "\x7f", "\x80", "\xff", "a\n", "\na", "é", "日", "\ufffd", "\u0161", "\u0122", "\xc0\xa0", "a b\x7f", strings.Repeat("a", 5000) + "\n"} {
		puts(t, word(s, 1), "", api.ErrForm)
		puts(t, quoted(s, 1), "", api.ErrForm)
	}
	for _, kind := range []int{3, 4, 5} {
		puts(t, Piece{Kind: kind}, "{};"[kind-3:kind-2], api.OK)
		for _, s := range []string{"{", "}", ";", "a", " ", "\n", "\x00", "\"", "\xff"} {
			puts(t, Piece{Kind: kind, Text: s}, "", api.ErrForm)
		}
	}
	for _, kind := range []int{math.MinInt, -1 << 32, -5, -1, 0, 6, 7, 8, 256, 257, 1 << 32, 1<<32 + 1, math.MaxInt} {
		for _, s := range []string{"", "a", "{", "a b", "\n", "\"", "\xff"} {
			puts(t, Piece{Kind: kind, Text: s, Line: 1}, "", api.ErrArg)
		}
	}
}

// Promise 12.3: each byte at some places of what a piece says.
func TestPutBytes(t *testing.T) {
	for i := range 256 {
		c := byte(i)
		for at := range 5 {
			s := strings.Repeat("m", at) + one(i) + strings.Repeat("m", 4-at)
			if has(ofWord, c) {
				puts(t, word(s, 1), s, api.OK)
			} else {
				puts(t, word(s, 1), "", api.ErrForm)
			}
			switch {
			case c == '"' || c == '\\':
				puts(t, quoted(s, 1), `"`+strings.Replace(s, one(i), `\`+one(i), 1)+`"`, api.OK)
			case has(ofQuote, c):
				puts(t, quoted(s, 1), `"`+s+`"`, api.OK)
			default:
				puts(t, quoted(s, 1), "", api.ErrForm)
			}
		}
	}
}

// Promise 12.3: a piece's line does not matter.
func TestPutLine(t *testing.T) {
	for _, line := range []int{math.MinInt, -1, 0, 1, 2, 7, 1 << 40, math.MaxInt} {
		puts(t, word("a", line), "a", api.OK)
		puts(t, quoted("a", line), `"a"`, api.OK)
		puts(t, begin(line), "{", api.OK)
		puts(t, end(line), "}", api.OK)
		puts(t, semi(line), ";", api.OK)
		puts(t, word("", line), "", api.ErrForm)
		puts(t, Piece{Line: line}, "", api.ErrArg)
	}
}

// Promise 12.3: of all short texts that are read as one piece none is shorter than what is put of it.
func TestPutShortest(t *testing.T) {
	shortest := map[Piece]int{}
	each("a\"\\#{}; \n", 5, func(s string) {
		l, err := Read(s)
		if err != nil || len(l) != 1 {
			return
		}
		p := l[0]
		p.Line = 1
		// The shortest texts come first.
		if _, ok := shortest[p]; !ok {
			shortest[p] = len(s)
		}
	})
	for p, size := range shortest {
		s, code := Put(p)
		if code != api.OK || len(s) != size {
			t.Errorf("Put(%d, %q): %q, %d; want a text of %d bytes", p.Kind, p.Text, s, code, size)
		}
		reads(t, s, p)
	}
	if len(shortest) < 250 {
		t.Errorf("%d pieces alone", len(shortest))
	}
}

// Promise 12.4: all short pieces, and rows of them, are read as they were put.
func TestThereAndBack(t *testing.T) {
	var pieces []Piece
	each("a\"\\# ;", 3, func(s string) {
		for kind := range 7 {
			p := Piece{Kind: kind, Text: s, Line: 1}
			if text, code := Put(p); code == api.OK {
				reads(t, text, p)
				pieces = append(pieces, p)
			}
		}
	})
	for i := range 95 {
		for j := range 95 {
			p := quoted(one(32+i)+one(32+j), 1)
			text, _ := Put(p)
			reads(t, text, p)
		}
	}
	chance := rand.New(rand.NewSource(124))
	for _, size := range []int{2, 3, 5, 100, mostPieces} {
		for _, between := range []string{" ", "  ", "\t", "\r", " # x\n", "\n\n"} {
			var l []Piece
			var texts []string
			for i := range size {
				p := pieces[chance.Intn(len(pieces))]
				p.Line = 1 + i*strings.Count(between, "\n")
				text, _ := Put(p)
				l, texts = append(l, p), append(texts, text)
			}
			if s := strings.Join(texts, between); len(s) <= mostBytes {
				reads(t, s, l...)
			}
		}
	}
}

// Promises 12.1 to 12.4, of texts that come as they like.
func FuzzRead(f *testing.F) {
	for _, s := range []string{"", "web1 { # a note", "a;\n\"b\n\"", `"\\\""`, `"\a"`, "\xff", "#\xff\n;", "a\r\n{}\n"} {
		f.Add(s)
	}
	f.Fuzz(func(t *testing.T, s string) {
		asPlainly(t, s)
		if want := s != "" && strings.Trim(s, ofWord) == ""; Wordy(s) != want {
			t.Errorf("Wordy(%q) is %v", s, !want)
		}
		for kind := 1; kind <= 5; kind++ {
			p := Piece{Kind: kind, Text: s, Line: 1}
			if text, code := Put(p); code == api.OK && len(text) <= mostBytes {
				reads(t, text, p)
			}
		}
		l, _ := Read(s)
		var texts []string
		for i := range l {
			l[i].Line = 1
			text, code := Put(l[i])
			if code != api.OK {
				t.Errorf("Put(%d, %q): %d", l[i].Kind, l[i].Text, code)
			}
			texts = append(texts, text)
		}
		if again := strings.Join(texts, " "); len(again) <= mostBytes {
			reads(t, again, l...)
		}
	})
}

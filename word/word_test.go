package word

import (
	"slices"
	"strings"
	"testing"
)

const (
	letters   = "abcdefghijklmnopqrstuvwxyzABCDEFGHIJKLMNOPQRSTUVWXYZ"
	ofName    = letters + "0123456789-_."
	ofPattern = ofName + "*?"
	most      = 32
)

// has: is this byte one of these?
func has(signs string, c byte) bool {
	return strings.IndexByte(signs, c) >= 0
}

// one is the text of a single byte.
func one(c int) string {
	return string([]byte{byte(c)})
}

// each goes through all texts of up to so many of these signs, the shortest first.
func each(signs string, n int, do func(s string)) {
	row := []string{""}
	for range n + 1 {
		var next []string
		for _, s := range row {
			do(s)
			for i := range len(signs) {
				next = append(next, s+signs[i:i+1])
			}
		}
		row = next
	}
}

// Promise 10.1: ordinary names, and what is none, but may be a pattern, or not.
func TestNames(t *testing.T) {
	for _, s := range []string{
		"a", "Z", "z", "A", "web1", "db", "a-b", "a_b", "a.b", "a-", "a_", "a.", "a--..__", "b0", "b9", "Web-1.rack_2", "none", "ls",
		strings.Repeat("a", most-1), strings.Repeat("Z", most), "a" + strings.Repeat("0", most-1), "x" + strings.Repeat(".", most-1),
	} {
		if !Is(s) || !Fits(s) {
			t.Errorf("%q: name %v, pattern %v", s, Is(s), Fits(s))
		}
	}
	for _, s := range []string{
		"*", "?", "**", "w*b?", "web*", "?eb", "*a*a*", "-", "_", ".", "0", "9", "1web", "-a", "_a", ".a", "*a", "?a", "a*", "a?", "-*", "9?", "...",
		strings.Repeat("*", most), strings.Repeat("?", most), strings.Repeat("0", most), strings.Repeat("a", most-1) + "*", "*" + strings.Repeat("a", most-1),
	} {
		if Is(s) || !Fits(s) {
			t.Errorf("%q: name %v, pattern %v", s, Is(s), Fits(s))
		}
	}
	for _, s := range []string{
		"", " ", "a b", " a", "a ", "a\t", "a\n", "\na", "\x00", "a\x00", "\x00a", "a/b", "a\\b", "a,b", "a:b", "a;b", "a+b", "a[b]", "[ab]", "a{b}", "a!", "a~", "a@b", "a`b", "a#b", "a=b", "(a)", "a|b", "'a'", "\"a\"", "^a", "a$", "%a", "a&b", "<a>",
		"\xe4", "a\xff", "é", "aé", "ä*", "\u212a", "a\u212a", "\u017f", "a\uff21", "a\u0663", "a\uff0a", "a\uff1f", "a\u00b7",
		"* ", " *", "*/?", "?\n",
		strings.Repeat("a", most+1), strings.Repeat("a", most) + " ", strings.Repeat("*", most+1), strings.Repeat("?", most+1), strings.Repeat("a", 2*most), strings.Repeat("a", most+256), strings.Repeat("a", 1<<20), strings.Repeat("*", 1<<16),
	} {
		if Is(s) || Fits(s) {
			t.Errorf("%.50q: name %v, pattern %v", s, Is(s), Fits(s))
		}
	}
}

// Promise 10.1: all texts of one and of two bytes.
func TestShortNames(t *testing.T) {
	for i := range 256 {
		s := one(i)
		if Is(s) != has(letters, s[0]) || Fits(s) != has(ofPattern, s[0]) {
			t.Errorf("%q: name %v, pattern %v", s, Is(s), Fits(s))
		}
		for j := range 256 {
			s := one(i) + one(j)
			is, fits := has(letters, s[0]) && has(ofName, s[1]), has(ofPattern, s[0]) && has(ofPattern, s[1])
			if Is(s) != is || Fits(s) != fits {
				t.Errorf("%q: name %v, pattern %v; want %v, %v", s, Is(s), Fits(s), is, fits)
			}
		}
	}
}

// Promise 10.1: each byte at each place of names of each length up to beyond the greatest one.
func TestNamesPlaces(t *testing.T) {
	for size := 1; size <= most+2; size++ {
		for at := range size {
			for i := range 256 {
				s := strings.Repeat("m", at) + one(i) + strings.Repeat("m", size-at-1)
				c := byte(i)
				is := size <= most && has(ofName, c) && (at > 0 || has(letters, c))
				fits := size <= most && has(ofPattern, c)
				if Is(s) != is || Fits(s) != fits {
					t.Errorf("%q: name %v, pattern %v; want %v, %v", s, Is(s), Fits(s), is, fits)
				}
			}
		}
	}
}

// Promise 10.2: ordinary patterns and texts.
func TestMatch(t *testing.T) {
	for _, x := range []struct {
		p    string
		yes  []string
		noes []string
	}{
		{"w*b?", []string{"weeeb1", "wb1", "wb?", "wbb", "wbbb", "wb1b2", "wbb2", "w*b?", "w\nb\x00", "wb\xff"}, []string{"web", "", "w", "b", "wb", "wa1", "Weeeb1", "wB1", "xweb1", "web12", "webb1x2"}},
		{"*", []string{"", "a", "*", "?", "web1", "a b", "\x00", "\xff\xfe", "é", " \t\n", strings.Repeat("a", 5000)}, nil},
		{"**", []string{"", "a", "ab", "**", "***"}, nil},
		{"?", []string{"a", "?", "*", " ", "\x00", "\n", "\xff", "\xc3"}, []string{"", "ab", "é", "??", "a ", "日"}},
		{"??", []string{"ab", "??", "é", "\xff\xff"}, []string{"", "a", "abc", "日"}},
		{"???", []string{"abc", "日"}, []string{"", "ab", "éé", "abcd"}},
		{"*?", []string{"a", "ab", "abc", "\xff", "*"}, []string{""}},
		{"?*", []string{"a", "ab", "abc", "\xff", "?"}, []string{""}},
		{"?*?", []string{"ab", "abc", "é"}, []string{"", "a"}},
		{"*?*?*", []string{"ab", "abc", "é"}, []string{"", "a"}},
		{"web1", []string{"web1"}, []string{"", "web", "web2", "web11", "Web1", "xweb1", "web1 ", " web1", "eb1", "web1\x00", "w*b1", "????", "*"}},
		{"web*", []string{"web", "web1", "web*", "webweb", "web\n"}, []string{"", "we", "xweb", "wep", "WEB1", "*"}},
		{"*web", []string{"web", "1web", "*web", "webweb", "wweb", "webwweb", "\nweb"}, []string{"", "eb", "webx", "we", "webwe"}},
		{"*web*", []string{"web", "xwebx", "wweb", "webb", "wewebe"}, []string{"", "we", "wxeb", "wewe"}},
		{"a*a", []string{"aa", "aba", "aaa", "a*a", "abcbaba"}, []string{"", "a", "ab", "ba", "aab"}},
		{"a*a*a", []string{"aaa", "aaaa", "abababa", "aabbaba"}, []string{"", "a", "aa", "aba", "aab", "baaa"}},
		{"*ab*ab*", []string{"abab", "xabxabx", "aababb", "ababab"}, []string{"", "ab", "aba", "aabb", "abba"}},
		{"*aab", []string{"aab", "aaab", "aaaab", "aabaab", "aaabaaab"}, []string{"", "ab", "aaba", "aabab"}},
		{"a*b*c", []string{"abc", "axbxc", "abcbc", "acbc", "abbcc", "abcc"}, []string{"", "ac", "ab", "acb", "abcb", "xabc"}},
		{"a?c*", []string{"abc", "a?c", "a*cd", "acc"}, []string{"", "ac", "abbc", "abd"}},
		{"*.b-_", []string{".b-_", "x.b-_"}, []string{"xb-_", ".b--", ".b-", "b-_"}},
		{".", []string{"."}, []string{"", "a", "..", "?"}},
		{"a.b", []string{"a.b"}, []string{"axb", "ab", "a..b"}},
		{"0*9", []string{"09", "0129", "099"}, []string{"0", "9", "90", "00"}},
		{"-", []string{"-"}, []string{"", "a", "--"}},
	} {
		for _, s := range x.yes {
			if !Match(x.p, s) {
				t.Errorf("Match(%q, %.50q) is false", x.p, s)
			}
		}
		for _, s := range x.noes {
			if Match(x.p, s) {
				t.Errorf("Match(%q, %.50q) is true", x.p, s)
			}
		}
	}
}

// Promise 10.2: what is no pattern stands for nothing, not even for itself.
func TestMatchNoPattern(t *testing.T) {
	for _, p := range []string{
		"", " ", "a b", "a/b", "\x00", "\xff", "é", "é*", "*é", "* ", " *", "*\n", "*\x00*", "[a]", "\\*", "\\a", "a\\", "+", "*+*", "*,?",
		strings.Repeat("a", most+1), strings.Repeat("*", most+1), strings.Repeat("?", most+1), "*" + strings.Repeat("a", most), strings.Repeat("*", most) + "a", strings.Repeat("*", 1<<16),
	} {
		for _, s := range []string{p, "", "a", "web1", "*", strings.Trim(p, "*"), strings.Repeat("a", most), strings.Repeat("a", most+1), strings.ReplaceAll(p, "*", "x")} {
			if Match(p, s) {
				t.Errorf("Match(%.50q, %.50q) is true", p, s)
			}
		}
	}
	for i := range 256 {
		if p := one(i); !has(ofPattern, p[0]) && (Match(p, p) || Match("*"+p, p) || Match(p+"*", p) || Match("a"+p+"*", "a"+p)) {
			t.Errorf("%q is matched as a pattern", p)
		}
	}
}

// Promise 10.2: the longest patterns, with texts of all lengths around theirs.
func TestMatchLongest(t *testing.T) {
	for size := range 2*most + 2 {
		s := strings.Repeat("a", size)
		for p, want := range map[string]bool{
			strings.Repeat("a", most):                 size == most,
			strings.Repeat("?", most):                 size == most,
			strings.Repeat("*", most):                 true,
			"*" + strings.Repeat("a", most-1):         size >= most-1,
			strings.Repeat("?", most-1) + "*":         size >= most-1,
			strings.Repeat("*?", most/2):              size >= most/2,
			strings.Repeat("a*", most/2):              size >= most/2,
			strings.Repeat("a*", most/2-1) + "ab":     false,
			"*" + strings.Repeat("a", most-2) + "b":   false,
			strings.Repeat("?", most/2) + "*?" + "*a": size >= most/2+2,
		} {
			if Match(p, s) != want {
				t.Errorf("Match(%q, %d times a) is %v", p, size, !want)
			}
		}
	}
}

// Promise 10.2: each sign stands for each byte, or for itself alone.
func TestMatchBytes(t *testing.T) {
	for i := range len(ofPattern) {
		sign := ofPattern[i]
		for j := range 256 {
			c := one(j)
			want := sign == '*' || sign == '?' || sign == c[0]
			p := one(int(sign))
			for _, x := range [][2]string{{p, c}, {"a" + p + "b", "a" + c + "b"}, {"*" + p, "xy" + c}, {p + "*", c + "xy"}, {"*x" + p + "x*", "x" + c + "x"}} {
				if Match(x[0], x[1]) != want {
					t.Errorf("Match(%q, %q) is %v", x[0], x[1], !want)
				}
			}
		}
	}
}

// standsFor is what 10.2 says, said sign by sign: of p, a pattern, and s.
func standsFor(p, s string) bool {
	if p == "" {
		return s == ""
	}
	if p[0] == '*' {
		return standsFor(p[1:], s) || s != "" && standsFor(p, s[1:])
	}
	return s != "" && (p[0] == '?' || p[0] == s[0]) && standsFor(p[1:], s[1:])
}

// Promise 10.2: all short patterns of a few signs, with all short texts.
func TestMatchAll(t *testing.T) {
	var texts []string
	each("ab*", 6, func(s string) { texts = append(texts, s) })
	each("ab*?", 5, func(p string) {
		for _, s := range texts {
			if want := p != "" && standsFor(p, s); Match(p, s) != want {
				t.Errorf("Match(%q, %q) is %v", p, s, !want)
			}
		}
	})
	texts = nil
	each("a?", 9, func(s string) { texts = append(texts, s) })
	each("a*", 8, func(p string) {
		for _, s := range texts {
			if want := p != "" && standsFor(p, s); Match(p, s) != want {
				t.Errorf("Match(%q, %q) is %v", p, s, !want)
			}
		}
	})
}

// Promises P0 and 10.2: however many stars there are, and however long the text is, the call ends soon.
func TestMatchLong(t *testing.T) {
	s := strings.Repeat("a", 1<<20)
	for _, x := range []struct {
		p           string
		plain, andB bool // Does it stand for s, and for that and b?
	}{
		{"*", true, true},
		{"*a", true, false},
		{"a*", true, true},
		{"*b", false, true},
		{"b*", false, false},
		{"a*a", true, false},
		{"a*b", false, true},
		{"*b*", false, true},
		{"?*?", true, true},
		{"a", false, false},
		{"?", false, false},
		{strings.Repeat("*a", most/2), true, false},
		{strings.Repeat("a*", most/2), true, true},
		{strings.Repeat("*a", most/2-1) + "*b", false, true},
		{strings.Repeat("*?", most/2-1) + "*b", false, true},
		{strings.Repeat("*a", most/2-1) + "bb", false, false},
		{"*" + strings.Repeat("a", most-2) + "b", false, true},
		{"*" + strings.Repeat("a", most/2) + "b*a", false, false},
		{strings.Repeat("*", most-1) + "b", false, true},
		{strings.Repeat("*", most), true, true},
		{strings.Repeat("?", most/2) + "*??", true, true},
		{"b" + strings.Repeat("*a", most/2-1), false, false},
		{strings.Repeat("*ab", most/3) + "*", false, false},
		{strings.Repeat("a*a?", most/4-1) + "*a", true, false},
	} {
		if got, gotB := Match(x.p, s), Match(x.p, s+"b"); got != x.plain || gotB != x.andB {
			t.Errorf("%q with 2^20 times a: %v, and with b behind that: %v; want %v, %v", x.p, got, gotB, x.plain, x.andB)
		}
	}
}

// Promise 10.3: the words of a text.
func TestCut(t *testing.T) {
	for s, want := range map[string][]string{
		"":                      nil,
		" ":                     nil,
		"\t":                    nil,
		" \t \t\t  ":            nil,
		"a":                     {"a"},
		"abc":                   {"abc"},
		" a  b ":                {"a", "b"},
		"a b":                   {"a", "b"},
		"a\tb":                  {"a", "b"},
		"a \t b":                {"a", "b"},
		"\ta\t":                 {"a"},
		"call web1":             {"call", "web1"},
		"tell web* back at":     {"tell", "web*", "back", "at"},
		"b a b a":               {"b", "a", "b", "a"},
		"a\nb":                  {"a\nb"},
		"a\r b\n":               {"a\r", "b\n"},
		"\n":                    {"\n"},
		" \n ":                  {"\n"},
		"a\vb\fc":               {"a\vb\fc"},
		"a\x00b \x00":           {"a\x00b", "\x00"},
		"a\u00a0b\u0085c\u2003": {"a\u00a0b\u0085c\u2003"},
		"\u3000":                {"\u3000"},
		"\xa0 \x85":             {"\xa0", "\x85"},
		"\xff\t\xfe \xc3":       {"\xff", "\xfe", "\xc3"},
		"é à":                   {"é", "à"},
		"\xe3\x80 \x80":         {"\xe3\x80", "\x80"},
		"\xa0\x20\x89\x09\x29":  {"\xa0", "\x89", "\x29"},
		" \" a\\ b\" ":          {"\"", "a\\", "b\""},
	} {
		if got := Cut(s); !slices.Equal(got, want) {
			t.Errorf("Cut(%q): %q; want %q", s, got, want)
		}
	}
}

// words are the words of s, told byte by byte.
func words(s string) []string {
	var l []string
	within := false
	for i := range len(s) {
		switch c := s[i : i+1]; {
		case c == " " || c == "\t":
			within = false
		case within:
			l[len(l)-1] += c
		default:
			l, within = append(l, c), true
		}
	}
	return l
}

// Promise 10.3: the words of all short texts, and with each byte between, ahead and behind.
func TestCutAll(t *testing.T) {
	cut := func(s string) {
		if got, want := Cut(s), words(s); !slices.Equal(got, want) {
			t.Errorf("Cut(%q): %q; want %q", s, got, want)
		}
	}
	each("ab \t\n", 6, cut)
	each("\xc2\xa0 \t", 6, cut)
	for i := range 256 {
		for j := range 256 {
			c := one(i) + one(j)
			for _, s := range []string{c, "a" + c + "b", c + " a", "a " + c} {
				cut(s)
			}
		}
	}
}

// Promise 10.3: many words, and long ones.
func TestCutMany(t *testing.T) {
	const many = 1 << 18
	if got := Cut(strings.Repeat(" x\t", many)); len(got) != many || slices.ContainsFunc(got, func(s string) bool { return s != "x" }) {
		t.Errorf("%d words; want %d", len(got), many)
	}
	long := strings.Repeat("x", many)
	if got := Cut("\t" + long + "  " + long); !slices.Equal(got, []string{long, long}) {
		t.Errorf("%d words; want 2", len(got))
	}
	if got := Cut(strings.Repeat(" \t", many)); len(got) != 0 {
		t.Errorf("%d words of blanks", len(got))
	}
}

// Promise 10.3: words with a blank between each two.
func TestJoin(t *testing.T) {
	for _, x := range []struct {
		l    []string
		want string
	}{
		{nil, ""},
		{[]string{}, ""},
		{[]string{""}, ""},
		{[]string{"a"}, "a"},
		{[]string{"a", "b"}, "a b"},
		{[]string{"a", "b", "c"}, "a b c"},
		{[]string{"b", "a", "b"}, "b a b"},
		{[]string{"", ""}, " "},
		{[]string{"", "", ""}, "  "},
		{[]string{"", "a"}, " a"},
		{[]string{"a", ""}, "a "},
		{[]string{"a", "", "b"}, "a  b"},
		{[]string{" ", "\t"}, "  \t"},
		{[]string{"a ", " b"}, "a   b"},
		{[]string{"\x00", "\xff", "\n"}, "\x00 \xff \n"},
		{[]string{strings.Repeat("x", 5000), "y"}, strings.Repeat("x", 5000) + " y"},
		{slices.Repeat([]string{"x"}, 5000), strings.Repeat("x ", 4999) + "x"},
	} {
		if got := Join(x.l...); got != x.want {
			t.Errorf("Join(%.50q): %.80q; want %.80q", x.l, got, x.want)
		}
	}
}

// Promise 10.3: words that are joined are cut as they were.
func TestJoinCut(t *testing.T) {
	each("ab \t\n", 6, func(s string) {
		l := Cut(s)
		if got := Cut(Join(l...)); !slices.Equal(got, l) {
			t.Errorf("the words of %q, joined: %q", s, got)
		}
	})
}

// Promise 10.3: texts rising, each once.
func TestSort(t *testing.T) {
	for _, x := range [][2][]string{
		{nil, nil},
		{{}, nil},
		{{""}, {""}},
		{{"", ""}, {""}},
		{{"a"}, {"a"}},
		{{"a", "a", "a"}, {"a"}},
		{{"a", "b"}, {"a", "b"}},
		{{"b", "a"}, {"a", "b"}},
		{{"b", "a", "b"}, {"a", "b"}},
		{{"a", "b", "a"}, {"a", "b"}},
		{{"c", "a", "", "b", "a", "c", ""}, {"", "a", "b", "c"}},
		// Byte by byte: not as numbers, nor as a dictionary has them.
		{{"web10", "web9", "web1"}, {"web1", "web10", "web9"}},
		{{"a", "B", "A", "b", "_", "0"}, {"0", "A", "B", "_", "a", "b"}},
		{{"a", "A"}, {"A", "a"}},
		{{"ab", "a", "abc", "b", "aa"}, {"a", "aa", "ab", "abc", "b"}},
		{{"a-", "a", "a b", "a\x00"}, {"a", "a\x00", "a b", "a-"}},
		{{"\xff", "é", "z", "\x00", "\x80", "日", "\U0001f600", "\uffff"}, {"\x00", "z", "\x80", "é", "日", "\uffff", "\U0001f600", "\xff"}},
		{{"\xfe", "\xff", "\xfe\xff", "\xff\xfe"}, {"\xfe", "\xfe\xff", "\xff", "\xff\xfe"}},
		{{"a ", "a", " a"}, {" a", "a", "a "}},
	} {
		if got := Sort(x[0]...); !slices.Equal(got, x[1]) {
			t.Errorf("Sort(%q): %q; want %q", x[0], got, x[1])
		}
	}
}

// rows goes through all lists of up to so many of these texts.
func rows(texts []string, n int, do func(l []string)) {
	signs := ""
	for i := range len(texts) {
		signs += one(i)
	}
	each(signs, n, func(s string) {
		var l []string
		for i := range len(s) {
			l = append(l, texts[s[i]])
		}
		do(l)
	})
}

// Promise 10.3: all short lists of a few texts: what is told rises, and is just what is there.
func TestSortAll(t *testing.T) {
	rows([]string{"", "a", "b", "ab", "\xff", "B"}, 6, func(l []string) {
		got := Sort(l...)
		for i := 1; i < len(got); i++ {
			if got[i-1] >= got[i] {
				t.Errorf("Sort(%q): %q", l, got)
			}
		}
		for _, s := range l {
			if !slices.Contains(got, s) {
				t.Errorf("Sort(%q): %q", l, got)
			}
		}
		for _, s := range got {
			if !slices.Contains(l, s) {
				t.Errorf("Sort(%q): %q", l, got)
			}
		}
	})
}

// Promise 10.3: all short lists of a few texts, joined.
func TestJoinAll(t *testing.T) {
	rows([]string{"", "a", " ", "bc"}, 5, func(l []string) {
		want := ""
		for i, s := range l {
			if i > 0 {
				want += " "
			}
			want += s
		}
		if got := Join(l...); got != want {
			t.Errorf("Join(%q): %q; want %q", l, got, want)
		}
	})
}

// Promise 10.3: many texts.
func TestSortMany(t *testing.T) {
	const many = 1 << 16
	var l, want []string
	for i := range many {
		// 40503 has no divisor that 2^16 has: so each number comes, none in its place.
		n := i * 40503 % many
		s := one(n>>8) + one(n)
		l, want = append(l, s, s), append(want, one(i>>8)+one(i))
	}
	if got := Sort(l...); !slices.Equal(got, want) {
		t.Errorf("%d texts; want %d, rising", len(got), len(want))
	}
}

// Rule R3: a list that is handed in stays as it was, also behind its length; what is answered is new.
func TestListsStay(t *testing.T) {
	rows([]string{"", "b", "a", "c"}, 4, func(l []string) {
		whole := append(slices.Clone(l), "x", "b", "a")
		was := slices.Clone(whole)
		list := whole[:len(l)]
		joined, sorted := Join(list...), Sort(list...)
		if !slices.Equal(whole, was) {
			t.Errorf("%q is %q now", was, whole)
		}
		again := slices.Clone(sorted)
		for i := range sorted[:cap(sorted)] {
			sorted[:cap(sorted)][i] = "turned"
		}
		if !slices.Equal(whole, was) {
			t.Errorf("%q is %q, once what was answered is written to", was, whole)
		}
		if got := Sort(list...); !slices.Equal(got, again) || Join(list...) != joined {
			t.Errorf("%q: %q, then %q", l, again, got)
		}
	})
	first := Cut("a b c")
	for i := range first {
		first[i] = "turned"
	}
	if got := Cut("a b c"); !slices.Equal(got, []string{"a", "b", "c"}) {
		t.Errorf("%q", got)
	}
}

// Promise 10.4: a name is a pattern that stands for itself alone.
func TestNameAlone(t *testing.T) {
	for _, name := range []string{"a", "Z", "web1", "a.b", "a-b_c", "aa", "aaa", "x...", strings.Repeat("n", most), "N" + strings.Repeat("9", most-1)} {
		if !Is(name) || !Fits(name) || !Match(name, name) {
			t.Errorf("%q: name %v, pattern %v, stands for itself %v", name, Is(name), Fits(name), Match(name, name))
		}
		for _, s := range []string{"", "*", "?", strings.ToUpper(name) + "a", name + name, name + "\n", name + " ", " " + name} {
			if Match(name, s) {
				t.Errorf("Match(%q, %q) is true", name, s)
			}
		}
		for at := range len(name) {
			if s := name[:at] + name[at+1:]; Match(name, s) {
				t.Errorf("Match(%q, %q) is true", name, s)
			}
			for i := range 256 {
				if s := name[:at] + one(i) + name[at:]; Match(name, s) {
					t.Errorf("Match(%q, %q) is true", name, s)
				}
				if s := name[:at] + one(i) + name[at+1:]; s != name && Match(name, s) {
					t.Errorf("Match(%q, %q) is true", name, s)
				}
			}
		}
	}
	var names []string
	each("aB0.", 4, func(s string) {
		if Is(s) {
			names = append(names, s)
		}
	})
	for _, p := range names {
		for _, s := range names {
			if Match(p, s) != (p == s) {
				t.Errorf("Match(%q, %q) is %v", p, s, p != s)
			}
		}
	}
}

// Promise 10.4: with a star more, wherever it stands, a pattern stands for all that it stood for, and for that with any bytes in the star's place.
func TestStarMore(t *testing.T) {
	var texts []string
	each("ab", 5, func(s string) { texts = append(texts, s) })
	each("ab*?", 4, func(p string) {
		if p == "" {
			return
		}
		for at := range len(p) + 1 {
			more := p[:at] + "*" + p[at:]
			for _, s := range texts {
				if Match(p, s) && !Match(more, s) {
					t.Errorf("%q stands for %q, %q doesn't", p, s, more)
				}
			}
			for _, between := range []string{"", "x", "ab", "\xff\x00", "*"} {
				s := strings.ReplaceAll(strings.ReplaceAll(p[:at], "*", "y"), "?", "z") + between + strings.ReplaceAll(strings.ReplaceAll(p[at:], "*", ""), "?", "b")
				if !Match(more, s) {
					t.Errorf("%q doesn't stand for %q", more, s)
				}
			}
		}
	})
	for at := range most {
		p := strings.Repeat("a", at) + "*" + strings.Repeat("a", most-1-at)
		if s := strings.Repeat("a", at) + "b" + strings.Repeat("a", most-1-at); !Match(p, s) || !Match(p, strings.Repeat("a", most-1)) {
			t.Errorf("%q doesn't stand for %q, or not for that without b", p, s)
		}
	}
}

// Promises 10.1 and 10.2, of patterns and texts that come as they like.
func FuzzMatch(f *testing.F) {
	for _, x := range [][2]string{{"w*b?", "weeeb1"}, {"w*b?", "web"}, {"*", ""}, {"", ""}, {"a*a*a", "aa"}, {"?", "\xff"}, {"a b", "a b"}, {"*a*b*", "xxaxxbxx"}} {
		f.Add(x[0], x[1])
	}
	f.Fuzz(func(t *testing.T, p, s string) {
		fits := p != "" && len(p) <= most
		for i := range len(p) {
			fits = fits && has(ofPattern, p[i])
		}
		if Fits(p) != fits {
			t.Errorf("Fits(%q) is %v", p, !fits)
		}
		if is := fits && has(letters, p[0]) && !strings.ContainsAny(p, "*?"); Is(p) != is {
			t.Errorf("Is(%q) is %v", p, !is)
		}
		// The plain telling takes long where there are many stars, and the text is long.
		if strings.Count(p, "*") > 4 || len(s) > 40 {
			return
		}
		if want := fits && standsFor(p, s); Match(p, s) != want {
			t.Errorf("Match(%q, %q) is %v", p, s, !want)
		}
	})
}

package rights

import (
	"fmt"
	"math"
	"math/rand"
	"regexp"
	"slices"
	"strings"
	"testing"

	"wheelhouse/api"
	"wheelhouse/conf"
)

const (
	mostName = 32
	mostMany = 4096
)

// times is a text so many times.
func times(n int, s string) string { return strings.Repeat(s, n) }

// consoles are consoles of these names.
func consoles(names ...string) []api.Console {
	var l []api.Console
	for _, s := range names {
		l = append(l, api.Console{Name: s})
	}
	return l
}

// access is what users that fit a pattern may do with consoles that fit one.
func access(console, user string, level int) api.Access {
	return api.Access{Console: console, User: user, Level: level}
}

// group is a group of patterns.
func group(called string, pats ...string) api.Group { return api.Group{Name: called, Pats: pats} }

// loaded is the configuration of a text.
func loaded(t *testing.T, s string) api.Conf {
	t.Helper()
	c, err := conf.Load(s)
	if err != nil {
		t.Fatalf("%q: %v", s, err)
	}
	return c
}

// isLevel: Level tells this, and May just that, or less.
func isLevel(t *testing.T, c api.Conf, user, console string, want int) {
	t.Helper()
	if got := Level(c, user, console); got != want {
		t.Errorf("Level(%+v, %.50q, %.50q): %d; want %d", c.Access, user, console, got, want)
	}
	for _, need := range []int{math.MinInt, -1 << 40, -2, -1, 0, 1, 2, 3, 4, 1 << 40, math.MaxInt, want - 1, want, want + 1} {
		if got := May(c, user, console, need); got != (want >= need) {
			t.Errorf("May(%+v, %.50q, %.50q, %d): %v, of the level %d", c.Access, user, console, need, got, want)
		}
	}
}

// isList: these are the places that are to be told.
func isList(t *testing.T, what string, got, want []int) {
	t.Helper()
	if !slices.Equal(got, want) {
		t.Errorf("%s: %v; want %v", what, got, want)
	}
}

// isPicked: Pick tells this place, with OK.
func isPicked(t *testing.T, c api.Conf, user, name string, want int) {
	t.Helper()
	if i, code := Pick(c, user, name); i != want || code != api.OK {
		t.Errorf("Pick(%+v, %q, %.50q): %d, %d; want %d, OK", c, user, name, i, code, want)
	}
}

// isNotPicked: Pick tells this code, and no place.
func isNotPicked(t *testing.T, c api.Conf, user, name string, want api.Code) {
	t.Helper()
	if i, code := Pick(c, user, name); i != -1 || code != want {
		t.Errorf("Pick(%+v, %q, %.50q): %d, %d; want -1, %d", c, user, name, i, code, want)
	}
}

// Promise 16.1: the chapter's example, and an ordinary configuration.
func TestLevel(t *testing.T) {
	c := loaded(t, "console web1 {} console db {} console web2 {} user ann x; access db ann none; access * ann hand;")
	isLevel(t, c, "ann", "db", 0)
	isLevel(t, c, "ann", "web1", 2)
	isLevel(t, c, "ann", "web2", 2)
	isLevel(t, c, "bob", "web1", 0)
	isList(t, "ann sees", Sees(c, "ann"), []int{0, 2})
	isList(t, "bob sees", Sees(c, "bob"), nil)

	c = loaded(t, "console web1 {} console web2 {} console db1 {} console db2 {} access db2 b* none; access db? bob chief; access web1 bob look; access web* ann hand; access * eve look; access web? b* hand; access * root chief;")
	for _, x := range []struct {
		user   string
		levels []int
		sees   []int
	}{
		{"bob", []int{1, 2, 3, 0}, []int{0, 1, 2}},
		{"bert", []int{2, 2, 0, 0}, []int{0, 1}},
		{"ann", []int{2, 2, 0, 0}, []int{0, 1}},
		{"eve", []int{1, 1, 1, 1}, []int{0, 1, 2, 3}},
		{"root", []int{3, 3, 3, 3}, []int{0, 1, 2, 3}},
		{"Root", []int{0, 0, 0, 0}, nil},
		{"roo", []int{0, 0, 0, 0}, nil},
		{"roott", []int{0, 0, 0, 0}, nil},
		{"", []int{0, 0, 0, 0}, nil},
		{"*", []int{0, 0, 0, 0}, nil},
	} {
		for i, want := range x.levels {
			isLevel(t, c, x.user, c.Consoles[i].Name, want)
		}
		isList(t, x.user+" sees", Sees(c, x.user), x.sees)
	}
}

// Promise 16.1: whatever the levels, the first access that fits counts, neither the lowest nor the highest, nor that of the longest pattern.
func TestLevelFirst(t *testing.T) {
	fits := []struct{ console, user string }{{"*", "*"}, {"web1", "ann"}, {"w*", "ann"}, {"web1", "*n"}, {"????", "???"}}
	for _, a := range fits {
		for _, b := range fits {
			for first := range 4 {
				for second := range 4 {
					l := []api.Access{access(a.console, a.user, first), access(b.console, b.user, second)}
					isLevel(t, api.Conf{Access: l}, "ann", "web1", first)
					// What fits the one alone, or the other, does not count.
					for _, x := range []api.Access{access("web1", "bob", 3-first), access("web2", "ann", 3-first), access("web2", "bob", 3-first), access("ann", "web1", 3-first)} {
						isLevel(t, api.Conf{Access: append([]api.Access{x}, l...)}, "ann", "web1", first)
						isLevel(t, api.Conf{Access: []api.Access{x, l[1], x, l[0]}}, "ann", "web1", second)
						isLevel(t, api.Conf{Access: []api.Access{x}}, "ann", "web1", 0)
					}
				}
			}
		}
	}
}

// Promise 16.1: neither the console nor the user need be of the configuration; nor does it matter what else they are.
func TestLevelNames(t *testing.T) {
	c := api.Conf{Access: []api.Access{access("*", "*", 2)}}
	for _, user := range []string{"", "ann", "*", "a b", "\x00\xff", times(mostName+1, "a"), times(5000, "é")} {
		for _, console := range []string{"", "web1", "?", "\n", "\xff", times(mostName+1, "w"), times(5000, "ß")} {
			isLevel(t, c, user, console, 2)
			isLevel(t, api.Conf{}, user, console, 0)
			isLevel(t, api.Conf{Consoles: consoles(console), Users: []api.User{{Name: user}}}, user, console, 0)
		}
	}
	c = api.Conf{Access: []api.Access{access("a", "b", 1), access("A", "B", 2), access("*", "?", 3)}}
	isLevel(t, c, "b", "a", 1)
	isLevel(t, c, "B", "A", 2)
	isLevel(t, c, "b", "A", 3)
	isLevel(t, c, "B", "a", 3)
	isLevel(t, c, "a", "b", 3)
	isLevel(t, c, "\xff", "", 3)
	isLevel(t, c, "", "a", 0)
	isLevel(t, c, "bb", "a", 0)
	isLevel(t, c, "é", "a", 0) // Of two bytes, for which no single ? stands.
}

// Promise 16.1: what is no pattern fits nobody, not even who is called so.
func TestLevelPatterns(t *testing.T) {
	for _, s := range []string{"", " ", "a b", "a/b", "[ab]", "é", "\xff", "\x00", "a\n", times(mostName+1, "a"), times(mostName+1, "*")} {
		for _, x := range []api.Access{access(s, "*", 3), access("*", s, 3), access(s, s, 3), access(s, "bob", 3), access("web1", s, 3)} {
			for _, name := range []string{s, "bob", "web1", "a", ""} {
				isLevel(t, api.Conf{Access: []api.Access{x}}, name, s, 0)
				isLevel(t, api.Conf{Access: []api.Access{x}}, s, name, 0)
				isLevel(t, api.Conf{Access: []api.Access{x, access("*", "*", 2)}}, name, s, 2)
			}
			isLevel(t, api.Conf{Access: []api.Access{x}}, "bob", "web1", 0)
		}
	}
	long := times(mostName, "n")
	isLevel(t, api.Conf{Access: []api.Access{access(long, long, 3)}}, long, long, 3)
	isLevel(t, api.Conf{Access: []api.Access{access(long, long, 3)}}, long, long+"n", 0)
	isLevel(t, api.Conf{Access: []api.Access{access(long, long, 3)}}, long+"n", long, 0)
}

// Promise 16.1: a level is told as it stands, also one that is none; all of LevelLook or more see.
func TestLevelAsItIs(t *testing.T) {
	for _, level := range []int{math.MinInt, -5, -1, 0, 1, 2, 3, 4, 5, 100, 1 << 40, math.MaxInt} {
		c := api.Conf{Consoles: consoles("db", "web1", "web2"), Access: []api.Access{access("web*", "ann", level)}}
		isLevel(t, c, "ann", "web1", level)
		isLevel(t, c, "ann", "db", 0)
		if level >= 1 {
			isList(t, "sees", Sees(c, "ann"), []int{1, 2})
			isPicked(t, c, "ann", "web2", 2)
		} else {
			isList(t, "sees", Sees(c, "ann"), nil)
			isNotPicked(t, c, "ann", "web2", api.ErrDenied)
		}
	}
}

// Promise 16.1: consoles of one name are each seen, or none of them is; nothing is seen where there are none.
func TestSees(t *testing.T) {
	c := api.Conf{Consoles: consoles("a", "b", "a", "", "b", "a"), Access: []api.Access{access("b", "ann", 0), access("*", "ann", 1), access("b", "*", 2), access("?", "eve", 3)}}
	isList(t, "ann", Sees(c, "ann"), []int{0, 2, 3, 5})
	isList(t, "bob", Sees(c, "bob"), []int{1, 4})
	isList(t, "eve", Sees(c, "eve"), []int{0, 1, 2, 4, 5})
	c.Consoles = nil
	isList(t, "no consoles", Sees(c, "ann"), nil)
	isList(t, "nothing", Sees(api.Conf{}, ""), nil)
	isList(t, "no access", Sees(api.Conf{Consoles: consoles("a", "")}, ""), nil)
}

// Promise 16.2: a name and its password, and either of them wrong.
func TestEnter(t *testing.T) {
	c := loaded(t, "user ann secret; user bob x; user Ann other; access * * chief;")
	for _, x := range []struct {
		user, pass string
		want       api.Code
	}{
		{"ann", "secret", api.OK}, {"bob", "x", api.OK}, {"Ann", "other", api.OK},
		{"ann", "x", api.ErrDenied}, {"ann", "other", api.ErrDenied}, {"ann", "", api.ErrDenied}, {"ann", "ann", api.ErrDenied}, {"ann", "secre", api.ErrDenied}, {"ann", "secrets", api.ErrDenied}, {"ann", "Secret", api.ErrDenied}, {"ann", "secret ", api.ErrDenied}, {"ann", " secret", api.ErrDenied}, {"ann", "secret\x00", api.ErrDenied}, {"ann", "*", api.ErrDenied}, {"ann", "??????", api.ErrDenied}, {"bob", "X", api.ErrDenied}, {"bob", "secret", api.ErrDenied}, {"Ann", "secret", api.ErrDenied},
		{"eve", "x", api.ErrNone}, {"an", "secret", api.ErrNone}, {"annn", "secret", api.ErrNone}, {"", "", api.ErrNone}, {"", "x", api.ErrNone}, {"*", "x", api.ErrNone}, {"???", "x", api.ErrNone}, {"b*", "x", api.ErrNone}, {"BOB", "x", api.ErrNone}, {"bob ", "x", api.ErrNone}, {"secret", "ann", api.ErrNone}, {"x", "bob", api.ErrNone},
	} {
		if got := Enter(c, x.user, x.pass); got != x.want {
			t.Errorf("Enter(%q, %q): %d; want %d", x.user, x.pass, got, x.want)
		}
	}
	if got := Enter(api.Conf{}, "", ""); got != api.ErrNone {
		t.Errorf("Enter of no users: %d", got)
	}
}

// Promise 16.2: of several users of a name the first one counts; a name and a password are held as they stand, whatever they are.
func TestEnterFirst(t *testing.T) {
	c := api.Conf{Users: []api.User{{Name: "bob", Pass: "1"}, {Name: "ann", Pass: "1"}, {Name: "bob", Pass: "2"}, {Name: "bob", Pass: "1"}, {Name: "ann", Pass: "2"}, {Name: "eve"}, {Name: "*", Pass: "?"}, {Name: "", Pass: "\xff"}, {Name: "a b", Pass: times(5000, "p")}}}
	for _, x := range []struct {
		user, pass string
		want       api.Code
	}{
		{"bob", "1", api.OK}, {"bob", "2", api.ErrDenied}, {"ann", "1", api.OK}, {"ann", "2", api.ErrDenied},
		{"eve", "", api.OK}, {"eve", "\x00", api.ErrDenied}, {"*", "?", api.OK}, {"*", "1", api.ErrDenied}, {"", "\xff", api.OK}, {"", "", api.ErrDenied},
		{"a b", times(5000, "p"), api.OK}, {"a b", times(4999, "p"), api.ErrDenied}, {"a", "p", api.ErrNone},
	} {
		if got := Enter(c, x.user, x.pass); got != x.want {
			t.Errorf("Enter(%q, %.20q): %d; want %d", x.user, x.pass, got, x.want)
		}
	}
}

// Promise 16.3: the consoles that fit a pattern, whoever may see them.
func TestFit(t *testing.T) {
	c := api.Conf{Consoles: consoles("web1", "db", "web2", "w", "web1", "", "Web1", "a b", times(mostName+1, "w"))}
	for _, x := range []struct {
		pattern string
		want    []int
	}{
		{"web1", []int{0, 4}}, {"web?", []int{0, 2, 4}}, {"w*", []int{0, 2, 3, 4, 8}}, {"*", []int{0, 1, 2, 3, 4, 5, 6, 7, 8}}, {"?", []int{3}}, {"?*", []int{0, 1, 2, 3, 4, 6, 7, 8}}, {"*b*", []int{0, 1, 2, 4, 6, 7}}, {"?eb1", []int{0, 4, 6}}, {"db", []int{1}}, {"a?b", []int{7}}, {"**", []int{0, 1, 2, 3, 4, 5, 6, 7, 8}},
		{"web", nil}, {"b", nil}, {"WEB1", nil}, {"web11", nil}, {"d", nil}, {"-", nil}, {"????????", nil},
		// What is no pattern fits nothing, not even what is called so.
		{"", nil}, {"a b", nil}, {" ", nil}, {"web1 ", nil}, {times(mostName+1, "w"), nil}, {times(mostName+1, "*"), nil}, {"\xff", nil}, {"[w]", nil},
		{times(mostName, "?"), nil}, {"?" + times(mostName-1, "*"), []int{0, 1, 2, 3, 4, 6, 7, 8}},
	} {
		isList(t, "Fit of "+x.pattern, Fit(c, x.pattern), x.want)
		isList(t, "Fit of nothing", Fit(api.Conf{}, x.pattern), nil)
	}
}

// Promise 16.3: the consoles of a group, each once, whichever of its patterns they fit.
func TestGroup(t *testing.T) {
	c := api.Conf{
		Consoles: consoles("web1", "db", "web2", "w", "web1", "", "a b"),
		Groups: []api.Group{
			group("web", "web2", "w*1", "web?"), group("all", "*"), group("none", "x", "y*"), group("web", "db"), group("nil"), group("wrong", "", "a b", "/", times(mostName+1, "*")), group("some", "a b", "d?", "", "?"), group("none", "*"), group("", "db", "db"), group("*", "web2"), group("one", "?eb1"),
		},
	}
	for _, x := range []struct {
		name string
		want []int
	}{
		{"web", []int{0, 2, 4}}, {"all", []int{0, 1, 2, 3, 4, 5, 6}}, {"none", nil}, {"nil", nil}, {"wrong", nil}, {"some", []int{1, 3}}, {"", []int{1}}, {"*", []int{2}}, {"one", []int{0, 4}},
	} {
		l, code := Group(c, x.name)
		isList(t, "Group of "+x.name, l, x.want)
		if code != api.OK {
			t.Errorf("Group of %q: %d", x.name, code)
		}
	}
	for _, name := range []string{"web1", "we", "webb", "WEB", "al?", "web*", "db", " ", "x", "?", "a b"} {
		if l, code := Group(c, name); len(l) > 0 || code != api.ErrNone {
			t.Errorf("Group of %q: %v, %d; want ErrNone", name, l, code)
		}
	}
	if l, code := Group(api.Conf{Consoles: c.Consoles}, ""); len(l) > 0 || code != api.ErrNone {
		t.Errorf("Group where there is none: %v, %d", l, code)
	}
	if l, code := Group(api.Conf{Groups: c.Groups}, "all"); len(l) > 0 || code != api.OK {
		t.Errorf("Group where there are no consoles: %v, %d", l, code)
	}
}

// Promise 16.4: a name, and what a name begins with.
func TestPick(t *testing.T) {
	c := loaded(t, "console web1 {} console web2 {} console db {} console mail {} console dbx {} console mailbox {} access db ann none; access mail* bob look; access * ann hand; access db b* chief;")
	isPicked(t, c, "ann", "web1", 0)
	isPicked(t, c, "ann", "web2", 1)
	isNotPicked(t, c, "ann", "web", api.ErrTwice)
	isNotPicked(t, c, "ann", "w", api.ErrTwice)
	isPicked(t, c, "ann", "mail", 3)
	isPicked(t, c, "ann", "mailb", 5)
	isPicked(t, c, "ann", "mailbox", 5)
	isNotPicked(t, c, "ann", "m", api.ErrTwice)
	isNotPicked(t, c, "ann", "mai", api.ErrTwice)
	// Who does not see db may mean the only other one that begins so.
	isPicked(t, c, "ann", "db", 4)
	isPicked(t, c, "ann", "d", 4)
	isPicked(t, c, "ann", "dbx", 4)
	isPicked(t, c, "bob", "db", 2)
	isPicked(t, c, "bob", "d", 2)
	isNotPicked(t, c, "bob", "dbx", api.ErrDenied)
	isNotPicked(t, c, "bob", "web1", api.ErrDenied)
	isNotPicked(t, c, "bob", "web", api.ErrNone)
	isNotPicked(t, c, "bob", "w", api.ErrNone)
	isPicked(t, c, "bert", "d", 2)
	isNotPicked(t, c, "bert", "mail", api.ErrDenied)
	isNotPicked(t, c, "bert", "mai", api.ErrNone)
	for _, name := range []string{"", "x", "eb1", "web11", "web3", "Web1", "W", "*", "w*", "web?", "?", "web1 ", " web1", "\x00", "w\x00", "dbxx", "mailboxes", times(5000, "w")} {
		isNotPicked(t, c, "ann", name, api.ErrNone)
		isNotPicked(t, c, "eve", name, api.ErrNone)
		isNotPicked(t, c, "", name, api.ErrNone)
		isNotPicked(t, api.Conf{}, "ann", name, api.ErrNone)
	}
	isNotPicked(t, c, "eve", "db", api.ErrDenied)
	isNotPicked(t, c, "eve", "mail", api.ErrDenied)
	isNotPicked(t, c, "eve", "ma", api.ErrNone)
}

// Promise 16.4: names each of which begins with the one ahead, of which each some are seen, in each order.
func TestPickBegun(t *testing.T) {
	names := []string{"a", "ab", "abc", "abd"}
	for _, order := range [][]int{{0, 1, 2, 3}, {3, 2, 1, 0}, {2, 0, 3, 1}, {1, 3, 0, 2}} {
		place := make([]int, 4)
		var c api.Conf
		for i, n := range order {
			place[n] = i
			c.Consoles = append(c.Consoles, api.Console{Name: names[n]})
		}
		for seen := range 16 {
			c.Access = nil
			for n, name := range names {
				c.Access = append(c.Access, access(name, "ann", seen>>n&1))
			}
			for n, name := range names {
				if seen>>n&1 == 1 {
					isPicked(t, c, "ann", name, place[n])
				}
			}
			// Which one is meant, if the one of that name is not seen.
			for n, behind := range map[int][]int{0: {1, 2, 3}, 1: {2, 3}, 2: nil, 3: nil} {
				if seen>>n&1 == 1 {
					continue
				}
				begun := slices.DeleteFunc(behind, func(k int) bool { return seen>>k&1 == 0 })
				switch len(begun) {
				case 0:
					isNotPicked(t, c, "ann", names[n], api.ErrDenied)
				case 1:
					isPicked(t, c, "ann", names[n], place[begun[0]])
				default:
					isNotPicked(t, c, "ann", names[n], api.ErrTwice)
				}
			}
			for _, name := range []string{"", "b", "c", "abcd", "ac", "aa", "A"} {
				isNotPicked(t, c, "ann", name, api.ErrNone)
			}
		}
	}
}

// Promise 16.4: consoles of one name, and names that no configuration's text has.
func TestPickOdd(t *testing.T) {
	all := []api.Access{access("*", "ann", 1)}
	c := api.Conf{Consoles: consoles("web", "a", "web", "a", "", "é", "w*", ""), Access: all}
	isPicked(t, c, "ann", "a", 1)
	isPicked(t, c, "ann", "web", 0)
	isNotPicked(t, c, "ann", "we", api.ErrTwice) // Of one name, but two.
	isNotPicked(t, c, "ann", "w", api.ErrTwice)
	isPicked(t, c, "ann", "w*", 6)
	isPicked(t, c, "ann", "", 4)
	isPicked(t, c, "ann", "é", 5)
	isPicked(t, c, "ann", "\xc3", 5)
	isNotPicked(t, c, "bob", "", api.ErrDenied)
	isNotPicked(t, c, "bob", "a", api.ErrDenied)
	isNotPicked(t, c, "bob", "\xc3", api.ErrNone)
	// Nothing is meant by an empty name but what is called so.
	isNotPicked(t, api.Conf{Consoles: consoles("web"), Access: all}, "ann", "", api.ErrNone)
	isNotPicked(t, api.Conf{Consoles: consoles("web", "a"), Access: all}, "ann", "", api.ErrNone)
	isPicked(t, api.Conf{Consoles: consoles("web", ""), Access: all}, "ann", "", 1)
	// An empty name that is not seen: the others do not begin with it.
	some := []api.Access{access("?*", "ann", 1)}
	isNotPicked(t, api.Conf{Consoles: consoles("web", ""), Access: some}, "ann", "", api.ErrDenied)
	isNotPicked(t, api.Conf{Consoles: consoles("", "web", "a"), Access: some}, "ann", "", api.ErrDenied)
	isPicked(t, api.Conf{Consoles: consoles("", "web", "a"), Access: some}, "ann", "w", 1)
	long := times(5000, "w")
	c = api.Conf{Consoles: consoles(long+"1", long, long+"2"), Access: all}
	isPicked(t, c, "ann", long, 1)
	isPicked(t, c, "ann", long+"2", 2)
	isNotPicked(t, c, "ann", long[1:], api.ErrTwice)
	isNotPicked(t, c, "ann", long+"3", api.ErrNone)
}

// isPattern is what a pattern is.
var isPattern = regexp.MustCompile(`^[-A-Za-z0-9_.*?]{1,32}\z`)

// said are patterns, said as patterns of another kind.
var said = map[string]*regexp.Regexp{}

// standsFor: does a pattern stand for a text?
func standsFor(pattern, s string) bool {
	if !isPattern.MatchString(pattern) {
		return false
	}
	if len(said) > 1000 {
		clear(said)
	}
	if said[pattern] == nil {
		said[pattern] = regexp.MustCompile(`(?s)^` + strings.NewReplacer(".", `\.`, "*", ".*", "?", ".").Replace(pattern) + `\z`)
	}
	return said[pattern].MatchString(signs(s))
}

// signs is a text with a sign for each of its bytes.
func signs(s string) string {
	var l []rune
	for i := range len(s) {
		l = append(l, rune(s[i]))
	}
	return string(l)
}

// plainLevel is a level, found from the last access on.
func plainLevel(c api.Conf, user, console string) int {
	level := 0
	for i := len(c.Access) - 1; i >= 0; i-- {
		if a := c.Access[i]; standsFor(a.User, user) && standsFor(a.Console, console) {
			level = a.Level
		}
	}
	return level
}

// plainPick is what Pick is to tell, and how it comes to that.
func plainPick(c api.Conf, user, name string) (int, api.Code, string) {
	var has, seen, begun []int
	for i, x := range c.Consoles {
		sees := plainLevel(c, user, x.Name) > 0
		if x.Name == name {
			has = append(has, i)
			if sees {
				seen = append(seen, i)
			}
		} else if name != "" && strings.HasPrefix(x.Name, name) && sees {
			begun = append(begun, i)
		}
	}
	switch {
	case len(seen) > 0:
		return seen[0], api.OK, "seen"
	case len(begun) == 1 && len(has) > 0:
		return begun[0], api.OK, "another"
	case len(begun) == 1:
		return begun[0], api.OK, "begun"
	case len(begun) > 1:
		return -1, api.ErrTwice, "several"
	case len(has) > 0:
		return -1, api.ErrDenied, "denied"
	}
	return -1, api.ErrNone, "none"
}

// plainEnter is what Enter is to tell.
func plainEnter(c api.Conf, user, pass string) api.Code {
	code := api.ErrNone
	for i := len(c.Users) - 1; i >= 0; i-- {
		if c.Users[i].Name == user {
			code = api.ErrDenied
			if c.Users[i].Pass == pass {
				code = api.OK
			}
		}
	}
	return code
}

// asPlainly: all calls tell of a user, a name and a pattern what the plain ones tell. How Pick comes to what it tells is answered.
func asPlainly(t *testing.T, c api.Conf, user, name, other string) string {
	t.Helper()
	var sees, fit, of []int
	has := slices.IndexFunc(c.Groups, func(g api.Group) bool { return g.Name == name })
	for i, x := range c.Consoles {
		if plainLevel(c, user, x.Name) > 0 {
			sees = append(sees, i)
		}
		if standsFor(other, x.Name) {
			fit = append(fit, i)
		}
		if has >= 0 && slices.ContainsFunc(c.Groups[has].Pats, func(p string) bool { return standsFor(p, x.Name) }) {
			of = append(of, i)
		}
	}
	what := fmt.Sprintf("%+v: %q, %q, %q", c, user, name, other)
	isLevel(t, c, user, name, plainLevel(c, user, name))
	isList(t, "Sees: "+what, Sees(c, user), sees)
	isList(t, "Fit: "+what, Fit(c, other), fit)
	l, code := Group(c, name)
	isList(t, "Group: "+what, l, of)
	if (code == api.OK) != (has >= 0) || (code == api.ErrNone) != (has < 0) {
		t.Errorf("Group: %s: %d", what, code)
	}
	if got, want := Enter(c, user, other), plainEnter(c, user, other); got != want {
		t.Errorf("Enter: %s: %d; want %d", what, got, want)
	}
	i, code := Pick(c, user, name)
	place, want, how := plainPick(c, user, name)
	if i != place || code != want {
		t.Errorf("Pick: %s: %d, %d; want %d, %d", what, i, code, place, want)
	}
	// Promise 16.5: nobody picks what they do not see.
	if code == api.OK && (!slices.Contains(sees, i) || !May(c, user, c.Consoles[i].Name, api.LevelLook)) {
		t.Errorf("Pick: %s: %d is not seen", what, i)
	}
	return how
}

// chooser makes what comes by chance; if it is near, names that are much alike.
type chooser struct {
	*rand.Rand
	near bool
}

// chance is a chooser, of each two one that is near.
func chance(seed int) chooser {
	return chooser{rand.New(rand.NewSource(int64(seed))), seed%2 == 0}
}

func (x chooser) of(l ...string) string { return l[x.Intn(len(l))] }

func (x chooser) name() string {
	if x.near {
		return x.of("a", "ab", "aba", "abb")
	}
	return x.of("a", "b", "ab", "ba", "aba", "abb", "abab", "B", "", "a*", "é", "\xff", "a b", times(mostName, "a"), times(mostName+1, "a"))
}

func (x chooser) pattern() string {
	if x.near {
		return x.of("*", "a*", "a", "ab", "ab?", "???")
	}
	return x.of("*", "*", "?", "a*", "*b", "a?", "??", "*a*", "a", "b", "ab", "ba", "?b*", "A", "", "é", "a b", times(mostName, "?"), times(mostName, "a"), times(mostName+1, "*"))
}

func (x chooser) conf() api.Conf {
	var c api.Conf
	for range x.Intn(6) {
		c.Consoles = append(c.Consoles, api.Console{Name: x.name()})
	}
	for range x.Intn(4) {
		g := group(x.name())
		for range x.Intn(4) {
			g.Pats = append(g.Pats, x.pattern())
		}
		c.Groups = append(c.Groups, g)
	}
	for range x.Intn(5) {
		c.Users = append(c.Users, api.User{Name: x.name(), Pass: x.pattern()})
	}
	for range x.Intn(6) {
		c.Access = append(c.Access, access(x.pattern(), x.pattern(), x.Intn(6)-1))
	}
	return c
}

// Promises 16.1 to 16.5: configurations by chance.
func TestChance(t *testing.T) {
	hows := map[string]int{}
	for seed := range 12000 {
		x := chance(seed)
		hows[asPlainly(t, x.conf(), x.name(), x.name(), x.pattern())]++
	}
	for _, how := range []string{"seen", "another", "begun", "several", "denied", "none"} {
		if hows[how] < 20 {
			t.Errorf("%q was told %d times: the test asks for too little", how, hows[how])
		}
	}
}

// Promise 16.5: whatever stands behind an access that fits turns nothing; what stands ahead of it and does not fit, neither.
func TestBehind(t *testing.T) {
	for seed := range 3000 {
		x := chance(seed)
		user, console := x.name(), x.name()
		ahead := slices.DeleteFunc(x.conf().Access, func(a api.Access) bool { return standsFor(a.User, user) && standsFor(a.Console, console) })
		fits := access("*", "*", x.Intn(4))
		names := consoles("b", console, "ab")
		c := api.Conf{Consoles: names, Access: append(slices.Clone(ahead), fits)}
		isLevel(t, c, user, console, fits.Level)
		sees := Sees(c, user)
		picked, code := Pick(c, user, console)
		c.Access = append(c.Access, x.conf().Access...)
		c.Access = append(c.Access, access("*", "*", 3-fits.Level), access(console, user, 3-fits.Level))
		isLevel(t, c, user, console, fits.Level)
		isList(t, "Sees", Sees(c, user), sees)
		if i, got := Pick(c, user, console); i != picked || got != code {
			t.Errorf("Pick: %d, %d; %d, %d without what is behind", i, got, picked, code)
		}
	}
}

// Promises 16.1, 16.3 and 16.4: as many consoles, groups, users and accesses as there may be.
func TestMany(t *testing.T) {
	var c api.Conf
	var odd, all []int
	for i := range mostMany {
		name := fmt.Sprintf("n%04d", i)
		c.Consoles = append(c.Consoles, api.Console{Name: name})
		c.Groups = append(c.Groups, group(name, name, "n000?"))
		c.Users = append(c.Users, api.User{Name: name, Pass: name})
		c.Access = append(c.Access, access(name, "u*", i%2))
		all = append(all, i)
		if i%2 == 1 {
			odd = append(odd, i)
		}
	}
	isList(t, "Sees", Sees(c, "u1"), odd)
	isList(t, "Sees", Sees(c, "v1"), nil)
	isList(t, "Fit", Fit(c, "n*"), all)
	isList(t, "Fit", Fit(c, "n???5")[:2], []int{5, 15})
	isLevel(t, c, "u", "n4095", 1)
	isLevel(t, c, "u", "n4094", 0)
	isPicked(t, c, "u", "n4095", 4095)
	isNotPicked(t, c, "u", "n4094", api.ErrDenied)
	isNotPicked(t, c, "u", "n", api.ErrTwice)
	isNotPicked(t, c, "v", "n", api.ErrNone)
	l, code := Group(c, "n4095")
	isList(t, "Group", l, []int{0, 1, 2, 3, 4, 5, 6, 7, 8, 9, 4095})
	if code != api.OK || Enter(c, "n4095", "n4095") != api.OK || Enter(c, "n4095", "n4094") != api.ErrDenied || Enter(c, "n4096", "n4096") != api.ErrNone {
		t.Error("the last group, or user")
	}
}

// turned are two configurations that are the same; behind all lists of the second one something stands that would turn each answer.
func turned() (c, longer api.Conf) {
	same := func() api.Conf {
		return api.Conf{
			Consoles: consoles("web1", "db"),
			Groups:   []api.Group{group("web", "web?"), group("all", "*")},
			Users:    []api.User{{Name: "ann", Pass: "x"}},
			Access:   []api.Access{access("db", "ann", 0), access("w*", "ann", 2)},
		}
	}
	longer = same()
	longer.Consoles = append(longer.Consoles, consoles("web2", "mail", "x")...)[:2]
	longer.Groups = append(longer.Groups, group("more", "*"))[:2]
	for i, g := range longer.Groups {
		longer.Groups[i].Pats = append(g.Pats, "*", "db")[:len(g.Pats)]
	}
	longer.Users = append(longer.Users, api.User{Name: "bob", Pass: "y"}, api.User{})[:1]
	longer.Access = append(longer.Access, access("*", "*", 3), access("db", "*", 3))[:2]
	return same(), longer
}

// whole is all that a configuration has, with what lies behind its lists.
func whole(c api.Conf) string {
	text := fmt.Sprintf("%d %d %d %d\n", len(c.Consoles), len(c.Groups), len(c.Users), len(c.Access))
	text += fmt.Sprintf("%+v\n%+v\n%+v\n", c.Consoles[:cap(c.Consoles)], c.Users[:cap(c.Users)], c.Access[:cap(c.Access)])
	for _, g := range c.Groups[:cap(c.Groups)] {
		text += fmt.Sprintf("%q %d %q\n", g.Name, len(g.Pats), g.Pats[:cap(g.Pats)])
	}
	return text
}

// Rule R3: what is handed in is not changed, what lies behind a list's length is not asked, and what is answered is new.
func TestKept(t *testing.T) {
	c, longer := turned()
	before := whole(longer)
	for range 2 {
		for _, user := range []string{"ann", "bob", "", "*"} {
			for _, name := range []string{"web1", "db", "web2", "mail", "web", "all", "more", "w", "m", "", "x"} {
				asPlainly(t, longer, user, name, "*")
				asPlainly(t, longer, user, name, "x")
				asPlainly(t, longer, user, name, "y")
				if Level(longer, user, name) != Level(c, user, name) {
					t.Errorf("Level of %q at %q", user, name)
				}
				i, code := Pick(longer, user, name)
				if j, want := Pick(c, user, name); i != j || code != want {
					t.Errorf("Pick of %q: %q", user, name)
				}
			}
			// Whoever has an answer may do with it what they like.
			for _, l := range [][]int{Sees(longer, user), Fit(longer, "*"), Fit(longer, "w*")} {
				clear(append(l, 1, 2, 3))
				clear(l)
			}
		}
		l, _ := Group(longer, "web")
		isList(t, "Group of web", l, []int{0})
		clear(l)
		l, _ = Group(longer, "all")
		isList(t, "Group of all", l, []int{0, 1})
		clear(append(l, 7))
	}
	if after := whole(longer); after != before {
		t.Errorf("changed: %s; it was %s", after, before)
	}
}

// Rule R3: what is answered does not change when what was handed in does.
func TestNew(t *testing.T) {
	c, _ := turned()
	sees, fit := Sees(c, "ann"), Fit(c, "*")
	of, _ := Group(c, "all")
	for i := range c.Consoles {
		c.Consoles[i].Name = "turned"
		c.Access[i] = access("*", "*", 3-i)
	}
	isList(t, "Sees", sees, []int{0})
	isList(t, "Fit", fit, []int{0, 1})
	isList(t, "Group", of, []int{0, 1})
	isList(t, "Sees", Sees(c, "ann"), []int{0, 1})
	isList(t, "Fit", Fit(c, "db"), nil)
	clear(Fit(c, "*"))
	fit[1], of[0] = 5, 6
	isList(t, "Fit", Fit(c, "*"), []int{0, 1})
}

// Promises 16.1 to 16.5, of configurations that come as they like.
func FuzzRights(f *testing.F) {
	f.Add("console web1 {} console db {} access db ann none; access * ann hand;", "ann", "w", "*")
	f.Add("console a {} console ab {} user u x; access a u none; access * u look; group a a? b*;", "u", "a", "x")
	f.Add("console a {} group a *;", "", "", "")
	for seed := range 20 {
		x := chance(seed)
		f.Add(conf.Print(x.conf()), x.name(), x.name(), x.pattern())
	}
	f.Fuzz(func(t *testing.T, s, user, name, other string) {
		c, err := conf.Load(s)
		if err != nil {
			return
		}
		asPlainly(t, c, user, name, other)
	})
}

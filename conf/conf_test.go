package conf

import (
	"errors"
	"fmt"
	"math"
	"math/rand"
	"regexp"
	"slices"
	"strconv"
	"strings"
	"testing"

	"wheelhouse/api"
	"wheelhouse/fault"
	"wheelhouse/tree"
)

const (
	mostName = 32
	mostText = 255
	mostTick = 1 << 40
	mostMany = 4096
)

// usual is a console of a name that has the usual settings, but for what is done to it.
func usual(called string, do ...func(x *api.Console)) api.Console {
	x := api.Console{Name: called, Kind: 1, Lines: 20, Bytes: 4096, Gens: 3, Size: 4096, Base: 1, Cap: 64, Jitter: 4}
	for _, f := range do {
		f(&x)
	}
	return x
}

// lines is what makes a console have so many.
func lines(n int) func(x *api.Console) {
	return func(x *api.Console) { x.Lines = n }
}

// consoles is a configuration of consoles alone.
func consoles(l ...api.Console) api.Conf { return api.Conf{Consoles: l} }

// group is a group of patterns.
func group(called string, pats ...string) api.Group { return api.Group{Name: called, Pats: pats} }

// told is all that a configuration says; of lists that are nil, or empty, the same.
func told(c api.Conf) string {
	var text strings.Builder
	for _, x := range c.Consoles {
		fmt.Fprintf(&text, "%#v\n", x)
	}
	for _, g := range c.Groups {
		fmt.Fprintf(&text, "group %q%q\n", g.Name, g.Pats)
	}
	for _, u := range c.Users {
		fmt.Fprintf(&text, "%#v\n", u)
	}
	for _, a := range c.Access {
		fmt.Fprintf(&text, "%#v\n", a)
	}
	return text.String() + fmt.Sprintf("%q", c.Breaks)
}

// times is a text so many times.
func times(n int, s string) string { return strings.Repeat(s, n) }

// one is the text of a single byte.
func one(c int) string { return string([]byte{byte(c)}) }

// quote is a text as a quote.
func quote(s string) string {
	return `"` + strings.NewReplacer(`\`, `\\`, `"`, `\"`).Replace(s) + `"`
}

// loads: Load tells this configuration.
func loads(t *testing.T, s string, want api.Conf) {
	t.Helper()
	if c, err := Load(s); err != nil || told(c) != told(want) {
		t.Errorf("Load(%.200q): %v, %.500s; want %.500s", s, err, told(c), told(want))
	}
}

// isFault: an error is of a code and a line, and says nothing else.
func isFault(t *testing.T, s string, err error, c api.Code, line int) {
	t.Helper()
	if want := fault.New(c, line, ""); err == nil || fault.Of(err) != c || !fault.Has(err, c) || fault.Line(err) != line || err.Error() != want.Error() {
		t.Errorf("%.200q: %v; want %v", s, err, want)
		return
	}
	var f *fault.Fault
	if !errors.As(err, &f) || f.What != "" || f.Line != line || f.Err != error(fault.Kind(c)) {
		t.Errorf("%.200q: %#v is no Fault of line %d without a text", s, err, line)
	}
}

// fails: Load has an error of a code and a line, and no configuration.
func fails(t *testing.T, s string, c api.Code, line int) {
	t.Helper()
	got, err := Load(s)
	isFault(t, s, err, c, line)
	if got.Consoles != nil || got.Groups != nil || got.Users != nil || got.Access != nil || got.Breaks != [10]string{} {
		t.Errorf("Load(%.200q): %.500s beside %v", s, told(got), err)
	}
}

// Promise 15.1: ordinary texts.
func TestLoad(t *testing.T) {
	for _, s := range []string{"", " \n\t\r\n", "# a note", "default {\n}", "default { lines 7; }"} {
		loads(t, s, api.Conf{})
	}
	loads(t, "console a { }", consoles(usual("a")))
	loads(t, "console a {\n  lines 7;\n}\nconsole b {}", consoles(usual("a", lines(7)), usual("b")))
	loads(t, "group all *;", api.Conf{Groups: []api.Group{group("all", "*")}})
	loads(t, "group web web* www? web* -1;", api.Conf{Groups: []api.Group{group("web", "web*", "www?", "web*", "-1")}})
	loads(t, "user bob secret;", api.Conf{Users: []api.User{{Name: "bob", Pass: "secret"}}})
	loads(t, "user bob !~'*?/1;\nuser ann bob;", api.Conf{Users: []api.User{{Name: "bob", Pass: "!~'*?/1"}, {Name: "ann", Pass: "bob"}}})
	loads(t, "access * ann chief;access web? * none; access web1 b* look;\naccess - ? hand;", api.Conf{Access: []api.Access{
		{Console: "*", User: "ann", Level: 3}, {Console: "web?", User: "*", Level: 0}, {Console: "web1", User: "b*", Level: 1}, {Console: "-", User: "?", Level: 2},
	}})
	loads(t, `break 1 a; break 9 "\\z"; break 4 "b c\\d\"";`, api.Conf{Breaks: [10]string{1: "a", 9: `\z`, 4: `b c\d"`}})
	loads(t, "user z z;\nconsole z {}\naccess z z none;\ngroup z z;\nbreak 2 z;\nconsole a {}\nbreak 1 a;\ngroup a a;\nuser a a;\naccess a a none;\naccess z z none; console m {} user m m; group m m;", api.Conf{
		Consoles: []api.Console{usual("z"), usual("a"), usual("m")},
		Groups:   []api.Group{group("z", "z"), group("a", "a"), group("m", "m")},
		Users:    []api.User{{Name: "z", Pass: "z"}, {Name: "a", Pass: "a"}, {Name: "m", Pass: "m"}},
		Access:   []api.Access{{Console: "z", User: "z"}, {Console: "a", User: "a"}, {Console: "z", User: "z"}},
		Breaks:   [10]string{1: "a", 2: "z"},
	})
}

// Promises 15.1 and 15.2: an argument is a word or a quote, and may be what a key is.
func TestLoadWords(t *testing.T) {
	all := api.Console{Name: "a", Kind: 2, Lines: 7, Bytes: 8, Gens: 9, Size: 100, Base: 2, Cap: 3, Jitter: 1, Init: "x"}
	like := all
	like.Name = "b"
	want := api.Conf{
		Consoles: []api.Console{all, like},
		Groups:   []api.Group{group("g", "*")},
		Users:    []api.User{{Name: "u", Pass: "p"}},
		Access:   []api.Access{{Console: "*", User: "u", Level: 2}},
		Breaks:   [10]string{3: "x"},
	}
	loads(t, "console a { kind pty; lines 7; bytes 8; gens 9; size 100; retry 2 3 1; init x; } console b { like a; } group g *; user u p; access * u hand; break 3 x;", want)
	loads(t, `console "a" { kind "pty"; lines "7"; bytes "8"; gens "9"; size "100"; retry "2" "3" "1"; init "x"; } console "b" { like "a"; } group "g" "*"; user "u" "p"; access "*" "u" "hand"; break "3" "x";`, want)
	loads(t, "console like {} console default { like like; } group group group; user user user; access access access none; break 1 break;", api.Conf{
		Consoles: []api.Console{usual("like"), usual("default")},
		Groups:   []api.Group{group("group", "group")},
		Users:    []api.User{{Name: "user", Pass: "user"}},
		Access:   []api.Access{{Console: "access", User: "access"}},
		Breaks:   [10]string{1: "break"},
	})
}

// Promises 15.1 and 15.3: a statement with other arguments, with a block where none may be, without one where one must, and what is no statement.
func TestLoadForm(t *testing.T) {
	for _, s := range []string{
		`console {}`, `console;`, `console a;`, `console a b {}`, `console a b;`, `console a "" {}`, `console "" {}`, `console "";`, `console a a a a {}`,
		`default;`, `default a {}`, `default a;`, `default "" {}`, `default "";`,
		`group;`, `group a;`, `group a {}`, `group {}`, `group a b {}`, `group a b c {}`, `group a "";`, `group "" a;`, `group a b "";`, `group a b "" c;`, `group a "" b;`,
		`user;`, `user a;`, `user a b c;`, `user a b {}`, `user a {}`, `user {}`, `user "" a;`, `user a "";`, `user a b "";`,
		`access;`, `access a;`, `access a b;`, `access a none;`, `access a b none none;`, `access a b c none;`, `access a b none {}`, `access a none {}`, `access "" b none;`, `access a "" none;`, `access a b "";`, `access a b none "";`,
		`break;`, `break 1;`, `break 1 a b;`, `break 1 a {}`, `break 1 {}`, `break 1 a "";`, `break a;`, `break a b;`, `break "" a;`, `break 1 "";`, `break 0 0 0;`, `break 0 a {}`, `break 0;`,
		`a;`, `a {}`, `a b;`, `a b {}`, `a b c;`, `Console a {}`, `consoles a {}`, `consol a {}`, `console: a {}`, `DEFAULT {}`, `defaults {}`, `Group a b;`, `groups a b;`, `User a b;`, `users a b;`, `Access a b none;`, `accesses a b none;`, `Break 1 a;`, `breaks 1 a;`, `-;`, `*;`, `1;`,
		// A setting is no statement.
		`kind serial;`, `lines 20;`, `bytes 4096;`, `gens 3;`, `size 4096;`, `retry 1 64 4;`, `init a;`, `like a;`, `like x;`, `kind serial {}`,
	} {
		fails(t, s, api.ErrForm, 1)
		fails(t, "console x {}\nuser x\nx;\n\n"+s+"\nwrong;", api.ErrForm, 5)
		// What stands in the block is asked only behind the statement itself.
		fails(t, "console x {}\n"+strings.Replace(s, "{}", "{\nlike x;\nlines 0;\nwrong;\n}", 1), api.ErrForm, 2)
	}
}

// Promises 15.2 and 15.3: a setting with other arguments, or with a block, and what is no setting, in a console's block and in that of default.
func TestSettingForm(t *testing.T) {
	for _, s := range []string{
		`kind;`, `kind serial pty;`, `kind serial serial;`, `kind serial {}`, `kind serial "";`, `kind {}`,
		`lines;`, `lines 1 1;`, `lines 1 {}`, `lines {}`, `lines 1 "";`, `bytes;`, `bytes 1 1;`, `bytes 1 {}`, `gens;`, `gens 1 1;`, `gens 1 {}`, `size;`, `size 64 64;`, `size 64 {}`, `size 0 0;`, `lines 0 {}`,
		`retry;`, `retry 1;`, `retry 1 1;`, `retry 1 1 1 1;`, `retry 1 1 1 "";`, `retry 1 1 1 {}`, `retry 1 1 {}`, `retry {}`, `retry 0;`, `retry 0 0;`, `retry 0 0 0 0;`, `retry 0 0 0 {}`,
		`init;`, `init a b;`, `init a {}`, `init {}`, `init a "";`, `init "" "";`, `init "" {}`,
		`like;`, `like x x;`, `like x {}`, `like {}`, `like z z;`, `like z {}`, `like x "";`,
		`a;`, `a b;`, `a {}`, `name b;`, `Kind serial;`, `kinds serial;`, `line 1;`, `Lines 1;`, `byte 1;`, `gen 1;`, `sizes 64;`, `Size 64;`, `retries 1 1 1;`, `Retry 1 1 1;`, `base 1;`, `cap 1;`, `jitter 1;`, `Init a;`, `inits a;`, `Like x;`, `likes x;`,
		// A statement is no setting.
		`console b {}`, `default {}`, `group a b;`, `user a b;`, `access a b none;`, `break 1 a;`,
	} {
		for _, head := range []string{"console y", "default"} {
			fails(t, "console x { }\n"+head+" { lines 1;\n"+s+"\nwrong; }", api.ErrForm, 3)
			fails(t, "console x { }\n"+head+" { like x;\n"+strings.Replace(s, "{}", "{ wrong;\nlines 0; }", 1)+" lines 0;}\nwrong;", api.ErrForm, 3)
		}
	}
}

// asks: Load takes a text where this statement has %s, in its second line, or tells that it may not be.
func asks(t *testing.T, form, s string, may bool) {
	t.Helper()
	text := "break 1 x;\n" + fmt.Sprintf(form, quote(s))
	if !may {
		fails(t, text, api.ErrForm, 2)
	} else if c, err := Load(text); err != nil || !strings.Contains(told(c), fmt.Sprintf("%q", s)) {
		t.Errorf("Load(%q): %v, %s", text, err, told(c))
	}
}

// Promises 15.1, 10.1 and 12.1: each byte that there may be in names, patterns and passwords, at some places, and each length.
func TestTexts(t *testing.T) {
	long := map[string]bool{"": false, "a": true, times(mostName, "a"): true, times(mostName, "Z"): true, times(mostName+1, "a"): false, times(mostName+2, "a"): false, times(5000, "a"): false}
	for _, x := range []struct {
		may   string
		forms []string
	}{
		{`^[a-zA-Z][-_.a-zA-Z0-9]*$`, []string{"console %s {}", "group %s a;", "user %s a;"}},
		{`^[-_.a-zA-Z0-9*?]+$`, []string{"group a %s;", "group a b %s;", "group a %s b;", "access %s b none;", "access b %s none;"}},
		{`^[!$-:<-\[\]-z|~]+$`, []string{"user a %s;"}},
	} {
		may := regexp.MustCompile(x.may)
		for _, form := range x.forms {
			for i := ' '; i <= '~'; i++ {
				for at := range 3 {
					s := times(at, "m") + string(i) + times(2-at, "m")
					asks(t, form, s, may.MatchString(s))
				}
			}
			for s, ok := range long {
				asks(t, form, s, ok)
			}
		}
	}
}

// Promise 15.1: as many patterns as a statement has room for, and one that is none, at each place.
func TestPatterns(t *testing.T) {
	for n := 1; n < 20; n++ {
		pats := slices.Repeat([]string{"a*"}, n)
		s := "\ngroup g " + strings.Join(pats, " ") + ";"
		if n > tree.Many-1 {
			fails(t, s, api.ErrLimit, 2)
			continue
		}
		loads(t, s, api.Conf{Groups: []api.Group{group("g", pats...)}})
		for at := range n {
			wrong := slices.Clone(pats)
			wrong[at] = "a/"
			fails(t, "group g "+strings.Join(wrong, " ")+";", api.ErrForm, 1)
		}
	}
}

// Promise 15.1: the levels.
func TestLevels(t *testing.T) {
	for level, s := range []string{"none", "look", "hand", "chief"} {
		loads(t, "access a b "+s+";", api.Conf{Access: []api.Access{{Console: "a", User: "b", Level: level}}})
	}
	for _, s := range []string{`""`, "0", "1", "2", "3", "None", "NONE", "non", "nonee", "chiefs", "chie", `" none"`, `"none "`, `"none look"`, "nonelook", "write", "-", "*", "serial"} {
		fails(t, "access a b "+s+";", api.ErrForm, 1)
	}
}

// Promise 15.2: the kinds.
func TestKinds(t *testing.T) {
	for i, s := range []string{"serial", "pty"} {
		want := usual("a", func(x *api.Console) { x.Kind = i + 1 })
		loads(t, "console a { kind "+s+"; }", consoles(want))
		loads(t, "console a { kind serial; kind pty; kind "+s+"; }", consoles(want))
		loads(t, "default { kind "+s+"; } console a {}", consoles(want))
	}
	for _, s := range []string{`""`, "0", "1", "2", "Serial", "PTY", "seria", "serials", "pt", "ptys", "tty", `" pty"`, `"serial pty"`, "serialpty", "none", "-"} {
		fails(t, "console a {\nkind "+s+"; }", api.ErrForm, 2)
	}
}

// field is a setting that is one number: what it may be, and where it stands.
type field struct {
	key       string
	low, high int
	at        func(x *api.Console) *int
}

// fields are all of them.
func fields() []field {
	return []field{
		{"lines", 1, 1024, func(x *api.Console) *int { return &x.Lines }},
		{"bytes", 1, 65536, func(x *api.Console) *int { return &x.Bytes }},
		{"gens", 1, 16, func(x *api.Console) *int { return &x.Gens }},
		{"size", 64, 1048576, func(x *api.Console) *int { return &x.Size }},
	}
}

// notNumbers are arguments that are no ticks.
func notNumbers() []string {
	return []string{`""`, "a", "-1", "+1", "01", "00", "064", `" 1"`, `"1 "`, "1a", "0x1", "1.0", "1e1", "-", "-0", "1_0", strconv.Itoa(mostTick + 1), "9223372036854775807", "9223372036854775808", "18446744073709551617", times(100, "9")}
}

// Promises 15.2 and 15.3: settings that are one number, within their bounds and beyond them.
func TestNumbers(t *testing.T) {
	for _, f := range fields() {
		numbers := []int{f.high - 1, f.high, f.high + 1, f.high + 2, 2 * f.high, 10 * f.high, 1<<32 + f.low, mostTick - 1, mostTick}
		for n := range 1100 {
			numbers = append(numbers, n)
		}
		for _, n := range numbers {
			set := fmt.Sprintf("%s %d;", f.key, n)
			if n < f.low || n > f.high {
				fails(t, "console a {\n"+set+"\n}", api.ErrRange, 2)
				fails(t, "default {\n\n"+set+"\n}", api.ErrRange, 3)
				continue
			}
			want := usual("a", func(x *api.Console) { *f.at(x) = n })
			loads(t, "console a { "+set+" }", consoles(want))
			loads(t, fmt.Sprintf("default { %s %d; %s } console a {}", f.key, f.low, set), consoles(want))
		}
		for _, s := range notNumbers() {
			fails(t, fmt.Sprintf("console a {\n%s %s; }", f.key, s), api.ErrForm, 2)
			fails(t, fmt.Sprintf("default {\n\n%s %s; }", f.key, s), api.ErrForm, 3)
		}
	}
}

// Promises 15.2 and 15.3: what is said of other attempts, with each number at its bounds and beyond them.
func TestRetry(t *testing.T) {
	numbers := []int{0, 1, 2, 3, 63, 64, 65, 3599, 3600, 3601, 3602, 86399, 86400, 86401, 1<<32 + 1, mostTick}
	for _, base := range numbers {
		for _, most := range numbers {
			for _, jitter := range numbers {
				set := fmt.Sprintf("retry %d %d %d;", base, most, jitter)
				if base < 1 || base > 3600 || most < base || most > 86400 || jitter > 3600 {
					fails(t, "console a {\n"+set+" }", api.ErrRange, 2)
				} else {
					loads(t, "console a { "+set+" }", consoles(usual("a", func(x *api.Console) { x.Base, x.Cap, x.Jitter = base, most, jitter })))
				}
			}
		}
	}
	// What is no number is told ahead of one that may not be, wherever it stands.
	for _, s := range notNumbers() {
		for _, n := range []string{"1", "0", "3601", "86401"} {
			for _, args := range []string{s + " " + n + " " + n, n + " " + s + " " + n, n + " " + n + " " + s} {
				fails(t, "console a {\nretry "+args+"; }", api.ErrForm, 2)
				fails(t, "default {\n\nretry "+args+"; }", api.ErrForm, 3)
			}
		}
	}
}

// texts are sequences as 14.1 tells them, and codes of others.
func texts() map[string]api.Code {
	return map[string]api.Code{
		"a": api.OK, " ": api.OK, `\\`: api.OK, `\r`: api.OK, `a\w12\d\z`: api.OK, `\x00\xff"{};#`: api.OK,
		times(mostText, "a"): api.OK, times(mostText-1, "a") + `\`: api.ErrForm, times(mostText-2, "a") + `\z`: api.OK, times(mostText-1, "a") + `\z`: api.ErrSize,
		times(mostText+1, "a"): api.ErrSize, times(mostText+1, `\`): api.ErrSize, times(5000, `\a`): api.ErrSize,
		`\`: api.ErrForm, `a\`: api.ErrForm, `\a`: api.ErrForm, `\w00`: api.ErrForm, `\w1`: api.ErrForm, `\xFF`: api.ErrForm, `\x1`: api.ErrForm, `\Z`: api.ErrForm, `a\\\`: api.ErrForm,
	}
}

// Promises 15.2 and 15.3: what is sent first.
func TestInit(t *testing.T) {
	loads(t, `console a { init ""; }`, consoles(usual("a")))
	loads(t, `default { init x; } console a { init ""; } console b { }`, consoles(usual("a"), usual("b", func(x *api.Console) { x.Init = "x" })))
	for s, code := range texts() {
		if code == api.OK {
			want := usual("a", func(x *api.Console) { x.Init = s })
			loads(t, "console a { init "+quote(s)+"; }", consoles(want))
			loads(t, "default { init "+quote(s)+"; } console a {}", consoles(want))
			continue
		}
		fails(t, "console a {\ninit "+quote(s)+"; }", code, 2)
		fails(t, "default {\n\ninit "+quote(s)+"; wrong; }", code, 3)
		fails(t, "console a {\ninit "+quote(s)+" x; }", api.ErrForm, 2)
	}
}

// Promises 15.1 and 15.3: break sequences: first their numbers, then their texts, then whether there is one already.
func TestBreak(t *testing.T) {
	whole := api.Conf{}
	row := ""
	for n := 9; n >= 1; n-- {
		whole.Breaks[n] = fmt.Sprintf(`\d%d`, n)
		row += fmt.Sprintf("break %d %s;\n", n, quote(whole.Breaks[n]))
		loads(t, row, whole)
		fails(t, row+fmt.Sprintf("\nbreak %d x;", n), api.ErrTwice, 12-n)
		fails(t, row+fmt.Sprintf("\nbreak %d %s;", n, quote(whole.Breaks[n])), api.ErrTwice, 12-n)
	}
	for s, code := range texts() {
		if code == api.OK {
			loads(t, "break 5 "+quote(s)+";", api.Conf{Breaks: [10]string{5: s}})
		} else {
			fails(t, "break 5 x;\nbreak 5 "+quote(s)+";", code, 2)
			fails(t, "break 5 x;\nbreak 6 "+quote(s)+";", code, 2)
		}
		for _, n := range []int{0, 10, 11, 19, 100, 1<<32 + 1, mostTick} {
			fails(t, "break 5 x;\n"+fmt.Sprintf("break %d %s;", n, quote(s)), api.ErrRange, 2)
		}
		for _, n := range notNumbers() {
			fails(t, "break 5 x;\nbreak "+n+" "+quote(s)+";", api.ErrForm, 2)
		}
	}
	fails(t, "break 5 x;\nbreak 5 \"\";", api.ErrForm, 2)
	fails(t, "break 0 \"\";", api.ErrRange, 1)
	fails(t, "break 10 \"\";", api.ErrRange, 1)
}

// Promise 15.2: the usual settings.
func TestUsual(t *testing.T) {
	if x := Usual(); x != usual("") {
		t.Errorf("%#v", x)
	}
	loads(t, "console a {}", consoles(usual("a")))
}

// Promise 15.1: what is usual is so from there on, on top of what was usual before.
func TestDefault(t *testing.T) {
	gens := func(n int) func(x *api.Console) { return func(x *api.Console) { x.Gens = n } }
	kind := func(x *api.Console) { x.Kind = 2 }
	loads(t, "console a {} default { lines 7; } console b {} default { gens 5; } console c {} default { lines 8; } console d { gens 6; } default {} console e {}", consoles(
		usual("a"), usual("b", lines(7)), usual("c", lines(7), gens(5)), usual("d", lines(8), gens(6)), usual("e", lines(8), gens(5))))
	loads(t, "default { lines 7; lines 8; kind pty; } console a { lines 9; } console b { kind serial; }", consoles(usual("a", lines(9), kind), usual("b", lines(8))))
	// What is usual is as a console is: so the name of that is not.
	loads(t, "console a { lines 7; kind pty; } default { gens 5; like a; lines 6; } console b { } console c { gens 9; }", consoles(
		usual("a", lines(7), kind), usual("b", lines(6), kind), usual("c", lines(6), kind, gens(9))))
	// An error stands in its own line.
	fails(t, "default {\nlines 7;\ngens 0; }", api.ErrRange, 3)
	fails(t, "default { lines 7; }\ndefault {\nlike a; }", api.ErrNone, 3)
	if x := Usual(); x != usual("") {
		t.Errorf("what is usual is so in other texts, too: %#v", x)
	}
}

// Promises 15.2, 15.3 and 15.5: what is like another console, in all but what is said behind.
func TestLike(t *testing.T) {
	a := api.Console{Name: "a", Kind: 2, Lines: 1, Bytes: 2, Gens: 4, Size: 65, Base: 2, Cap: 9, Jitter: 0, Init: "x"}
	text := "console a { kind pty; lines 1; bytes 2; gens 4; size 65; retry 2 9 0; init x; }\n"
	called := func(s string, do ...func(x *api.Console)) api.Console {
		x := a
		x.Name = s
		for _, f := range do {
			f(&x)
		}
		return x
	}
	loads(t, text+"console b { like a; }", consoles(a, called("b")))
	loads(t, text+"console b { like a; lines 3; }", consoles(a, called("b", lines(3))))
	loads(t, text+"console b { lines 3; like a; }", consoles(a, called("b")))
	loads(t, text+"console b { lines 3; like a; gens 7; } console c { lines 8; like b; like b; size 66; }", consoles(a,
		called("b", func(x *api.Console) { x.Gens = 7 }), called("c", func(x *api.Console) { x.Gens, x.Size = 7, 66 })))
	loads(t, text+"console b { } console c { like a; like b; } console d { like b; like a; }", consoles(a, usual("b"), usual("c"), called("d")))
	// What is usual by now does not come to a console that was told ahead.
	loads(t, text+"default { lines 9; init y; } console b { like a; } console c { }", consoles(a, called("b"), usual("c", lines(9), func(x *api.Console) { x.Init = "y" })))
	loads(t, "console a { } default { lines 9; } console b { like a; }", consoles(usual("a"), usual("b")))
	loads(t, "console a { retry 2 9 0; } console b { like a; kind pty; }", consoles(
		usual("a", func(x *api.Console) { x.Base, x.Cap, x.Jitter = 2, 9, 0 }),
		usual("b", func(x *api.Console) { x.Kind, x.Base, x.Cap, x.Jitter = 2, 2, 9, 0 })))
	for _, head := range []string{"console b", "default"} {
		for _, s := range []string{"b", "c", "A", "aa", `""`, `" a"`, `"a "`, `"?"`, "a*", "*", `"a b"`, "1", "~", `"\\"`, times(100, "a"), "default", "g", "u"} {
			fails(t, text+"group g a; user u a;\n"+head+" {\nlike "+s+";\n}\nconsole c {}", api.ErrNone, 4)
		}
	}
	// A console is not told ahead of itself.
	fails(t, "console b { lines 9;\nlike b; }", api.ErrNone, 2)
	fails(t, "default {\nlike b; } console b {}", api.ErrNone, 2)
}

// Promise 15.3: names that there are already, each of its own kind alone.
func TestTwice(t *testing.T) {
	forms := map[string]string{"console": "console %s { }", "group": "group %s a;", "user": "user %s a;"}
	for key, form := range forms {
		for other, behind := range forms {
			for _, names := range [][2]string{{"a", "a"}, {"a", "b"}, {"a", "A"}, {"a", "aa"}, {times(mostName, "a"), times(mostName, "a")}, {times(mostName, "a"), times(mostName-1, "a")}} {
				s := "access a a none;\n" + fmt.Sprintf(form, names[0]) + "\nconsole m { lines 7; } group m *; user m m;\n" + fmt.Sprintf(behind, names[1])
				if key == other && names[0] == names[1] {
					fails(t, s, api.ErrTwice, 4)
				} else if _, err := Load(s); err != nil {
					t.Errorf("%q: %v", s, err)
				}
			}
		}
	}
	fails(t, "console a {}\nconsole a {\nlines 0;\nwrong; }", api.ErrTwice, 2)
	fails(t, "group a a;\ngroup a b;", api.ErrTwice, 2)
	fails(t, "group a a;\ngroup a /;", api.ErrForm, 2)
	fails(t, "user a a;\nuser a b;", api.ErrTwice, 2)
	fails(t, "user a a;\nuser a \"\";", api.ErrForm, 2)
	fails(t, "console a {}\nconsole a;", api.ErrForm, 2)
	fails(t, "console a {}\nconsole a b {}", api.ErrForm, 2)
	// Accesses may be alike.
	loads(t, "access a a none; access a a none;", api.Conf{Access: []api.Access{{Console: "a", User: "a"}, {Console: "a", User: "a"}}})
}

// Promise 15.3: as many as there may be, and more: no text has room for these (12.2), so that statements are taken as they are.
func TestLimit(t *testing.T) {
	node := func(i int, key string, args ...string) tree.Node {
		return tree.Node{Key: key, Args: args, Block: key == "console", Line: i}
	}
	lists := map[string]func(i int) tree.Node{
		"console": func(i int) tree.Node { return node(i, "console", "a"+strconv.Itoa(i)) },
		"group":   func(i int) tree.Node { return node(i, "group", "a"+strconv.Itoa(i), "*") },
		"user":    func(i int) tree.Node { return node(i, "user", "a"+strconv.Itoa(i), "a") },
		"access":  func(i int) tree.Node { return node(i, "access", "*", "*", "none") },
	}
	for key, next := range lists {
		l := newLoader()
		for i := range mostMany {
			if err := l.take(next(i)); err != nil {
				t.Fatalf("%s %d: %v", key, i, err)
			}
		}
		isFault(t, key, l.take(next(mostMany)), api.ErrLimit, mostMany)
		for at := range next(0).Args {
			wrong := next(mostMany)
			wrong.Args[at] = "/ "
			isFault(t, key, l.take(wrong), api.ErrForm, mostMany)
		}
		if key != "access" {
			isFault(t, key, l.take(next(1)), api.ErrTwice, 1)
		}
		// Each list is counted for itself.
		for other, next := range lists {
			if err := l.take(next(mostMany)); (err != nil) != (key == other) {
				t.Errorf("%s, when there are %d of %s: %v", other, mostMany, key, err)
			}
		}
		if err := l.take(tree.Node{Key: "break", Args: []string{"1", "a"}}); err != nil {
			t.Error(err)
		}
		if err := l.take(tree.Node{Key: "default", Block: true}); err != nil {
			t.Error(err)
		}
	}
}

// Promise 15.3: the first one of what is wrong is told, in a block, too.
func TestFirst(t *testing.T) {
	wrong := map[string]api.Code{
		"wrong;": api.ErrForm, "console a {}": api.ErrTwice, "console a { wrong; }": api.ErrTwice, "console c { lines 0; }": api.ErrRange, "console c { like c; }": api.ErrNone,
		"console c { lines x; lines 0; }": api.ErrForm, "console c { lines 0; lines x; }": api.ErrRange, "console c { like d; lines x; lines 0; }": api.ErrNone, "console c { init " + times(256, "a") + "; like d; }": api.ErrSize,
		"default { gens 17; }": api.ErrRange, "default { like f; gens 17; }": api.ErrNone, "group g b;": api.ErrTwice, "group h /;": api.ErrForm, "user u v;": api.ErrTwice, "user v;": api.ErrForm,
		"break 1 b;": api.ErrTwice, "break 0 b;": api.ErrRange, "break 2 " + times(256, "a") + ";": api.ErrSize, "access a b c;": api.ErrForm,
	}
	for s, code := range wrong {
		for other := range wrong {
			head := "console a { }\ngroup g a;\nuser u u;\nbreak 1 a;\n"
			fails(t, head+s, code, 5)
			fails(t, head+s+other, code, 5)
			fails(t, head+s+"\n"+other, code, 5)
			fails(t, head+"console e {}\n\naccess a b none;\n"+s+"\n"+other, code, 8)
		}
	}
}

// Promise 15.3: chapter 13's errors come first, whatever else is wrong.
func TestTree(t *testing.T) {
	for _, s := range []string{"", "wrong;\n", "console a {}\nconsole a {}\n", "break 0 x;\n"} {
		for end, code := range map[string]api.Code{
			"a": api.ErrForm, ";": api.ErrForm, "}": api.ErrForm, `"`: api.ErrForm, "console b {": api.ErrForm, "\x00": api.ErrForm, "é": api.ErrForm,
			"a" + times(17, " x") + ";": api.ErrLimit, times(5, "a{") + times(5, "}"): api.ErrLimit, times(8200, ";"): api.ErrLimit,
		} {
			fails(t, s+end, code, 1+strings.Count(s, "\n"))
		}
		fails(t, s+times(65537, "#"), api.ErrSize, 0)
	}
	fails(t, times(65537, " "), api.ErrSize, 0)
	loads(t, times(65536, " "), api.Conf{})
	loads(t, times(65536-12, "\n")+"console a {}", consoles(usual("a")))
	fails(t, times(65536-8, "\n")+"user a ;", api.ErrForm, 65536-7)
}

// Promise 15.4: the place of a console's name.
func TestFind(t *testing.T) {
	c := consoles(usual("a"), usual("b"), usual("a"), usual(""), usual("b"), usual("x y\xff"), usual(""))
	c.Groups, c.Users = []api.Group{group("g")}, []api.User{{Name: "u"}}
	for s, want := range map[string]int{"a": 0, "b": 1, "": 3, "x y\xff": 5, "g": -1, "u": -1, "A": -1, "aa": -1, "*": -1, "?": -1, "x y": -1, "a ": -1} {
		if got := Find(c, s); got != want {
			t.Errorf("Find(%q): %d; want %d", s, got, want)
		}
		if got := Find(api.Conf{}, s); got != -1 {
			t.Errorf("Find of none: %d", got)
		}
	}
	c = api.Conf{}
	for i := range 10000 {
		c.Consoles = append(c.Consoles, usual(strconv.Itoa(i)))
	}
	for i := range 10000 {
		if got := Find(c, strconv.Itoa(i)); got != i {
			t.Errorf("Find: %d; want %d", got, i)
		}
	}
}

// whole is a configuration that has something of each part, and what Print tells of it.
func whole() (api.Conf, string) {
	return api.Conf{
		Consoles: []api.Console{usual("web2"), {Name: "a", Kind: 2, Lines: 1, Bytes: 2, Gens: 4, Size: 65, Base: 5, Cap: 7, Jitter: 6, Init: `x "\\\z`}},
		Groups:   []api.Group{group("web", "web*", "www?"), group("all", "*")},
		Users:    []api.User{{Name: "bob", Pass: "secret"}, {Name: "ann", Pass: "x/1"}},
		Access:   []api.Access{{Console: "db*", User: "bob", Level: 0}, {Console: "*", User: "ann", Level: 3}, {Console: "*", User: "?*", Level: 1}, {Console: "a", User: "b", Level: 2}},
		Breaks:   [10]string{9: `\z`, 2: "a", 1: `b;\d`},
	}, `break 1 "b;\\d";
break 2 a;
break 9 "\\z";
console web2 {
  kind serial;
  lines 20;
  bytes 4096;
  gens 3;
  size 4096;
  retry 1 64 4;
  init "";
}
console a {
  kind pty;
  lines 1;
  bytes 2;
  gens 4;
  size 65;
  retry 5 7 6;
  init "x \"\\\\\\z";
}
group web web* www?;
group all *;
user bob secret;
user ann x/1;
access db* bob none;
access * ann chief;
access * ?* look;
access a b hand;
`
}

// prints: Print tells this text.
func prints(t *testing.T, want string, c api.Conf) {
	t.Helper()
	if s := Print(c); s != want {
		t.Errorf("Print(%.500s): %.500q; want %.500q", told(c), s, want)
	}
}

// texter puts statements together as a text, as long as all of them may stand in one.
type texter struct {
	text strings.Builder
	not  bool
}

// row puts a line behind the others.
func (x *texter) row(end, key string, args ...string) {
	x.text.WriteString(key)
	for _, a := range args {
		x.not = x.not || !regexp.MustCompile(`^[ -~]*$`).MatchString(a)
		if !regexp.MustCompile(`^[!$-:<-\[\]-z|~]+$`).MatchString(a) {
			a = quote(a)
		}
		x.text.WriteString(" " + a)
	}
	x.not = x.not || len(args) > tree.Many
	x.text.WriteString(end + "\n")
}

// printed is what 15.4 says of a configuration.
func printed(c api.Conf) string {
	var x texter
	for n, s := range c.Breaks {
		if s != "" {
			x.row(";", "break", fmt.Sprint(n), s)
		}
	}
	for _, y := range c.Consoles {
		x.row(" {", "console", y.Name)
		x.row(";", "  kind", map[int]string{1: "serial", 2: "pty"}[y.Kind])
		x.row(fmt.Sprintf("  lines %d;\n  bytes %d;\n  gens %d;\n  size %d;\n  retry %d %d %d;", y.Lines, y.Bytes, y.Gens, y.Size, y.Base, y.Cap, y.Jitter), "")
		x.row(";", "  init", y.Init)
		x.row("}", "")
	}
	for _, g := range c.Groups {
		x.row(";", "group", append([]string{g.Name}, g.Pats...)...)
	}
	for _, u := range c.Users {
		x.row(";", "user", u.Name, u.Pass)
	}
	for _, a := range c.Access {
		x.row(";", "access", a.Console, a.User, map[int]string{0: "none", 1: "look", 2: "hand", 3: "chief"}[a.Level])
	}
	if x.not {
		return ""
	}
	return x.text.String()
}

// Promise 15.4: configurations as text.
func TestPrint(t *testing.T) {
	c, text := whole()
	prints(t, text, c)
	loads(t, text, c)
	if got := printed(c); got != text {
		t.Fatalf("the test's own text is wrong: %q", got)
	}
	prints(t, "", api.Conf{})
	prints(t, "", api.Conf{Consoles: []api.Console{}, Groups: []api.Group{}, Users: []api.User{}, Access: []api.Access{}})
	// What may not be is told, too, as long as a text has room for it.
	prints(t, `console "" {
  kind "";
  lines 0;
  bytes 0;
  gens 0;
  size 0;
  retry 0 0 0;
  init "";
}
console "a b" {
  kind "";
  lines -7;
  bytes -9223372036854775808;
  gens 9223372036854775807;
  size -1;
  retry 1099511627777 -1 -2;
  init "\\";
}
`, consoles(api.Console{}, api.Console{Name: "a b", Kind: 3, Lines: -7, Bytes: math.MinInt, Gens: math.MaxInt, Size: -1, Base: mostTick + 1, Cap: -1, Jitter: -2, Init: `\`}))
	prints(t, `break 0 x;
break 3 "\\";
group "";
group g "" "a b" g;
user "" "";
user a "b;c";
user a a;
access "" "" none;
access a "{" "";
`, api.Conf{
		Breaks: [10]string{0: "x", 3: `\`},
		Groups: []api.Group{{}, group("g", "", "a b", "g")},
		Users:  []api.User{{}, {Name: "a", Pass: "b;c"}, {Name: "a", Pass: "a"}},
		Access: []api.Access{{}, {Console: "a", User: "{", Level: 4}},
	})
	for kind := -300; kind < 300; kind++ {
		x := consoles(usual("a", func(x *api.Console) { x.Kind = kind }))
		prints(t, printed(x), x)
		y := api.Conf{Access: []api.Access{{Console: "*", User: "*", Level: kind}}}
		prints(t, printed(y), y)
	}
	for _, n := range []int{math.MinInt, math.MinInt + 1, math.MinInt + 2, 1<<32 + 1, -1<<32 + 1, math.MaxInt - 1, math.MaxInt} {
		prints(t, strings.Replace(printed(consoles(usual("a"))), "serial", `""`, 1), consoles(usual("a", func(x *api.Console) { x.Kind = n })))
		prints(t, "access * * \"\";\n", api.Conf{Access: []api.Access{{Console: "*", User: "*", Level: n}}})
	}
	// What is printed may be longer than what is loaded.
	long := api.Conf{Users: slices.Repeat([]api.User{{Name: times(1000, "a"), Pass: times(1000, "b")}}, 1000)}
	prints(t, printed(long), long)
}

// turn is something that makes of a configuration another one, and whether that, too, may be.
type turn struct {
	may bool
	do  func(c *api.Conf)
}

// turns are such ones of what whole tells.
func turns() []turn {
	var l []turn
	one := func(may bool, do func(c *api.Conf)) { l = append(l, turn{may, do}) }
	number := func(low, high int, at func(c *api.Conf) *int) {
		for _, n := range []int{math.MinInt, -mostTick, -1, 0, 1, 2, low - 1, low, low + 1, high - 1, high, high + 1, 1<<32 + low, mostTick, mostTick + 1, math.MaxInt} {
			one(n >= low && n <= high, func(c *api.Conf) { *at(c) = n })
		}
	}
	text := func(texts map[string]bool, at func(c *api.Conf) *string) {
		for s, may := range texts {
			one(may, func(c *api.Conf) { *at(c) = s })
		}
	}
	for _, f := range fields() {
		number(f.low, f.high, func(c *api.Conf) *int { return f.at(&c.Consoles[1]) })
	}
	// The console waits from 5 to 7 ticks, and up to 6 more.
	number(1, 7, func(c *api.Conf) *int { return &c.Consoles[1].Base })
	number(5, 86400, func(c *api.Conf) *int { return &c.Consoles[1].Cap })
	number(0, 3600, func(c *api.Conf) *int { return &c.Consoles[1].Jitter })
	number(1, 2, func(c *api.Conf) *int { return &c.Consoles[1].Kind })
	number(0, 3, func(c *api.Conf) *int { return &c.Access[1].Level })
	for _, base := range []int{3599, 3600, 3601} {
		one(base <= 3600, func(c *api.Conf) { c.Consoles[1].Base, c.Consoles[1].Cap = base, 86400 })
	}

	names := map[string]bool{"": false, "A": true, "m-_.9": true, "1": false, "m*": false, "m n": false, "m\n": false, "m;": false, "\xff": false, times(mostName, "m"): true, times(mostName+1, "m"): false}
	text(names, func(c *api.Conf) *string { return &c.Consoles[1].Name })
	text(names, func(c *api.Conf) *string { return &c.Groups[1].Name })
	text(names, func(c *api.Conf) *string { return &c.Users[1].Name })
	text(map[string]bool{"web2": false, "web": true, "bob": true}, func(c *api.Conf) *string { return &c.Consoles[1].Name })
	text(map[string]bool{"web2": true, "web": false, "bob": true}, func(c *api.Conf) *string { return &c.Groups[1].Name })
	text(map[string]bool{"web2": true, "web": true, "bob": false}, func(c *api.Conf) *string { return &c.Users[1].Name })

	patterns := map[string]bool{"": false, "?": true, "m": true, "m*-_.9?": true, "m n": false, "m/": false, "m\n": false, times(mostName, "*"): true, times(mostName+1, "*"): false}
	text(patterns, func(c *api.Conf) *string { return &c.Groups[0].Pats[1] })
	text(patterns, func(c *api.Conf) *string { return &c.Access[1].Console })
	text(patterns, func(c *api.Conf) *string { return &c.Access[1].User })
	text(map[string]bool{"": false, "m": true, "secret": true, "m n": false, "m;": false, `m\`: false, "m\n": false, "\x7f": false, times(mostName, "m"): true, times(mostName+1, "m"): false}, func(c *api.Conf) *string { return &c.Users[1].Pass })

	sequences := map[string]bool{}
	for s, code := range texts() {
		sequences[s] = code == api.OK
	}
	sequences["m\n"], sequences["\xff"], sequences[""] = false, false, true
	text(sequences, func(c *api.Conf) *string { return &c.Consoles[1].Init })
	text(sequences, func(c *api.Conf) *string { return &c.Breaks[5] })
	text(sequences, func(c *api.Conf) *string { return &c.Breaks[9] })
	text(map[string]bool{"": true, "a": false, `\z`: false, "m\n": false}, func(c *api.Conf) *string { return &c.Breaks[0] })

	for n := range 20 {
		one(n >= 1 && n <= 15, func(c *api.Conf) { c.Groups[1].Pats = slices.Repeat([]string{"m"}, n) })
	}
	one(true, func(c *api.Conf) { c.Consoles = nil })
	one(true, func(c *api.Conf) { c.Groups = c.Groups[:1] })
	one(true, func(c *api.Conf) { c.Users = []api.User{} })
	one(true, func(c *api.Conf) { c.Access = c.Access[1:] })
	one(true, func(c *api.Conf) { slices.Reverse(c.Consoles) })
	one(true, func(c *api.Conf) { slices.Reverse(c.Groups) })
	one(true, func(c *api.Conf) { slices.Reverse(c.Groups[0].Pats) })
	one(true, func(c *api.Conf) { slices.Reverse(c.Users) })
	one(true, func(c *api.Conf) { slices.Reverse(c.Access) })
	one(true, func(c *api.Conf) { c.Breaks[3], c.Breaks[9] = c.Breaks[9], "" })
	one(true, func(c *api.Conf) { c.Access = append(c.Access, c.Access...) })
	one(false, func(c *api.Conf) { c.Consoles = append(c.Consoles, c.Consoles[0]) })
	one(false, func(c *api.Conf) { c.Groups = append(c.Groups, group("web", "m")) })
	one(false, func(c *api.Conf) { c.Users = append(c.Users, api.User{Name: "bob", Pass: "m"}) })
	one(false, func(c *api.Conf) { c.Consoles = append(c.Consoles, api.Console{}) })
	one(false, func(c *api.Conf) { c.Groups = append(c.Groups, api.Group{}) })
	one(false, func(c *api.Conf) { c.Users = append(c.Users, api.User{}) })
	one(false, func(c *api.Conf) { c.Access = append(c.Access, api.Access{}) })
	return l
}

// Promise 15.4: what may be and what may not, with one thing at each place that is another one; and whether that is the same.
func TestTurns(t *testing.T) {
	c, text := whole()
	if !Is(c) || !Same(c, c) || !Is(api.Conf{}) {
		t.Error("what may be is not told")
	}
	var all []api.Conf
	for i, x := range turns() {
		turned, _ := whole()
		x.do(&turned)
		if Is(turned) != x.may {
			t.Errorf("turn %d: Is(%.800s) is %v", i, told(turned), !x.may)
		}
		prints(t, printed(turned), turned)
		if x.may {
			loads(t, Print(turned), turned)
		}
		all = append(all, turned)
	}
	prints(t, text, c)
	for _, a := range append(all, c, api.Conf{}) {
		said := told(a)
		for _, b := range []api.Conf{c, {}, all[0], a, clone(a)} {
			if want := said == told(b); Same(a, b) != want || Same(b, a) != want {
				t.Errorf("Same(%.800s, %.800s) is %v", said, told(b), !want)
			}
		}
	}
}

// clone is a copy of a configuration that shares no list with it, and has none that is nil.
func clone(c api.Conf) api.Conf {
	c.Consoles = append([]api.Console{}, c.Consoles...)
	c.Groups = append([]api.Group{}, c.Groups...)
	for i := range c.Groups {
		c.Groups[i].Pats = append([]string{}, c.Groups[i].Pats...)
	}
	c.Users = append([]api.User{}, c.Users...)
	c.Access = append([]api.Access{}, c.Access...)
	return c
}

// Promise 15.4: lists of which one is the beginning of the other, or that are nil.
func TestSame(t *testing.T) {
	c, _ := whole()
	shorter := []func(c *api.Conf){
		func(c *api.Conf) { c.Consoles = c.Consoles[:1] },
		func(c *api.Conf) { c.Groups = c.Groups[:1] },
		func(c *api.Conf) { c.Groups[0].Pats = c.Groups[0].Pats[:1] },
		func(c *api.Conf) { c.Users = c.Users[:1] },
		func(c *api.Conf) { c.Access = c.Access[:1] },
	}
	for i, do := range shorter {
		turned := clone(c)
		do(&turned)
		if Same(c, turned) || Same(turned, c) {
			t.Errorf("%d: what is shorter is the same", i)
		}
	}
	if !Same(api.Conf{}, clone(api.Conf{})) || !Same(clone(api.Conf{}), api.Conf{}) || !Is(clone(api.Conf{})) {
		t.Error("a list that is nil is not the same as one without elements")
	}
	a, b := api.Conf{Groups: []api.Group{{Name: "g"}}}, api.Conf{Groups: []api.Group{{Name: "g", Pats: []string{}}}}
	if !Same(a, b) || !Same(b, a) || Is(a) || Is(b) {
		t.Error("groups without patterns")
	}
}

// Promises 15.4 and 15.5: a text has room for so many, and for no more.
func TestRoom(t *testing.T) {
	for _, n := range []int{100, 2000, 2048, 2049, 4096, 4097, 10000} {
		var c, d, e, f api.Conf
		for i := range n {
			called := "a" + strconv.Itoa(i)
			c.Users = append(c.Users, api.User{Name: called, Pass: "p"})
			d.Groups = append(d.Groups, group(called, "*"))
			e.Access = append(e.Access, api.Access{Console: "*", User: called})
			f.Consoles = append(f.Consoles, usual(called))
		}
		// Each piece, and each byte, counts (12.2): of 8192 pieces a user and a group have 4, an access 5; a console has 27.
		for i, x := range []struct {
			c    api.Conf
			size int
		}{{c, 4}, {d, 4}, {e, 5}, {f, 27}} {
			text := printed(x.c)
			if want := n*x.size <= 8192 && len(text) <= 65536; Is(x.c) != want {
				t.Errorf("%d of list %d, %d bytes: Is is %v", n, i, len(text), !want)
			}
			prints(t, text, x.c)
		}
	}
	// What is alike may be said in fewer words than it has.
	text := "console a0 { init x; }"
	for i := range 1000 {
		text += fmt.Sprintf("console a%d { like a0; }", i+1)
	}
	c, err := Load(text)
	if err != nil || len(c.Consoles) != 1001 || c.Consoles[1000].Init != "x" || Is(c) {
		t.Error(len(c.Consoles), err)
	}
}

// pattern is one of statements, each its key and its arguments with a line feed behind each, and { behind these, if it has a block.
func pattern(s string) *regexp.Regexp {
	parts := strings.NewReplacer("NAME", `[A-Za-z][-_.A-Za-z0-9]{0,31}\n`, "PAT", `[-_.A-Za-z0-9*?]{1,32}\n`, "NUM", `(?:0|[1-9][0-9]{0,12})\n`, "ANY", `[^\n]*\n`)
	return regexp.MustCompile(`^(?:` + parts.Replace(s) + `)$`)
}

// What 15.1, 15.2 and 14.1 say, as patterns.
var (
	statement = pattern(`console\nNAME{|default\n{|group\nNAME(?:PAT)+|user\nNAME[!$-:<-\[\]-z|~]{1,32}\n|access\nPATPAT(?:none|look|hand|chief)\n|break\nNUMANY`)
	setting   = pattern(`kind\n(?:serial|pty)\n|(?:lines|bytes|gens|size)\nNUM|retry\nNUMNUMNUM|(?:init|like)\nANY`)
	sequence  = regexp.MustCompile(`^(?:[ -\[\]-~]|\\(?:[\\rntdz]|x[0-9a-f]{2}|w(?:0[1-9]|[1-9][0-9])))*$`)
)

// fits: is a statement one of a pattern? Of numbers of 13 digits the pattern has some that are no ticks.
func fits(p *regexp.Regexp, n tree.Node) bool {
	s := strings.Join(append([]string{n.Key}, n.Args...), "\n") + "\n"
	if n.Block {
		s += "{"
	}
	args := n.Args
	switch n.Key {
	case "break":
		args = args[:min(1, len(args))]
	case "lines", "bytes", "gens", "size", "retry":
	default:
		args = nil
	}
	return p.MatchString(s) && !slices.ContainsFunc(args, func(a string) bool { return number(a) > mostTick })
}

// number is the number of an argument; 0: it has none.
func number(s string) int {
	n, _ := strconv.Atoi(s)
	return n
}

// sequenceCode is what 14.1 says of a text.
func sequenceCode(s string) api.Code {
	switch {
	case len(s) > mostText:
		return api.ErrSize
	case !sequence.MatchString(s):
		return api.ErrForm
	}
	return api.OK
}

// teller tells plainly what the words say, statement by statement.
type teller struct {
	c     api.Conf
	usual api.Console
}

// setting is what 15.2 and 15.3 say of one.
func (x *teller) setting(to *api.Console, n tree.Node) api.Code {
	if !fits(setting, n) {
		return api.ErrForm
	}
	for _, f := range fields() {
		if got := number(n.Args[0]); f.key == n.Key {
			*f.at(to) = got
			if got < f.low || got > f.high {
				return api.ErrRange
			}
		}
	}
	switch n.Key {
	case "kind":
		to.Kind = map[string]int{"serial": 1, "pty": 2}[n.Args[0]]
	case "retry":
		to.Base, to.Cap, to.Jitter = number(n.Args[0]), number(n.Args[1]), number(n.Args[2])
		if to.Base == 0 || to.Base > 3600 || to.Cap < to.Base || to.Cap > 86400 || to.Jitter > 3600 {
			return api.ErrRange
		}
	case "init":
		to.Init = n.Args[0]
		return sequenceCode(to.Init)
	case "like":
		for _, other := range x.c.Consoles {
			if other.Name == n.Args[0] {
				other.Name = to.Name
				*to = other
				return api.OK
			}
		}
		return api.ErrNone
	}
	return api.OK
}

// settings is what 15.2 and 15.3 say of a block: the first code, and its line.
func (x *teller) settings(to *api.Console, l []tree.Node) (api.Code, int) {
	for _, n := range l {
		if code := x.setting(to, n); code != api.OK {
			return code, n.Line
		}
	}
	return api.OK, 0
}

// statement is what 15.1 and 15.3 say of one.
func (x *teller) statement(n tree.Node) (api.Code, int) {
	if !fits(statement, n) {
		return api.ErrForm, n.Line
	}
	switch n.Key {
	case "console":
		if slices.ContainsFunc(x.c.Consoles, func(y api.Console) bool { return y.Name == n.Args[0] }) {
			return api.ErrTwice, n.Line
		}
		y := x.usual
		y.Name = n.Args[0]
		if code, line := x.settings(&y, n.List); code != api.OK {
			return code, line
		}
		x.c.Consoles = append(x.c.Consoles, y)
	case "default":
		return x.settings(&x.usual, n.List)
	case "group":
		if slices.ContainsFunc(x.c.Groups, func(y api.Group) bool { return y.Name == n.Args[0] }) {
			return api.ErrTwice, n.Line
		}
		x.c.Groups = append(x.c.Groups, group(n.Args[0], n.Args[1:]...))
	case "user":
		if slices.ContainsFunc(x.c.Users, func(y api.User) bool { return y.Name == n.Args[0] }) {
			return api.ErrTwice, n.Line
		}
		x.c.Users = append(x.c.Users, api.User{Name: n.Args[0], Pass: n.Args[1]})
	case "access":
		level := map[string]int{"none": 0, "look": 1, "hand": 2, "chief": 3}[n.Args[2]]
		x.c.Access = append(x.c.Access, api.Access{Console: n.Args[0], User: n.Args[1], Level: level})
	case "break":
		k, text := number(n.Args[0]), n.Args[1]
		code := sequenceCode(text)
		switch {
		case k < 1 || k > 9:
			return api.ErrRange, n.Line
		case code != api.OK:
			return code, n.Line
		case text == "":
			return api.ErrForm, n.Line
		case x.c.Breaks[k] != "":
			return api.ErrTwice, n.Line
		}
		x.c.Breaks[k] = text
	}
	return api.OK, 0
}

// asPlainly: Load tells of a text what the words say, and, if that may be, what is printed is loaded as the same.
func asPlainly(t *testing.T, s string) api.Code {
	t.Helper()
	l, err := tree.Read(s)
	if err != nil {
		fails(t, s, fault.Of(err), fault.Line(err))
		return fault.Of(err)
	}
	x := teller{usual: usual("")}
	for _, n := range l {
		if code, line := x.statement(n); code != api.OK {
			fails(t, s, code, line)
			return code
		}
	}
	loads(t, s, x.c)
	back(t, x.c)
	return api.OK
}

// back: a configuration that was loaded is printed as it is to be, and that is loaded as the same, if it has room.
func back(t *testing.T, c api.Conf) {
	t.Helper()
	text := printed(c)
	prints(t, text, c)
	again, err := Load(text)
	if fault.Has(err, api.ErrSize) || fault.Has(err, api.ErrLimit) {
		if Is(c) {
			t.Errorf("Is of what has no room: %.500s", told(c))
		}
		return
	}
	if err != nil || !Is(c) || !Same(again, c) || told(again) != told(c) || Print(again) != text {
		t.Errorf("%.500s, printed as %.500q, is loaded as %.500s, %v", told(c), text, told(again), err)
	}
}

// Promises 15.1 to 15.3: each short row of some statements, with each setting in a block.
func TestRows(t *testing.T) {
	inner := []string{"", "kind pty;", "lines 0;", "bytes 9;", "gens x;", "size 99;", "retry 2 3 4;", "retry 3 2 4;", `init "\\z";`, "init \\q;", "like a;", "like b;", "like a {}", "wrong;"}
	all := []string{"group a a;", "group a /;", "user a a;", "user a;", "access a a look;", "access a a;", "break 1 a;", `break 1 "\\";`, "break 0 a;", "wrong;"}
	for _, s := range inner {
		all = append(all, "console a {\n"+s+"\n}", "default {\n"+s+"\n}", "console b {\n"+s+" like a;\n}")
	}
	seen := map[api.Code]int{}
	for _, a := range all {
		seen[asPlainly(t, a)]++
		for _, b := range all {
			seen[asPlainly(t, a+"\n"+b)]++
			for _, c := range []string{"console a { }", "console c { }", "default { like a; } console c { }", "group a b;", "user a a;", "break 1 b;"} {
				seen[asPlainly(t, a+"\n"+b+"\n"+c)]++
			}
		}
	}
	for _, code := range []api.Code{api.OK, api.ErrRange, api.ErrForm, api.ErrNone, api.ErrTwice} {
		if seen[code] < 50 {
			t.Errorf("%s was told %d times: the test asks for too little", fault.Word(code), seen[code])
		}
	}
}

// chooser makes texts by chance, in which now and then something is wrong.
type chooser struct {
	*rand.Rand
	wrong int // One of so many choices may be wrong.
}

// of is one of these; of the last ones, which may be wrong, few.
func (x chooser) of(right int, l ...string) string {
	if x.Intn(x.wrong) == 0 {
		return l[x.Intn(len(l))]
	}
	return l[x.Intn(right)]
}

func (x chooser) name() string {
	return x.of(9, "a", "b", "c", "A", "a.b", "web1", "web2", "x-y_z", times(mostName, "n"), "1", "a*", `""`, `"a b"`, times(mostName+1, "n"))
}

func (x chooser) pattern() string {
	return x.of(6, "*", "a?", "web*", "a", "1", times(mostName, "?"), "/", `""`, `"a b"`, times(mostName+1, "?"))
}

func (x chooser) number(l ...string) string {
	return x.of(len(l), append(l, "0", "01", "x", "-1", "1000000000000", "1099511627776", "1099511627777", `""`)...)
}

func (x chooser) sequence() string {
	return x.of(8, "a", `"\\z"`, `" \\w12\\d\\\\"`, `"\"{};"`, `"\\x00\\xff"`, times(mostText, "s"), `"\\r"`, "x", `""`, `"\\q"`, `"\\w00"`, times(mostText+1, "s"), `"\\"`)
}

// end is the end of a statement that has no block.
func (x chooser) end() string {
	return x.of(3, ";", ";\n", " # {\n;", " x;", " {}", `"";`)
}

func (x chooser) setting() string {
	switch x.Intn(8) {
	case 0:
		return "kind " + x.of(2, "serial", "pty", "tty", `""`) + x.end()
	case 1:
		return "lines " + x.number("1", "20", "1024", "1025") + x.end()
	case 2:
		return "bytes " + x.number("1", "4096", "65536") + x.end()
	case 3:
		return "gens " + x.number("1", "3", "16") + x.end()
	case 4:
		return "size " + x.number("64", "4096", "1048576") + x.end()
	case 5:
		return "retry " + x.number("1", "2", "64") + " " + x.number("64", "65", "86400") + " " + x.number("1", "4", "3600") + x.end()
	case 6:
		return "init " + x.sequence() + x.end()
	}
	return x.of(5, "like a", "like b", "like c", "like web1", "lines 9", "like d", `like ""`, "likes a", "user a a") + x.end()
}

func (x chooser) settings() string {
	if x.Intn(x.wrong) == 0 {
		return x.end()
	}
	s := " {\n"
	for range x.Intn(4) {
		s += x.setting()
	}
	return s + "}\n"
}

func (x chooser) statement() string {
	switch x.Intn(7) {
	case 0:
		return "default" + x.settings()
	case 1:
		s := "group " + x.name()
		for range 1 + x.Intn(4) {
			s += " " + x.pattern()
		}
		return s + x.end()
	case 2:
		return "user " + x.name() + " " + x.of(3, "x", "!~'*?/1", times(mostName, "p"), times(mostName+1, "p"), `""`, `"a b"`, `"#"`) + x.end()
	case 3:
		return "access " + x.pattern() + " " + x.pattern() + " " + x.of(4, "none", "look", "hand", "chief", "all", `""`, "0") + x.end()
	case 4:
		return "break " + x.number("1", "2", "3", "4", "5", "9") + " " + x.sequence() + x.end()
	}
	return "console " + x.name() + x.settings()
}

// Promises 15.1 to 15.5: texts by chance.
func TestChance(t *testing.T) {
	seen := map[api.Code]int{}
	for seed := range 30000 {
		x := chooser{rand.New(rand.NewSource(int64(seed))), 4 << (seed % 8)}
		s := ""
		for range 1 + x.Intn(8) {
			s += x.statement()
		}
		seen[asPlainly(t, s)]++
	}
	for _, code := range []api.Code{api.OK, api.ErrRange, api.ErrForm, api.ErrSize, api.ErrNone, api.ErrTwice} {
		if seen[code] < 50 {
			t.Errorf("%s was told %d times: the test asks for too little", fault.Word(code), seen[code])
		}
	}
}

// Rule R3: what is answered is new: neither two answers nor two lists of one share anything.
func TestLoadIsNew(t *testing.T) {
	_, text := whole()
	first, _ := Load(text)
	want := told(first)
	_ = append(first.Consoles, api.Console{Name: "turned"})
	_ = append(first.Groups, group("turned"))
	_ = append(first.Users, api.User{Name: "turned"})
	_ = append(first.Access, api.Access{User: "turned"})
	for _, g := range first.Groups {
		_ = append(g.Pats, "turned", "turned")
	}
	if told(first) != want {
		t.Errorf("lists share what lies behind them: %s", told(first))
	}
	for i := range first.Groups {
		first.Groups[i].Pats[0] = "turned"
		first.Groups[i].Name = "turned"
	}
	first.Consoles[0].Name, first.Users[0].Name, first.Access[0].Level, first.Breaks[1] = "turned", "turned", 2, "turned"
	if second, _ := Load(text); told(second) != want {
		t.Errorf("two answers share something: %s", told(second))
	}
}

// Rule R3: what is handed in is not changed, and what lies behind a list's length is not asked.
func TestKept(t *testing.T) {
	c, text := whole()
	longer := clone(c)
	longer.Consoles = append(longer.Consoles, api.Console{}, api.Console{Name: "behind"})[:len(c.Consoles)]
	longer.Groups = append(longer.Groups, api.Group{}, group("behind"))[:len(c.Groups)]
	for i, g := range longer.Groups {
		longer.Groups[i].Pats = append(g.Pats, "", "/")[:len(g.Pats)]
	}
	longer.Users = append(longer.Users, api.User{}, api.User{})[:len(c.Users)]
	longer.Access = append(longer.Access, api.Access{}, api.Access{})[:len(c.Access)]
	if Print(longer) != text || !Is(longer) || !Same(c, longer) || !Same(longer, c) || Find(longer, "behind") != -1 || Find(longer, "a") != 1 {
		t.Error("what lies behind is asked")
	}
	if told(longer) != told(c) {
		t.Errorf("changed: %s", told(longer))
	}
	for i, g := range longer.Groups {
		if behind := g.Pats[:len(g.Pats)+2]; behind[len(g.Pats)] != "" || behind[len(g.Pats)+1] != "/" {
			t.Errorf("what lies behind group %d is changed: %q", i, behind)
		}
	}
	if told(api.Conf{
		Consoles: longer.Consoles[:4][2:], Groups: longer.Groups[:4][2:], Users: longer.Users[:4][2:], Access: longer.Access[:6][4:],
	}) != told(api.Conf{
		Consoles: []api.Console{{}, {Name: "behind"}}, Groups: []api.Group{{}, {Name: "behind"}}, Users: []api.User{{}, {}}, Access: []api.Access{{}, {}},
	}) {
		t.Error("what lies behind is changed")
	}
}

// Promises 15.1 to 15.5, of texts that come as they like.
func FuzzLoad(f *testing.F) {
	_, text := whole()
	for _, s := range []string{"", text, "console a { retry 2 9 0; } console b { like a; kind pty; }", "default { lines 7; }\nconsole a {}", "console a {\n\n lines 0; }", "break 0 x;", "user a \"b c\";", "group g a /;", "}"} {
		f.Add(s)
	}
	for seed := range 20 {
		x := chooser{rand.New(rand.NewSource(int64(seed))), 30}
		f.Add(x.statement() + x.statement() + x.statement())
	}
	f.Fuzz(func(t *testing.T, s string) {
		asPlainly(t, s)
	})
}

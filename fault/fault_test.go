package fault

import (
	"errors"
	"fmt"
	"io"
	"math"
	"slices"
	"strconv"
	"strings"
	"testing"

	"wheelhouse/api"
)

// wanted are the codes' words, by the names that api gives the codes.
var wanted = map[api.Code]string{
	api.OK:        "",
	api.ErrArg:    "argument",
	api.ErrRange:  "range",
	api.ErrForm:   "form",
	api.ErrSum:    "sum",
	api.ErrSize:   "size",
	api.ErrFull:   "full",
	api.ErrNone:   "none",
	api.ErrTwice:  "twice",
	api.ErrState:  "state",
	api.ErrDenied: "denied",
	api.ErrBusy:   "busy",
	api.ErrIO:     "device",
	api.ErrCut:    "cut",
	api.ErrNil:    "nil",
	api.ErrLimit:  "limit",
}

// noCodes: numbers that no code has.
var noCodes = []api.Code{math.MinInt, math.MinInt + 1, -256, -16, -15, -1, 16, 17, 100, 255, 256, 1 << 32, 1<<32 + 1, 1<<40 + 3, math.MaxInt}

// allCodes: the codes, and numbers that are none.
func allCodes() []api.Code {
	l := slices.Clone(noCodes)
	for c := range wanted {
		l = append(l, c)
	}
	slices.Sort(l)
	return l
}

// lines and texts: ordinary ones, and such at which something turns.
var (
	lines = []int{math.MinInt, -7, -1, 0, 1, 2, 7, 10, 4096, 1 << 40, math.MaxInt}
	texts = []string{"", "a", "lines", "console a", " ", ":", ": ", "a: b", "line 7", "form", "\x00", "\n", "\xff", "\\", strings.Repeat("x", 5000)}
)

// around is an error of another kind, around one; plain is one around none.
type around struct {
	err error
}

func (a around) Error() string { return "around: " + a.err.Error() }
func (a around) Unwrap() error { return a.err }

type plain string

func (p plain) Error() string { return string(p) }

// listed is an error that can't be held against another one.
type listed []string

func (l listed) Error() string { return strings.Join(l, " ") }

// number is an error that is a number, as a Kind is, but is none.
type number int

func (n number) Error() string { return strconv.Itoa(int(n)) }

// others: errors that are, and wrap, no Kind and no Fault.
func others() []error {
	return []error{
		io.EOF, errors.New("range"), errors.New(""), plain(""), plain("form"), plain("7"), listed{"a"}, listed(nil), number(0), number(1), number(7),
		around{io.EOF}, around{plain("cut")}, around{number(3)}, fmt.Errorf("a: %w", io.EOF),
	}
}

// Promise 9.1: the codes' words.
func TestWord(t *testing.T) {
	for c, want := range wanted {
		if got := Word(c); got != want {
			t.Errorf("Word(%d): %q; want %q", c, got, want)
		}
	}
	for c, want := range map[api.Code]string{
		16: "code 16", 17: "code 17", 100: "code 100", -1: "code -1", -15: "code -15",
		1 << 32: "code 4294967296", math.MaxInt: "code 9223372036854775807", math.MinInt: "code -9223372036854775808",
	} {
		if got := Word(c); got != want {
			t.Errorf("Word(%d): %q; want %q", c, got, want)
		}
	}
	for c := api.Code(-300); c < 300; c++ {
		want, ok := wanted[c]
		if !ok {
			want = "code " + strconv.Itoa(int(c))
		}
		if got := Word(c); got != want {
			t.Errorf("Word(%d): %q; want %q", c, got, want)
		}
	}
}

// Promise 9.1: no two codes have the same word.
func TestWordApart(t *testing.T) {
	known := map[string]api.Code{}
	for _, c := range allCodes() {
		if d, ok := known[Word(c)]; ok {
			t.Errorf("Word of %d and of %d: %q", c, d, Word(c))
		}
		known[Word(c)] = c
	}
}

// Promise 9.1: a Kind says its code's word.
func TestKindError(t *testing.T) {
	for _, c := range allCodes() {
		var err error = Kind(c)
		if err.Error() != Word(c) {
			t.Errorf("Kind of code %d: %q", c, err.Error())
		}
		if errors.Unwrap(err) != nil {
			t.Errorf("Kind of code %d wraps something", c)
		}
	}
	if s := Kind(api.ErrIO).Error(); s != "device" {
		t.Errorf("Kind of ErrIO: %q", s)
	}
}

// isFault: err is the Fault of this line and text that wraps this error.
func isFault(t *testing.T, err error, line int, what string, wraps error) {
	t.Helper()
	f, ok := err.(*Fault)
	if !ok || f == nil {
		t.Errorf("%T; want a Fault", err)
		return
	}
	if f.Line != line || f.What != what {
		t.Errorf("a Fault of line %d and %.40q; want %d and %.40q", f.Line, f.What, line, what)
	}
	if !same(f.Err, wraps) || !same(f.Unwrap(), wraps) || !same(errors.Unwrap(err), wraps) {
		t.Errorf("a Fault around %v, which unwraps as %v; want %v", f.Err, f.Unwrap(), wraps)
	}
}

// same: are these the same error? Lists, which can't be held against one another, are told by what they say.
func same(a, b error) bool {
	l, ok := a.(listed)
	m, is := b.(listed)
	if ok || is {
		return ok && is && slices.Equal(l, m)
	}
	return a == b
}

// Promise 9.1: New is nil of OK, else a Fault around a Kind.
func TestNew(t *testing.T) {
	for _, c := range allCodes() {
		for _, line := range lines {
			for _, what := range texts {
				err := New(c, line, what)
				if c == api.OK && err != nil {
					t.Errorf("New(OK, %d, %.40q): %v", line, what, err)
				} else if c != api.OK {
					isFault(t, err, line, what, Kind(c))
				}
			}
		}
	}
}

// Promise 9.1: what is answered is new: two that were made alike do not hang on each other.
func TestNewIsNew(t *testing.T) {
	a, b := New(api.ErrArg, 1, "a").(*Fault), New(api.ErrArg, 1, "a").(*Fault)
	a.Line, a.What, a.Err = 2, "b", Kind(api.ErrForm)
	isFault(t, b, 1, "a", Kind(api.ErrArg))
	c, d := Wrap(b, 3, "c").(*Fault), Wrap(b, 3, "c").(*Fault)
	c.Line, c.What, c.Err = 4, "d", a
	isFault(t, d, 3, "c", b)
	isFault(t, b, 1, "a", Kind(api.ErrArg))
}

// Promise 9.1: a Fault says its Text, and unwraps as what it wraps, whoever made it.
func TestFaultError(t *testing.T) {
	for f, want := range map[*Fault]string{
		{Line: 7, What: "lines", Err: Kind(api.ErrRange)}:       "line 7: lines: range",
		{Line: 7, Err: Kind(api.ErrRange)}:                      "line 7: range",
		{What: "lines", Err: Kind(api.ErrRange)}:                "lines: range",
		{Err: Kind(api.ErrRange)}:                               "range",
		{Line: -7, What: "lines", Err: Kind(api.ErrRange)}:      "lines: range",
		{Line: 7, What: "lines", Err: Kind(api.OK)}:             "line 7: lines",
		{Err: Kind(api.OK)}:                                     "",
		{Line: 7, What: "lines", Err: Kind(99)}:                 "line 7: lines: code 99",
		{Line: 7, What: "lines", Err: io.EOF}:                   "line 7: lines: form",
		{What: "a", Err: &Fault{Line: 3, Err: Kind(api.ErrIO)}}: "a: line 3: device",
	} {
		if f.Error() != want || Text(f) != want {
			t.Errorf("a Fault says %q, its Text is %q; want %q", f.Error(), Text(f), want)
		}
		if f.Unwrap() != f.Err || errors.Unwrap(f) != f.Err {
			t.Errorf("the Fault %q unwraps as %v", want, f.Unwrap())
		}
	}
}

// Promise 9.1: a Fault that is none, or wraps nothing, makes nothing panic.
func TestFaultNil(t *testing.T) {
	var none *Fault
	for _, err := range []error{none, &Fault{}, &Fault{Err: none}, Wrap(none, 0, ""), around{none}} {
		if Of(err) != api.ErrForm || Line(err) != 0 || Text(err) != "form" || Has(err, api.ErrForm) {
			t.Errorf("%#v: code %d, line %d, %q, %v", err, Of(err), Line(err), Text(err), Has(err, api.ErrForm))
		}
	}
	for _, f := range []*Fault{none, {}} {
		if f.Error() != "form" || f.Unwrap() != nil {
			t.Errorf("%#v says %q, and unwraps as %v", f, f.Error(), f.Unwrap())
		}
	}
	for _, err := range []error{&Fault{Line: 7, What: "lines"}, &Fault{Line: 7, What: "lines", Err: none}, Wrap(none, 7, "lines")} {
		if Of(err) != api.ErrForm || Line(err) != 7 || Text(err) != "line 7: lines: form" {
			t.Errorf("%#v: code %d, line %d, %q", err, Of(err), Line(err), Text(err))
		}
	}
}

// Promise 9.2: Wrap is nil of nil, else a Fault around just that error.
func TestWrap(t *testing.T) {
	all := append(others(), Kind(api.ErrArg), Kind(api.OK), Kind(99), New(api.ErrForm, 3, "a"), Wrap(New(api.ErrIO, 0, ""), 0, ""), around{Kind(3)})
	for _, line := range lines {
		for _, what := range texts {
			if err := Wrap(nil, line, what); err != nil {
				t.Errorf("Wrap(nil, %d, %.40q): %v", line, what, err)
			}
			if err := Wrap(New(api.OK, line, what), line, what); err != nil {
				t.Errorf("Wrap of none, %d, %.40q: %v", line, what, err)
			}
			for _, err := range all {
				isFault(t, Wrap(err, line, what), line, what, err)
			}
		}
	}
}

// Promise 9.2: an error is of its own code alone, and never of OK, nor is nil of any.
func TestHas(t *testing.T) {
	for _, c := range allCodes() {
		for _, err := range append(others(), nil, &Fault{}) {
			if Has(err, c) || Has(Wrap(err, 1, "a"), c) {
				t.Errorf("%v has the code %d", err, c)
			}
		}
		for _, d := range allCodes() {
			inner := New(c, 0, "")
			want := c == d && c != api.OK
			for i, err := range []error{Kind(c), inner, Wrap(Kind(c), 1, ""), Wrap(inner, 7, "a"), Wrap(Wrap(inner, 0, "a"), 0, "b"), around{Kind(c)}, Wrap(around{Wrap(Kind(c), 3, "a")}, 0, "")} {
				if Has(err, d) != want {
					t.Errorf("error %d of code %d: Has of %d is %v", i, c, d, !want)
				}
			}
		}
	}
}

// Promise 9.2: package errors tells the same.
func TestHasIs(t *testing.T) {
	for _, c := range allCodes() {
		err := Wrap(Wrap(Kind(c), 3, "a"), 0, "b")
		for _, d := range allCodes() {
			if errors.Is(err, Kind(d)) != (c == d) {
				t.Errorf("an error of code %d: errors.Is of the Kind of %d is %v", c, d, c != d)
			}
		}
		var k Kind
		if !errors.As(err, &k) || k != Kind(c) {
			t.Errorf("an error of code %d: errors.As tells %d", c, k)
		}
		var f *Fault
		if !errors.As(err, &f) || f != err {
			t.Errorf("an error of code %d: errors.As tells another Fault", c)
		}
	}
}

// Promise 9.2: an error may be looked for as such: just that one is found.
func TestIsItself(t *testing.T) {
	a, b := New(api.ErrArg, 1, "a"), New(api.ErrArg, 1, "a")
	if c := Wrap(Wrap(a, 0, ""), 0, ""); !errors.Is(c, a) || errors.Is(c, b) {
		t.Error("a Fault is found that is not there, or one that is there isn't")
	}
	if c := Wrap(io.EOF, 0, ""); !errors.Is(c, io.EOF) || errors.Is(c, io.ErrUnexpectedEOF) {
		t.Error("an error is found that is not there, or one that is there isn't")
	}
}

// Promise 9.3: an error's code.
func TestOf(t *testing.T) {
	if c := Of(nil); c != api.OK {
		t.Errorf("of nil: code %d", c)
	}
	for _, c := range allCodes() {
		for i, err := range []error{Kind(c), Wrap(Kind(c), 7, "a"), Wrap(Wrap(Kind(c), 7, "a"), 0, ""), around{Kind(c)}, around{Wrap(Kind(c), 7, "a")}, Wrap(around{Kind(c)}, 7, "a"), errors.Join(io.EOF, Kind(c)), errors.Join(Wrap(Kind(c), 7, "a"), io.EOF)} {
			if got := Of(err); got != c {
				t.Errorf("error %d of code %d: code %d", i, c, got)
			}
		}
		if got := Of(New(c, 7, "a")); got != c {
			t.Errorf("New of code %d: code %d", c, got)
		}
	}
	for _, err := range others() {
		if Of(err) != api.ErrForm || Of(Wrap(err, 7, "a")) != api.ErrForm {
			t.Errorf("%v: code %d; wrapped: %d", err, Of(err), Of(Wrap(err, 7, "a")))
		}
	}
}

// row is an error within Faults of these lines, the first one outside.
func row(err error, lines ...int) error {
	for i := len(lines) - 1; i >= 0; i-- {
		err = Wrap(err, lines[i], "")
	}
	return err
}

// Promise 9.3: of lines the first one above 0 counts, from the outside in.
func TestLine(t *testing.T) {
	for _, x := range []struct {
		lines []int
		want  int
	}{
		{nil, 0},
		{[]int{0}, 0},
		{[]int{-1}, 0},
		{[]int{math.MinInt}, 0},
		{[]int{1}, 1},
		{[]int{7}, 7},
		{[]int{math.MaxInt}, math.MaxInt},
		{[]int{0, 7}, 7},
		{[]int{7, 0}, 7},
		{[]int{9, 7}, 9},
		{[]int{7, 9}, 7},
		{[]int{-9, 7}, 7},
		{[]int{7, -9}, 7},
		{[]int{0, -1, 0, 3, 0, 5}, 3},
		{[]int{0, -1, -2, 0}, 0},
		{[]int{0, 0, 0, 0, 0, 1}, 1},
	} {
		for _, end := range append(others(), Kind(api.ErrArg), Kind(api.OK), &Fault{}, around{&Fault{}}) {
			if got := Line(row(end, x.lines...)); got != x.want {
				t.Errorf("lines %d around %v: line %d; want %d", x.lines, end, got, x.want)
			}
		}
		if got := Line(around{row(around{row(Kind(1), x.lines...)}, 0, -3)}); got != x.want {
			t.Errorf("lines %d, within others: line %d; want %d", x.lines, got, x.want)
		}
	}
	if got := Line(nil); got != 0 {
		t.Errorf("line of nil: %d", got)
	}
}

// Promise 9.3: what an error says.
func TestText(t *testing.T) {
	inner := New(api.ErrRange, 7, "lines")
	for i, x := range []struct {
		err  error
		want string
	}{
		{nil, ""},
		{New(api.OK, 7, "lines"), ""},
		{Wrap(nil, 7, "lines"), ""},
		{inner, "line 7: lines: range"},
		{Wrap(inner, 0, "console a"), "console a: line 7: lines: range"},
		{Wrap(Wrap(inner, 0, "console a"), 9, "conf"), "line 9: conf: console a: line 7: lines: range"},
		{Wrap(inner, 0, ""), "line 7: lines: range"},
		{Wrap(inner, -3, ""), "line 7: lines: range"},
		{Wrap(inner, 3, ""), "line 3: line 7: lines: range"},
		{Wrap(inner, -3, "a"), "a: line 7: lines: range"},
		{New(api.ErrRange, 0, ""), "range"},
		{New(api.ErrIO, 1, ""), "line 1: device"},
		{New(api.ErrIO, 0, "a"), "a: device"},
		{New(api.ErrIO, math.MaxInt, "a"), "line 9223372036854775807: a: device"},
		{New(api.ErrIO, math.MinInt, "a"), "a: device"},
		{New(16, 0, "a"), "a: code 16"},
		{New(-1, 0, "a"), "a: code -1"},
		{Kind(api.ErrCut), "cut"},
		{Kind(api.OK), ""},
		{Kind(99), "code 99"},
		{Wrap(Kind(api.OK), 7, "a"), "line 7: a"},
		{Wrap(Kind(api.OK), 0, ""), ""},
		{Wrap(Wrap(Kind(api.OK), 0, "b"), 7, ""), "line 7: b"},
		// What looks like a part is a text, as any.
		{New(api.ErrArg, 7, ": "), "line 7: : : argument"},
		{New(api.ErrArg, 7, " "), "line 7:  : argument"},
		{New(api.ErrArg, 0, "line 7"), "line 7: argument"},
		{New(api.ErrArg, 0, "\x00\xff\n"), "\x00\xff\n: argument"},
		// Of other errors nothing is told.
		{io.EOF, "form"},
		{around{io.EOF}, "form"},
		{Wrap(io.EOF, 7, "a"), "line 7: a: form"},
		{around{inner}, "line 7: lines: range"},
		{Wrap(around{inner}, 0, "b"), "b: line 7: lines: range"},
		{around{around{Wrap(around{around{inner}}, 2, "")}}, "line 2: line 7: lines: range"},
		{around{Kind(api.ErrBusy)}, "busy"},
	} {
		if got := Text(x.err); got != x.want {
			t.Errorf("text %d: %q; want %q", i, got, x.want)
		}
		if f, ok := x.err.(*Fault); ok && f.Error() != x.want {
			t.Errorf("text %d: the Fault says %q; want %q", i, f.Error(), x.want)
		}
	}
}

// told is what a row of Faults around an error says, told in the plainest way.
func told(lines []int, whats []string, word string) string {
	s := ""
	for i, line := range lines {
		if line > 0 {
			s += "line " + strconv.Itoa(line) + ": "
		}
		if whats[i] != "" {
			s += whats[i] + ": "
		}
	}
	if word == "" {
		return strings.TrimSuffix(s, ": ")
	}
	return s + word
}

// eachRow goes through all rows of so many Faults, of some lines and texts, the first one outside.
func eachRow(n int, do func(lines []int, whats []string)) {
	var deeper func(lines []int, whats []string)
	deeper = func(lines []int, whats []string) {
		do(lines, whats)
		if len(lines) == n {
			return
		}
		for _, line := range []int{-1, 0, 1, 12} {
			for _, what := range []string{"", "a", "lines"} {
				deeper(append(slices.Clone(lines), line), append(slices.Clone(whats), what))
			}
		}
	}
	deeper(nil, nil)
}

// Promises 9.2 and 9.3: of all rows of up to three Faults around an error.
func TestRows(t *testing.T) {
	ends := map[error]api.Code{Kind(api.OK): api.OK, Kind(api.ErrArg): api.ErrArg, Kind(api.ErrLimit): api.ErrLimit, Kind(16): 16, io.EOF: api.ErrForm}
	eachRow(3, func(lines []int, whats []string) {
		line := 0
		if i := slices.IndexFunc(lines, func(n int) bool { return n > 0 }); i >= 0 {
			line = lines[i]
		}
		for end, code := range ends {
			err := end
			for i := len(lines) - 1; i >= 0; i-- {
				err = Wrap(err, lines[i], whats[i])
			}
			if got, want := Text(err), told(lines, whats, Word(code)); got != want {
				t.Errorf("%d, %q around %v: %q; want %q", lines, whats, end, got, want)
			}
			if Of(err) != code || Line(err) != line {
				t.Errorf("%d, %q around %v: code %d, line %d; want %d, %d", lines, whats, end, Of(err), Line(err), code, line)
			}
			if Has(err, code) != (code != api.OK && end != io.EOF) || Has(err, api.ErrSum) {
				t.Errorf("%d, %q around %v: Has of %d is %v", lines, whats, end, code, Has(err, code))
			}
		}
	})
}

// Promise 9.4: what is wrapped has the code that it had, and its text at the end.
func TestWrapKeeps(t *testing.T) {
	all := append(others(), &Fault{}, &Fault{Line: 3}, around{New(api.ErrForm, 3, "a")}, errors.Join(io.EOF, New(api.ErrForm, 3, "a"), Kind(api.ErrArg)))
	for _, c := range allCodes() {
		all = append(all, Kind(c), Wrap(Kind(c), 3, "a"), Wrap(Wrap(Kind(c), 0, "a"), 9, ""))
	}
	for _, err := range all {
		for _, line := range lines {
			for _, what := range texts {
				w := Wrap(err, line, what)
				if Of(w) != Of(err) || !strings.HasSuffix(Text(w), Text(err)) {
					t.Errorf("%q wrapped with %d and %.40q: code %d, %.80q; it had code %d", Text(err), line, what, Of(w), Text(w), Of(err))
				}
				for _, c := range []api.Code{api.OK, api.ErrArg, api.ErrForm, Of(err)} {
					if Has(w, c) != Has(err, c) {
						t.Errorf("%q wrapped with %d and %.40q: Has of %d is %v", Text(err), line, what, c, Has(w, c))
					}
				}
				if line > 0 && Line(w) != line || line <= 0 && Line(w) != Line(err) {
					t.Errorf("%q wrapped with %d and %.40q: line %d", Text(err), line, what, Line(w))
				}
			}
		}
	}
}

// Promise 9.4: however often an error is wrapped.
func TestDeep(t *testing.T) {
	const deep = 1 << 16
	err := New(api.ErrCut, 5, "end")
	for range deep - 2 {
		err = Wrap(err, 0, "a")
	}
	if Of(err) != api.ErrCut || Line(err) != 5 || !Has(err, api.ErrCut) || Has(err, api.ErrForm) {
		t.Errorf("code %d, line %d", Of(err), Line(err))
	}
	if want := strings.Repeat("a: ", deep-2) + "line 5: end: cut"; Text(err) != want || err.Error() != want {
		t.Errorf("%.80q; want %.80q", Text(err), want)
	}
}

// Promises 9.1 to 9.3: what is asked is not changed, and answers again what it answered.
func TestAskedTwice(t *testing.T) {
	inner := New(api.ErrRange, 7, "lines")
	err := Wrap(around{inner}, 0, "console a")
	for range 3 {
		if Text(err) != "console a: line 7: lines: range" || err.Error() != Text(err) || Line(err) != 7 || Of(err) != api.ErrRange || !Has(err, api.ErrRange) {
			t.Errorf("%q, line %d, code %d", Text(err), Line(err), Of(err))
		}
		isFault(t, err, 0, "console a", around{inner})
		isFault(t, inner, 7, "lines", Kind(api.ErrRange))
	}
}

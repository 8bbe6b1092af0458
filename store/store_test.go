package store

import (
	"cmp"
	"errors"
	"math"
	"math/rand"
	"slices"
	"strings"
	"testing"

	"wheelhouse/api"
	"wheelhouse/fault"
)

// extremes: numbers far below what is named, and far above.
var (
	faraway = []int{math.MinInt, math.MinInt + 1, -1 << 32, -1 << 24, -2, -1}
	beyond  = []int{1<<24 + 1, 1<<24 + 2, 1 << 31, 1 << 32, 1<<32 + 1, 1 << 62, math.MaxInt}
)

// room is a store that has room for so many bytes.
func room(t *testing.T, most int) *Store {
	t.Helper()
	s, err := New(most)
	if err != nil || s == nil {
		t.Fatalf("New(%d): %v, a store: %t", most, err, s != nil)
	}
	return s
}

// want: an error is of a code, and says nothing else.
func want(t *testing.T, what string, err error, c api.Code) {
	t.Helper()
	if c == api.OK {
		if err != nil {
			t.Errorf("%s: %v, not nil", what, err)
		}
		return
	}
	if err == nil {
		t.Errorf("%s: nil, not %s", what, fault.Word(c))
		return
	}
	if !fault.Has(err, c) || fault.Of(err) != c || fault.Line(err) != 0 || err.Error() != fault.Word(c) {
		t.Errorf("%s: %q, not %s alone", what, err, fault.Word(c))
	}
	var f *fault.Fault
	if !errors.As(err, &f) {
		t.Errorf("%s: %q is no Fault", what, err)
	}
}

// put appends bytes to a file, all of which are to find room.
func put(t *testing.T, s *Store, name, bytes string) {
	t.Helper()
	want(t, "Append "+name, s.Append(name, bytes), api.OK)
}

// sync makes a file sure that is there.
func sync(t *testing.T, s *Store, name string) {
	t.Helper()
	want(t, "Sync "+name, s.Sync(name), api.OK)
}

// disk is a store as the document says what one is: a list of files, gone through each time.
type disk struct {
	most, fails int
	files       []kept
}

// kept is a file: what is sure, and what is not.
type kept struct{ name, sure, rest string }

func (k kept) all() string { return k.sure + k.rest }

func (d *disk) find(name string) int {
	return slices.IndexFunc(d.files, func(k kept) bool { return k.name == name })
}

func (d *disk) total() int {
	n := 0
	for _, k := range d.files {
		n += len(k.all())
	}
	return n
}

// plainName: the words of 11.1 on names.
func plainName(name string) bool {
	bad := func(r rune) bool { return r < 33 || r > 126 || r == '/' }
	return len(name) >= 1 && len(name) <= 64 && !strings.ContainsFunc(name, bad)
}

// stopped is what stops a call, whatever it is to do.
func (d *disk) stopped(name string) (api.Code, bool) {
	if !plainName(name) {
		return api.ErrArg, true
	}
	if d.fails > 0 {
		d.fails--
		return api.ErrIO, true
	}
	return api.OK, false
}

func (d *disk) append(name, bytes string) api.Code {
	if c, is := d.stopped(name); is {
		return c
	}
	if d.total()+len(bytes) > d.most {
		return api.ErrFull
	}
	i := d.find(name)
	if i < 0 {
		d.files = append(d.files, kept{name: name})
		i = len(d.files) - 1
	}
	d.files[i].rest += bytes
	return api.OK
}

func (d *disk) sync(name string) api.Code {
	if c, is := d.stopped(name); is {
		return c
	}
	i := d.find(name)
	if i < 0 {
		return api.ErrNone
	}
	d.files[i] = kept{name: name, sure: d.files[i].all()}
	return api.OK
}

func (d *disk) rename(from, to string) api.Code {
	if c, is := d.stopped(from); is {
		return c
	}
	if !plainName(to) {
		return api.ErrArg
	}
	if d.find(from) < 0 {
		return api.ErrNone
	}
	if from == to {
		return api.OK
	}
	if i := d.find(to); i >= 0 {
		d.files = slices.Delete(d.files, i, i+1)
	}
	d.files[d.find(from)].name = to
	return api.OK
}

func (d *disk) remove(name string) api.Code {
	if c, is := d.stopped(name); is {
		return c
	}
	i := d.find(name)
	if i < 0 {
		return api.ErrNone
	}
	d.files = slices.Delete(d.files, i, i+1)
	return api.OK
}

func (d *disk) fail(n int) {
	d.fails = 0
	if n >= 1 {
		d.fails = n
	}
}

func (d *disk) crash(keep []int) {
	d.fails = 0
	slices.SortFunc(d.files, func(a, b kept) int { return cmp.Compare(a.name, b.name) })
	for i := range d.files {
		k := &d.files[i]
		if i < len(keep) {
			for n := 0; n < keep[i] && k.rest != ""; n++ {
				k.sure += k.rest[:1]
				k.rest = k.rest[1:]
			}
		}
		k.rest = ""
	}
}

func (d *disk) copy() *disk {
	return &disk{most: d.most, fails: d.fails, files: slices.Clone(d.files)}
}

// look holds all that a store tells against what a plain one has.
func look(t *testing.T, s *Store, d *disk, names []string) {
	t.Helper()
	var there []string
	for _, k := range d.files {
		there = append(there, k.name)
	}
	slices.Sort(there)
	if got := s.Names(); !slices.Equal(got, there) {
		t.Fatalf("Names: %q, not %q", got, there)
	}
	if got := s.Total(); got != d.total() {
		t.Fatalf("Total: %d, not %d", got, d.total())
	}
	for _, name := range append(there, names...) {
		var k kept
		i := d.find(name)
		if i >= 0 {
			k = d.files[i]
		}
		if got, ok := s.Read(name); got != k.all() || ok != (i >= 0) {
			t.Fatalf("Read(%q): %q, %t, not %q, %t", name, got, ok, k.all(), i >= 0)
		}
		if n, sure := s.Size(name); n != len(k.all()) || sure != len(k.sure) {
			t.Fatalf("Size(%q): %d, %d, not %d, %d", name, n, sure, len(k.all()), len(k.sure))
		}
	}
}

// files: a store that has room for a hundred bytes, and these files, each of which has so many sure bytes.
func files(t *testing.T, l ...kept) *Store {
	t.Helper()
	s := room(t, 100)
	for _, k := range l {
		put(t, s, k.name, k.sure)
		sync(t, s, k.name)
		put(t, s, k.name, k.rest)
	}
	return s
}

// like: a store has these files, and no others, and room for a hundred bytes; how many calls are to fail is not asked.
func like(t *testing.T, s *Store, l ...kept) {
	t.Helper()
	look(t, s, &disk{most: 100, files: l}, []string{"", "none"})
}

// Promise 11.1: the constants.
func TestConstants(t *testing.T) {
	if Most != 16777216 || Long != 64 {
		t.Error(Most, Long)
	}
}

// Promise 11.1: New makes a store without files, for 1 byte to Most; else it tells ErrRange, and there is none.
func TestNew(t *testing.T) {
	for _, most := range []int{1, 2, 3, 100, 4096, 1 << 16, Most - 1, Most} {
		s := room(t, most)
		look(t, s, &disk{most: most}, []string{"", "a"})
	}
	for _, most := range append(append([]int{0}, faraway...), beyond...) {
		s, err := New(most)
		want(t, "New", err, api.ErrRange)
		if s != nil {
			t.Errorf("New(%d): a store", most)
		}
	}
}

// Promise 11.1: each store has files of its own.
func TestNewApart(t *testing.T) {
	a, b := room(t, 5), room(t, 5)
	put(t, a, "x", "abcde")
	put(t, b, "y", "abc")
	a.Fail(1)
	put(t, b, "y", "de")
	look(t, a, &disk{most: 5, files: []kept{{"x", "", "abcde"}}}, []string{"y"})
	look(t, b, &disk{most: 5, files: []kept{{"y", "", "abcde"}}}, []string{"x"})
}

// asked: what all calls with a name tell of it.
func asked(t *testing.T, name string, c api.Code) {
	t.Helper()
	s := files(t, kept{"a", "bc", "d"})
	none := c
	if c == api.OK {
		none = api.ErrNone
	}
	want(t, "Sync", s.Sync(name), none)
	want(t, "Rename from", s.Rename(name, "b"), none)
	want(t, "Rename from, to", s.Rename(name, name), none)
	want(t, "Remove", s.Remove(name), none)
	like(t, s, kept{"a", "bc", "d"})
	want(t, "Append", s.Append(name, "e"), c)
	if got, ok := s.Read(name); (got == "e") != (c == api.OK) || ok != (c == api.OK) {
		t.Errorf("Read(%q): %q, %t", name, got, ok)
	}
	want(t, "Rename to", s.Rename("a", name), c)
	if c != api.OK {
		like(t, s, kept{"a", "bc", "d"})
		return
	}
	like(t, s, kept{name, "bc", "d"})
	want(t, "Remove", s.Remove(name), api.OK)
	like(t, s)
}

// Promises 11.1 and 11.2: a name has 1 to 64 bytes, from 33 to 126, none of which is a slash; each byte at each of some places.
func TestNames(t *testing.T) {
	for _, n := range []int{1, 2, 3, 31, 32, 33, 63, 64} {
		asked(t, strings.Repeat("x", n), api.OK)
		for c := range 256 {
			code := api.OK
			if c <= 32 || c >= 127 || c == 47 {
				code = api.ErrArg
			}
			for _, at := range []int{0, n / 2, n - 1} {
				name := []byte(strings.Repeat("a", n))
				name[at] = byte(c)
				if s := string(name); s != "a" {
					asked(t, s, code)
				}
			}
		}
	}
	for _, n := range []int{0, 65, 66, 128, 256, 257, 320, 1 << 16, 1<<16 + 1} {
		asked(t, strings.Repeat("x", n), api.ErrArg)
	}
	for _, name := range []string{".", "..", "web1.log.0", "\\", "*", "-", "~", "!", "\"'", "con:"} {
		asked(t, name, api.OK)
	}
	for _, name := range []string{"a/b", "/", "/a", "a/", "a b", " a", "a ", "a\n", "\ta", "a\x00", "ä", "aä", "日", "a\x7f", "a\x80", "\xff"} {
		asked(t, name, api.ErrArg)
	}
}

// Promise 11.1: names alike but for case, or of which one begins with another, are names of several files.
func TestNamesApart(t *testing.T) {
	s := room(t, 100)
	names := []string{"a", "A", "aa", "a.", "a-", "b", "~", "!", "Z", "_"}
	var l []kept
	for _, name := range names {
		put(t, s, name, "of "+name)
		l = append(l, kept{name, "", "of " + name})
	}
	like(t, s, l...)
	if got := s.Names(); !slices.Equal(got, []string{"!", "A", "Z", "_", "a", "a-", "a.", "aa", "b", "~"}) {
		t.Errorf("Names: %q", got)
	}
}

// Promise 11.1: Read, Size, Names and Total: of a file that is there, even if it is empty, and of one that is not.
func TestTold(t *testing.T) {
	s := files(t, kept{"x", "ab", "cde"}, kept{"y", "", "f"}, kept{"z", "gh", ""}, kept{"e", "", ""})
	like(t, s, kept{"e", "", ""}, kept{"x", "ab", "cde"}, kept{"y", "", "f"}, kept{"z", "gh", ""})
	if got, ok := s.Read("e"); got != "" || !ok {
		t.Errorf("Read of an empty file: %q, %t", got, ok)
	}
	if got, ok := s.Read("none"); got != "" || ok {
		t.Errorf("Read of no file: %q, %t", got, ok)
	}
	if n, sure := s.Size("x"); n != 5 || sure != 2 {
		t.Errorf("Size: %d, %d", n, sure)
	}
	for range 100 {
		if got := s.Names(); !slices.Equal(got, []string{"e", "x", "y", "z"}) {
			t.Fatalf("Names: %q", got)
		}
	}
	if s.Total() != 8 {
		t.Errorf("Total: %d", s.Total())
	}
}

// Promise 11.1 and R3: what Names answers is new each time.
func TestNamesNew(t *testing.T) {
	s := files(t, kept{"x", "a", ""}, kept{"y", "b", ""})
	got := s.Names()
	got[0], got[1] = "q", "r"
	_ = append(got[:1], "z", "zz", "zzz")
	like(t, s, kept{"x", "a", ""}, kept{"y", "b", ""})
}

// Promise 11.1: a store that nobody made tells ErrNil, has nothing, does nothing, and its Copy is nil.
func TestNobodyMade(t *testing.T) {
	for _, s := range []*Store{nil, {}} {
		for range 2 {
			s.Fail(2)
			s.Crash()
			s.Crash(1, 2)
			for _, name := range []string{"a", "", "a/b", strings.Repeat("a", 65)} {
				want(t, "Append", s.Append(name, "b"), api.ErrNil)
				want(t, "Append", s.Append(name, ""), api.ErrNil)
				want(t, "Sync", s.Sync(name), api.ErrNil)
				want(t, "Rename", s.Rename(name, "b"), api.ErrNil)
				want(t, "Rename", s.Rename("b", name), api.ErrNil)
				want(t, "Remove", s.Remove(name), api.ErrNil)
				if got, ok := s.Read(name); got != "" || ok {
					t.Errorf("Read: %q, %t", got, ok)
				}
				if n, sure := s.Size(name); n != 0 || sure != 0 {
					t.Errorf("Size: %d, %d", n, sure)
				}
			}
			if len(s.Names()) != 0 || s.Total() != 0 {
				t.Errorf("Names: %q, Total: %d", s.Names(), s.Total())
			}
			if s.Copy() != nil {
				t.Error("Copy: a store")
			}
		}
	}
}

// Promise 11.2: bytes stand behind those of the file, whatever they are, and none of them is sure; what is sure stays so.
func TestAppend(t *testing.T) {
	s := room(t, 100)
	put(t, s, "x", "abc")
	like(t, s, kept{"x", "", "abc"})
	put(t, s, "x", "")
	like(t, s, kept{"x", "", "abc"})
	put(t, s, "x", "\x00\xff\n/ ")
	like(t, s, kept{"x", "", "abc\x00\xff\n/ "})
	sync(t, s, "x")
	put(t, s, "x", "de")
	put(t, s, "x", "f")
	like(t, s, kept{"x", "abc\x00\xff\n/ ", "def"})
	put(t, s, "y", "g")
	like(t, s, kept{"x", "abc\x00\xff\n/ ", "def"}, kept{"y", "", "g"})
	put(t, s, "x", "h")
	like(t, s, kept{"x", "abc\x00\xff\n/ ", "defh"}, kept{"y", "", "g"})
}

// Promise 11.2: a file to which no bytes are appended is there, too; it needs no room.
func TestAppendNothing(t *testing.T) {
	s := room(t, 100)
	put(t, s, "e", "")
	like(t, s, kept{"e", "", ""})
	put(t, s, "x", strings.Repeat("a", 100))
	put(t, s, "f", "")
	put(t, s, "x", "")
	like(t, s, kept{"e", "", ""}, kept{"f", "", ""}, kept{"x", "", strings.Repeat("a", 100)})
}

// Promise 11.2: Append tells ErrFull where there would be more than most bytes in all, whatever file they are for; then no file is made.
func TestFull(t *testing.T) {
	for _, most := range []int{1, 2, 3, 10, 100} {
		for had := range most + 1 {
			for n := range most + 3 {
				s := room(t, most)
				d := &disk{most: most}
				a, b := strings.Repeat("a", had/2), strings.Repeat("b", had-had/2)
				put(t, s, "x", a)
				put(t, s, "y", b)
				d.append("x", a)
				d.append("y", b)
				c := api.OK
				if had+n > most {
					c = api.ErrFull
				}
				for _, name := range []string{"x", "z"} {
					one, plain := s.Copy(), d.copy()
					want(t, "Append", one.Append(name, strings.Repeat("c", n)), c)
					plain.append(name, strings.Repeat("c", n))
					look(t, one, plain, []string{"z"})
				}
			}
		}
	}
}

// Promise 11.2: what is removed, or is gone since another file has its name, or was not sure in a crash, leaves room.
func TestRoomAgain(t *testing.T) {
	s := room(t, 4)
	put(t, s, "x", "abc")
	want(t, "Append", s.Append("y", "de"), api.ErrFull)
	want(t, "Remove", s.Remove("x"), api.OK)
	put(t, s, "y", "de")
	put(t, s, "z", "fg")
	want(t, "Append", s.Append("z", "h"), api.ErrFull)
	want(t, "Rename", s.Rename("z", "y"), api.OK)
	want(t, "Append", s.Append("y", "hij"), api.ErrFull)
	put(t, s, "y", "hi")
	look(t, s, &disk{most: 4, files: []kept{{"y", "", "fghi"}}}, nil)
	s.Crash(1)
	want(t, "Append", s.Append("y", "hijk"), api.ErrFull)
	put(t, s, "y", "hij")
	look(t, s, &disk{most: 4, files: []kept{{"y", "f", "hij"}}}, nil)
}

// Promise 11.2: Sync makes all of a file's bytes sure, of that one alone; ErrNone: there is none.
func TestSync(t *testing.T) {
	s := files(t, kept{"x", "ab", "cde"}, kept{"y", "", "f"}, kept{"e", "", ""})
	sync(t, s, "x")
	like(t, s, kept{"x", "abcde", ""}, kept{"y", "", "f"}, kept{"e", "", ""})
	sync(t, s, "x")
	sync(t, s, "e")
	want(t, "Sync", s.Sync("z"), api.ErrNone)
	like(t, s, kept{"x", "abcde", ""}, kept{"y", "", "f"}, kept{"e", "", ""})
}

// Promise 11.2: a file gets another name, with what is sure of it; another one of that name is gone.
func TestRename(t *testing.T) {
	s := files(t, kept{"x", "ab", "cde"}, kept{"y", "f", "gh"}, kept{"z", "", "ij"})
	want(t, "Rename", s.Rename("x", "w"), api.OK)
	like(t, s, kept{"w", "ab", "cde"}, kept{"y", "f", "gh"}, kept{"z", "", "ij"})
	want(t, "Rename", s.Rename("w", "y"), api.OK)
	like(t, s, kept{"y", "ab", "cde"}, kept{"z", "", "ij"})
	want(t, "Rename", s.Rename("z", "x"), api.OK)
	like(t, s, kept{"x", "", "ij"}, kept{"y", "ab", "cde"})
	want(t, "Rename", s.Rename("x", "x"), api.OK)
	want(t, "Rename", s.Rename("y", "y"), api.OK)
	like(t, s, kept{"x", "", "ij"}, kept{"y", "ab", "cde"})
	want(t, "Rename", s.Rename("z", "y"), api.ErrNone)
	want(t, "Rename", s.Rename("z", "z"), api.ErrNone)
	want(t, "Rename", s.Rename("z", "a/b"), api.ErrArg)
	want(t, "Rename", s.Rename("y", ""), api.ErrArg)
	want(t, "Rename", s.Rename("", "y"), api.ErrArg)
	want(t, "Rename", s.Rename("", ""), api.ErrArg)
	like(t, s, kept{"x", "", "ij"}, kept{"y", "ab", "cde"})
}

// Promise 11.2: what was appended to a file under its old name does not come to another one that has that name later.
func TestRenameApart(t *testing.T) {
	s := files(t, kept{"x", "ab", "cde"})
	want(t, "Rename", s.Rename("x", "y"), api.OK)
	put(t, s, "x", "f")
	put(t, s, "y", "g")
	put(t, s, "x", "h")
	like(t, s, kept{"x", "", "fh"}, kept{"y", "ab", "cdeg"})
}

// Promise 11.2: a file that is removed is gone, and begins anew if it is appended to; ErrNone: there is none.
func TestRemove(t *testing.T) {
	s := files(t, kept{"x", "ab", "cde"}, kept{"y", "f", ""}, kept{"e", "", ""})
	want(t, "Remove", s.Remove("x"), api.OK)
	like(t, s, kept{"y", "f", ""}, kept{"e", "", ""})
	want(t, "Remove", s.Remove("x"), api.ErrNone)
	want(t, "Remove", s.Remove("e"), api.OK)
	want(t, "Remove", s.Remove("e"), api.ErrNone)
	like(t, s, kept{"y", "f", ""})
	put(t, s, "x", "g")
	like(t, s, kept{"x", "", "g"}, kept{"y", "f", ""})
}

// Promise 11.2: that a file has a name, or none, is sure at once.
func TestNamesSure(t *testing.T) {
	s := files(t, kept{"x", "ab", "cde"}, kept{"y", "f", "gh"}, kept{"z", "i", ""})
	want(t, "Rename", s.Rename("x", "w"), api.OK)
	want(t, "Remove", s.Remove("z"), api.OK)
	put(t, s, "e", "jk")
	s.Crash()
	like(t, s, kept{"e", "", ""}, kept{"w", "ab", ""}, kept{"y", "f", ""})
}

// failing: each call that writes, which would do something to the files x and y.
var failing = []string{"Append", "Sync", "Rename", "Remove"}

// write makes one of these calls.
func write(s *Store, call, name string) error {
	switch call {
	case "Append":
		return s.Append(name, "z")
	case "Sync":
		return s.Sync(name)
	case "Rename":
		return s.Rename(name, "w")
	}
	return s.Remove(name)
}

// Promise 11.3: the next n calls that write tell ErrIO, and do nothing; what comes behind them is done again.
func TestFail(t *testing.T) {
	for _, call := range failing {
		for n := range 5 {
			s := files(t, kept{"x", "ab", "cd"}, kept{"y", "e", ""})
			s.Fail(n)
			for range n {
				want(t, call, write(s, call, "x"), api.ErrIO)
				like(t, s, kept{"x", "ab", "cd"}, kept{"y", "e", ""})
			}
			want(t, call, write(s, call, "x"), api.OK)
			want(t, call, write(s, "Append", "y"), api.OK)
			if got, _ := s.Read("y"); got != "ez" {
				t.Errorf("%s: %q", call, got)
			}
		}
	}
}

// Promise 11.3: what does not write does not fail, and does not count.
func TestFailReads(t *testing.T) {
	s := files(t, kept{"x", "ab", "cd"}, kept{"y", "e", ""})
	s.Fail(2)
	like(t, s, kept{"x", "ab", "cd"}, kept{"y", "e", ""})
	s.Copy()
	for _, call := range failing[:2] {
		want(t, call, write(s, call, "x"), api.ErrIO)
	}
	want(t, "Sync", s.Sync("x"), api.OK)
}

// Promises 11.2 and 11.3: a name that may be none is told ahead of a failure, and is no call that fails.
func TestFailNames(t *testing.T) {
	for _, call := range failing {
		s := files(t, kept{"x", "ab", "cd"})
		s.Fail(1)
		for _, name := range []string{"", "a/b", " ", strings.Repeat("a", 65), "\xff"} {
			want(t, call, write(s, call, name), api.ErrArg)
		}
		want(t, call, write(s, call, "x"), api.ErrIO)
		like(t, s, kept{"x", "ab", "cd"})
		want(t, call, write(s, call, "x"), api.OK)
	}
}

// Promises 11.2 and 11.3: a failure is told ahead of all else: no room, no file, a name that the file can't have.
func TestFailFirst(t *testing.T) {
	s := files(t, kept{"x", "ab", "cd"})
	s.Fail(6)
	want(t, "Append", s.Append("x", strings.Repeat("a", 101)), api.ErrIO)
	want(t, "Append", s.Append("y", ""), api.ErrIO)
	want(t, "Sync", s.Sync("y"), api.ErrIO)
	want(t, "Rename", s.Rename("x", "a/b"), api.ErrIO)
	want(t, "Rename", s.Rename("y", "z"), api.ErrIO)
	want(t, "Remove", s.Remove("y"), api.ErrIO)
	like(t, s, kept{"x", "ab", "cd"})
	want(t, "Append", s.Append("x", strings.Repeat("a", 101)), api.ErrFull)
	want(t, "Sync", s.Sync("y"), api.ErrNone)
	want(t, "Rename", s.Rename("x", "a/b"), api.ErrArg)
	want(t, "Rename", s.Rename("y", "z"), api.ErrNone)
	want(t, "Remove", s.Remove("y"), api.ErrNone)
	like(t, s, kept{"x", "ab", "cd"})
}

// Promise 11.3: a call that tells another error would have failed, too: it counts, if it is to fail, and not else.
func TestFailCounts(t *testing.T) {
	s := files(t, kept{"x", "ab", "cd"})
	s.Fail(1)
	want(t, "Remove", s.Remove("y"), api.ErrIO)
	want(t, "Remove", s.Remove("y"), api.ErrNone)
	want(t, "Remove", s.Remove("x"), api.OK)
}

// Promise 11.3: Fail says it anew: as many as it names last, none below 1.
func TestFailAnew(t *testing.T) {
	for _, n := range append([]int{0}, faraway...) {
		s := files(t, kept{"x", "ab", "cd"})
		s.Fail(n)
		want(t, "Sync", s.Sync("x"), api.OK)
		s.Fail(5)
		s.Fail(n)
		want(t, "Sync", s.Sync("x"), api.OK)
		s.Fail(1)
		want(t, "Sync", s.Sync("x"), api.ErrIO)
		want(t, "Sync", s.Sync("x"), api.OK)
	}
	s := files(t, kept{"x", "ab", "cd"})
	s.Fail(3)
	s.Fail(1)
	want(t, "Sync", s.Sync("x"), api.ErrIO)
	want(t, "Sync", s.Sync("x"), api.OK)
	s.Fail(1)
	s.Fail(2)
	want(t, "Sync", s.Sync("x"), api.ErrIO)
	want(t, "Sync", s.Sync("x"), api.ErrIO)
	want(t, "Sync", s.Sync("x"), api.OK)
}

// Promise 11.3: however many are to fail.
func TestFailMany(t *testing.T) {
	for _, n := range append([]int{1000, 1 << 16}, beyond...) {
		s := files(t, kept{"x", "ab", "cd"})
		s.Fail(n)
		for range 1000 {
			want(t, "Append", s.Append("x", "e"), api.ErrIO)
		}
		if n == 1000 {
			want(t, "Append", s.Append("x", "e"), api.OK)
			continue
		}
		want(t, "Append", s.Append("x", "e"), api.ErrIO)
		like(t, s, kept{"x", "ab", "cd"})
		s.Fail(0)
		want(t, "Append", s.Append("x", "e"), api.OK)
	}
}

// Promise 11.4: the document's example.
func TestExample(t *testing.T) {
	s := room(t, 100)
	put(t, s, "x", "abc")
	sync(t, s, "x")
	put(t, s, "x", "defg")
	s.Crash(2)
	like(t, s, kept{"x", "abcde", ""})
}

// Promise 11.4: of each file that stays which is sure, and as many bytes more as its number says; each number from below to beyond.
func TestCrash(t *testing.T) {
	for sure := range 4 {
		for rest := range 4 {
			numbers := append(append([]int{0, 1, 2, 3, 4, 5, 100}, faraway...), beyond...)
			for _, n := range numbers {
				k := kept{"x", "abc"[:sure], "def"[:rest]}
				s := files(t, k)
				s.Crash(n)
				stays := k.all()[:sure+max(0, min(n, rest))]
				like(t, s, kept{"x", stays, ""})
				s.Crash(rest)
				like(t, s, kept{"x", stays, ""})
			}
		}
	}
}

// Promise 11.4: the numbers stand in the order of Names, whatever the order in which files came; where none stands, no byte that is not sure stays.
func TestCrashOrder(t *testing.T) {
	l := []kept{{"c", "3", "cccc"}, {"a", "1", "aaaa"}, {"b", "", "bbbb"}, {"d", "4", ""}}
	for _, one := range []struct {
		keep []int
		want []string
	}{
		{nil, []string{"1", "", "3", "4"}},
		{[]int{1}, []string{"1a", "", "3", "4"}},
		{[]int{1, 2}, []string{"1a", "bb", "3", "4"}},
		{[]int{1, 2, 3}, []string{"1a", "bb", "3ccc", "4"}},
		{[]int{0, 0, 3}, []string{"1", "", "3ccc", "4"}},
		{[]int{-1, -5, 3, 7}, []string{"1", "", "3ccc", "4"}},
		{[]int{4, 5, -3, 0, 9, 9}, []string{"1aaaa", "bbbb", "3", "4"}},
		{[]int{0, 0, 0, 0, 4, 4, 4, 4}, []string{"1", "", "3", "4"}},
	} {
		s := files(t, l...)
		s.Crash(one.keep...)
		var now []kept
		for i, name := range []string{"a", "b", "c", "d"} {
			now = append(now, kept{name, one.want[i], ""})
		}
		like(t, s, now...)
	}
}

// Promise 11.4: behind a crash no call is to fail, and bytes are appended behind what stayed.
func TestCrashThen(t *testing.T) {
	s := files(t, kept{"x", "ab", "cd"}, kept{"y", "", "ef"})
	s.Fail(100)
	s.Crash(1)
	put(t, s, "x", "g")
	put(t, s, "y", "h")
	like(t, s, kept{"x", "abc", "g"}, kept{"y", "", "h"})
	s.Fail(1)
	s.Crash(1, 1)
	sync(t, s, "x")
	like(t, s, kept{"x", "abcg", ""}, kept{"y", "h", ""})
}

// Promise 11.4: a crash of a store that has no files.
func TestCrashEmpty(t *testing.T) {
	s := room(t, 100)
	s.Fail(1)
	s.Crash(1, 2, 3)
	like(t, s)
	put(t, s, "x", "a")
	like(t, s, kept{"x", "", "a"})
}

// Promise 11.4 and R3: the numbers that a crash is told are not changed, nor what stands behind them.
func TestCrashNumbers(t *testing.T) {
	l := []int{3, -1, 1, 9, 9}
	s := files(t, kept{"x", "ab", "cd"}, kept{"y", "", "ef"}, kept{"z", "", "gh"})
	s.Crash(l[:2]...)
	like(t, s, kept{"x", "abcd", ""}, kept{"y", "", ""}, kept{"z", "", ""})
	if !slices.Equal(l, []int{3, -1, 1, 9, 9}) {
		t.Error(l)
	}
}

// Promise 11.4: a copy is like the store: its files, its room, and how many calls are to fail.
func TestCopy(t *testing.T) {
	s := room(t, 10)
	put(t, s, "x", "ab")
	sync(t, s, "x")
	put(t, s, "x", "cd")
	put(t, s, "e", "")
	s.Fail(2)
	c := s.Copy()
	for _, one := range []*Store{c, s} {
		look(t, one, &disk{files: []kept{{"e", "", ""}, {"x", "ab", "cd"}}}, []string{"y"})
		want(t, "Append", one.Append("x", "e"), api.ErrIO)
		want(t, "Append", one.Append("x", "e"), api.ErrIO)
		want(t, "Append", one.Append("x", "efghijk"), api.ErrFull)
		want(t, "Append", one.Append("x", "efghij"), api.OK)
		look(t, one, &disk{files: []kept{{"e", "", ""}, {"x", "ab", "cdefghij"}}}, []string{"y"})
	}
	if room(t, 1).Copy() == nil {
		t.Error("no copy of an empty store")
	}
}

// Promise 11.4: a copy is by itself: what befalls one does not befall the other.
func TestCopyApart(t *testing.T) {
	all := []kept{{"x", "ab", "cd"}, {"y", "e", "f"}, {"z", "", "gh"}}
	changes := []func(s *Store){
		func(s *Store) { s.Append("x", "i") },
		func(s *Store) { s.Append("w", "i") },
		func(s *Store) { s.Sync("x") },
		func(s *Store) { s.Rename("x", "w") },
		func(s *Store) { s.Rename("x", "y") },
		func(s *Store) { s.Remove("x") },
		func(s *Store) { s.Crash() },
		func(s *Store) { s.Crash(1, 1, 1); s.Append("x", "z") },
		func(s *Store) { s.Fail(3) },
	}
	for _, change := range changes {
		s := files(t, all...)
		c := s.Copy()
		change(c)
		like(t, s, all...)
		s = files(t, all...)
		c = s.Copy()
		change(s)
		like(t, c, all...)
		put(t, c, "x", "j")
		if got, _ := c.Read("x"); got != "abcdj" {
			t.Errorf("the copy's x: %q", got)
		}
	}
}

// Promise 11.4: bytes that are appended to a store and to its copy do not come into each other.
func TestCopyBytes(t *testing.T) {
	for n := range 40 {
		text := strings.Repeat("a", n)
		s := files(t, kept{"x", text, ""})
		c := s.Copy()
		for range 3 {
			put(t, s, "x", "b")
			put(t, c, "x", "c")
		}
		like(t, s, kept{"x", text, "bbb"})
		like(t, c, kept{"x", text, "ccc"})
		c.Crash()
		put(t, c, "x", "d")
		like(t, s, kept{"x", text, "bbb"})
		like(t, c, kept{"x", text, "d"})
	}
}

// Promise 11.1 and R3: what Read told once stays, whatever befalls the file.
func TestReadStays(t *testing.T) {
	s := files(t, kept{"x", "ab", "cd"})
	got, _ := s.Read("x")
	s.Crash()
	put(t, s, "x", "zzzzzz")
	if got != "abcd" {
		t.Errorf("%q", got)
	}
	like(t, s, kept{"x", "ab", "zzzzzz"})
}

// step is a call that is made of a store and of a plain one.
type step struct {
	kind     int
	name, to string
	n        int
}

// call makes a call that writes, of a store and of a plain one.
func call(s *Store, d *disk, x step) (api.Code, error) {
	switch x.kind {
	case 0:
		err := s.Append(x.name, x.to)
		return d.append(x.name, x.to), err
	case 1:
		err := s.Sync(x.name)
		return d.sync(x.name), err
	case 2:
		err := s.Rename(x.name, x.to)
		return d.rename(x.name, x.to), err
	}
	err := s.Remove(x.name)
	return d.remove(x.name), err
}

// do makes any call of both, and holds what they tell against each other.
func do(t *testing.T, s *Store, d *disk, x step) (*Store, *disk) {
	t.Helper()
	switch x.kind {
	case 4:
		s.Fail(x.n)
		d.fail(x.n)
	case 5:
		s.Crash(x.n, x.n/2, x.n/4)
		d.crash([]int{x.n, x.n / 2, x.n / 4})
	case 6:
		s, d = s.Copy(), d.copy()
	default:
		c, err := call(s, d, x)
		want(t, "a call", err, c)
	}
	return s, d
}

// few: calls of which all rows are made.
var few = []step{
	{kind: 0, name: "a", to: "x"},
	{kind: 0, name: "b", to: "yz"},
	{kind: 0, name: "b", to: ""},
	{kind: 1, name: "a"},
	{kind: 1, name: "b"},
	{kind: 2, name: "a", to: "b"},
	{kind: 2, name: "b", to: "a"},
	{kind: 2, name: "a", to: "a"},
	{kind: 2, name: "b", to: "/"},
	{kind: 3, name: "a"},
	{kind: 3, name: "b"},
	{kind: 4, n: 1},
	{kind: 5},
	{kind: 5, n: 2},
	{kind: 6},
}

// Promises 11.2 to 11.4: all rows of five calls, as a plain store has them.
func TestRows(t *testing.T) {
	var walk func(s *Store, d *disk, left int)
	walk = func(s *Store, d *disk, left int) {
		look(t, s, d, []string{"a", "b"})
		if left == 0 {
			return
		}
		for _, x := range few {
			one, plain := do(t, s.Copy(), d.copy(), x)
			walk(one, plain, left-1)
		}
	}
	walk(room(t, 4), &disk{most: 4}, 5)
}

// chance is a call, somehow.
func chance(r *rand.Rand) step {
	names := []string{"a", "b", "c", "dd", "e.0", "e.1", "", "a/b", " "}
	x := step{kind: []int{0, 0, 0, 0, 1, 1, 2, 2, 3, 4, 5, 6}[r.Intn(12)]}
	x.name = names[r.Intn(len(names))]
	x.to = names[r.Intn(len(names))]
	x.n = r.Intn(12) - 2
	if x.kind == 0 {
		x.to = strings.Repeat(string(rune('a'+r.Intn(26))), r.Intn(8))
	}
	if x.kind == 4 {
		x.n = r.Intn(4) - 1
	}
	return x
}

// Promises 11.2 to 11.4: long rows of calls.
func TestLongRows(t *testing.T) {
	r := rand.New(rand.NewSource(11))
	for range 200 {
		most := 1 + r.Intn(60)
		s, d := room(t, most), &disk{most: most}
		for range 200 {
			s, d = do(t, s, d, chance(r))
			look(t, s, d, []string{"a", "b", "c", "dd", "e.0", "e.1", "", "a/b", " "})
		}
	}
}

// Promise 11.5: behind a crash each file is a beginning of what it was, with all that were sure; all that is there is sure.
func TestBeginnings(t *testing.T) {
	r := rand.New(rand.NewSource(5))
	for range 500 {
		s, d := room(t, 50), &disk{most: 50}
		for range 30 {
			s, d = do(t, s, d, chance(r))
		}
		was := s.Copy()
		s.Crash(r.Intn(9)-2, r.Intn(9)-2, r.Intn(9)-2)
		if !slices.Equal(s.Names(), was.Names()) {
			t.Fatalf("%q, not %q", s.Names(), was.Names())
		}
		for _, name := range s.Names() {
			old, _ := was.Read(name)
			now, _ := s.Read(name)
			_, sure := was.Size(name)
			n, all := s.Size(name)
			if !strings.HasPrefix(old, now) || len(now) < sure || n != len(now) || all != n {
				t.Fatalf("%q of %q, of which %d were sure; %d, %d", now, old, sure, n, all)
			}
		}
	}
}

// Promise 11.5: what tells an error has done nothing, but that one call less is to fail, if this one was.
func TestErrorsDoNothing(t *testing.T) {
	r := rand.New(rand.NewSource(55))
	for range 300 {
		s, d := room(t, 20), &disk{most: 20}
		for range 40 {
			x := chance(r)
			if x.kind > 3 {
				s, d = do(t, s, d, x)
				continue
			}
			was := d.copy()
			if c, err := call(s, d, x); c != api.OK {
				want(t, "a call", err, c)
				look(t, s, was, []string{x.name, x.to})
			}
		}
	}
}

// Promises 11.1 and 11.2: as many bytes as there may be, byte by byte, and at once.
func TestMost(t *testing.T) {
	s := room(t, Most)
	for range 1 << 20 {
		if err := s.Append("x", "a"); err != nil {
			t.Fatal(err)
		}
	}
	put(t, s, "y", strings.Repeat("b", Most-1<<20-1))
	want(t, "Append", s.Append("x", "aa"), api.ErrFull)
	want(t, "Append", s.Append("z", strings.Repeat("c", Most)), api.ErrFull)
	put(t, s, "x", "a")
	want(t, "Append", s.Append("y", "b"), api.ErrFull)
	if s.Total() != Most {
		t.Error(s.Total())
	}
	if n, sure := s.Size("x"); n != 1<<20+1 || sure != 0 {
		t.Error(n, sure)
	}
	s.Crash(math.MaxInt, math.MaxInt)
	if n, sure := s.Size("y"); n != Most-1<<20-1 || sure != n || s.Total() != Most {
		t.Error(n, sure, s.Total())
	}
}

// Promise 11.1: many files, empty ones too.
func TestManyFiles(t *testing.T) {
	s := room(t, 1<<15)
	name := func(i int) string {
		return string([]byte{byte('a' + i>>12&15), byte('a' + i>>8&15), byte('a' + i>>4&15), byte('a' + i&15)})
	}
	for i := range 1 << 16 {
		put(t, s, name(i*40503%(1<<16)), "x"[:i%2])
	}
	l := s.Names()
	if len(l) != 1<<16 || !slices.IsSorted(l) || s.Total() != 1<<15 {
		t.Fatal(len(l), s.Total())
	}
	for i, one := range l {
		if one != name(i) {
			t.Fatalf("%d: %q", i, one)
		}
	}
}

// FuzzStore: any bytes, taken as calls, do what they do to a plain store.
func FuzzStore(f *testing.F) {
	f.Add([]byte("\x00\x01\x02\x03"), 10)
	f.Add([]byte("\x00a\x01a\x00a\x05\x02"), 4)
	f.Fuzz(func(t *testing.T, b []byte, most int) {
		if most < 1 || most > 1<<10 || len(b) > 1<<10 {
			return
		}
		s, d := room(t, most), &disk{most: most}
		names := []string{"a", "b", "c", "", "a/b"}
		for len(b) >= 3 {
			x := step{kind: int(b[0] % 7), name: names[int(b[1])%5], to: names[int(b[2])%5], n: int(int8(b[2]))}
			if x.kind == 0 {
				x.to = strings.Repeat("x", int(b[2]%16))
			}
			s, d = do(t, s, d, x)
			look(t, s, d, names)
			b = b[3:]
		}
	})
}

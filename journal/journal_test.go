package journal

import (
	"encoding/binary"
	"fmt"
	"maps"
	"math"
	"math/rand"
	"slices"
	"strconv"
	"strings"
	"testing"

	"wheelhouse/api"
	"wheelhouse/gens"
	"wheelhouse/record"
	"wheelhouse/store"
)

// last is the last tick.
const last = 1 << 40

// wrong are items that may not be.
var wrong = []api.Item{
	{}, {Kind: 0, At: 5, Body: "x"}, {Kind: -1}, {Kind: 16}, {Kind: 257}, {Kind: math.MinInt}, {Kind: math.MaxInt},
	{Kind: 1, At: -1}, {Kind: 1, At: last + 1}, {Kind: 3, At: math.MinInt}, {Kind: 3, At: math.MaxInt, Body: "1"},
	{Kind: 1, Body: strings.Repeat("x", 4097)}, {Kind: 15, At: last, Body: strings.Repeat("x", 1<<20)}, {Kind: 0, At: -1, Body: strings.Repeat("x", 4097)},
}

// noTicks and ticks are numbers that are no ticks, and such as are.
var (
	noTicks = []int{math.MinInt, math.MinInt + 1, -last, -2, -1, last + 1, last + 2, 1<<48 - 1, 1 << 48, 1<<48 + 1, math.MaxInt}
	ticks   = []int{0, 1, 5, 255, 256, 86400, 1<<32 + 1, last - 1, last}
)

// noNames are texts that may be no file's name.
var noNames = []string{"", "a/b", "/", "a ", " a", "a\n", "\x00", "\x7f", "\x80", "\xff", "\u00e9", strings.Repeat("l", 65), strings.Repeat("l", 1000)}

// bytesOf is an item's bytes, put together by hand.
func bytesOf(x api.Item) string {
	b := []byte{'W', byte(x.Kind)}
	b = append(b, binary.BigEndian.AppendUint64(nil, uint64(x.At))[2:]...)
	b = binary.BigEndian.AppendUint16(b, uint16(len(x.Body)))
	b = append(b, x.Body...)
	n := uint64(0)
	for _, c := range b {
		n = (n*257 + uint64(c) + 1) % 2147483647
	}
	return string(binary.BigEndian.AppendUint32(b, uint32(n)))
}

// long is an item that has so many bytes: 14 at least.
func long(n int) api.Item {
	return api.Item{Kind: api.ItemData, At: 7, Body: strings.Repeat("d", n-14)}
}

// gap is the item that tells how many items were lost.
func gap(now, n int) api.Item {
	return api.Item{Kind: 3, At: now, Body: strconv.Itoa(n)}
}

// called is the name of a generation, as the document has it.
func called(base string, i int) string {
	if i < 1 {
		return base
	}
	return fmt.Sprintf("%s.%d", base, i)
}

// mayName: may a file have this name?
func mayName(s string) bool {
	bad := func(r rune) bool { return r < 33 || r > 126 || r == '/' }
	return len(s) >= 1 && len(s) <= 64 && !strings.ContainsFunc(s, bad)
}

// kept is a file: its bytes, and how many of them are sure.
type kept struct {
	bytes string
	sure  int
}

// files are files by their names.
type files map[string]kept

// disk is a store with these files, and room for so many bytes.
func disk(t *testing.T, most int, l files) *store.Store {
	t.Helper()
	s, err := store.New(most)
	did(t, err)
	for name, k := range l {
		did(t, s.Append(name, k.bytes[:k.sure]))
		did(t, s.Sync(name))
		did(t, s.Append(name, k.bytes[k.sure:]))
	}
	return s
}

// did: nothing was wrong.
func did(t *testing.T, err error) {
	t.Helper()
	if err != nil {
		t.Fatal(err)
	}
}

// made is a journal that New makes.
func made(t *testing.T, s *store.Store, base string, n, size int) *Journal {
	t.Helper()
	j, code := New(s, base, n, size)
	if code != api.OK || j == nil {
		t.Fatalf("New(%.99q, %d, %d): code %d", base, n, size, code)
	}
	is(t, j, false, 0)
	return j
}

// is: a journal rests, or does not, and has lost so many items.
func is(t *testing.T, j *Journal, rests bool, lost int) {
	t.Helper()
	for range 2 {
		if j.Rests() != rests || j.Lost() != lost {
			t.Fatalf("rests %t, lost %d; want %t, %d", j.Rests(), j.Lost(), rests, lost)
		}
	}
}

// tells: a call told what was wanted.
func tells(t *testing.T, what string, got, want bool) {
	t.Helper()
	if got != want {
		t.Fatalf("%s: %t", what, got)
	}
}

// holds: a store has these files, and no others.
func holds(t *testing.T, s *store.Store, l files) {
	t.Helper()
	if got, want := s.Names(), slices.Sorted(maps.Keys(l)); !slices.Equal(got, want) {
		t.Fatalf("files %.999q; want %.999q", got, want)
	}
	for name, k := range l {
		bytes, _ := s.Read(name)
		if _, sure := s.Size(name); bytes != k.bytes || sure != k.sure {
			t.Fatalf("%.99s: %.99q, %d of %d; want %.99q, %d of %d", name, bytes, sure, len(bytes), k.bytes, k.sure, len(k.bytes))
		}
	}
}

// fails: so many calls of a store are to fail, and no more.
func fails(t *testing.T, s *store.Store, n int) {
	t.Helper()
	c := s.Copy()
	for i := range n + 1 {
		if err := c.Append("probe", ""); (err != nil) != (i < n) {
			t.Fatalf("call %d of %d that are to fail: %v", i, n, err)
		}
	}
}

// plain is a journal, and its store, as the document says what they are.
type plain struct {
	files   files
	most    int
	fails   int
	base    string
	n, size int
	rests   bool
	lost    int
}

// stops: is a call for this name stopped, whatever it is to do?
func (p *plain) stops(name string) bool {
	if mayName(name) && p.fails > 0 {
		p.fails--
		return true
	}
	return !mayName(name)
}

func (p *plain) append(name, bytes string) bool {
	total := 0
	for _, k := range p.files {
		total += len(k.bytes)
	}
	if p.stops(name) || total+len(bytes) > p.most {
		return false
	}
	k := p.files[name]
	p.files[name] = kept{k.bytes + bytes, k.sure}
	return true
}

// sync: did it go well, and was there a file?
func (p *plain) sync(name string) (well, was bool) {
	if p.stops(name) {
		return false, true
	}
	k, was := p.files[name]
	if was {
		p.files[name] = kept{k.bytes, len(k.bytes)}
	}
	return was, was
}

// turn goes from the oldest generation to the newest.
func (p *plain) turn() bool {
	for i := p.n - 1; i >= 0; i-- {
		k, ok := p.files[called(p.base, i)]
		switch to := called(p.base, i+1); {
		case !ok:
		case p.stops(called(p.base, i)):
			return false
		case i == p.n-1:
			delete(p.files, called(p.base, i))
		case !mayName(to):
			return false
		default:
			delete(p.files, called(p.base, i))
			p.files[to] = k
		}
	}
	return true
}

func (p *plain) put(x api.Item) bool {
	bytes, n := bytesOf(x), len(p.files[p.base].bytes)
	if n != 0 && n+len(bytes) > p.size {
		if well, _ := p.sync(p.base); !well {
			return false
		}
		if !p.turn() {
			return false
		}
	}
	return p.append(p.base, bytes)
}

func (p *plain) add(x api.Item) bool {
	if x.Kind < 1 || x.Kind > 15 || x.At < 0 || x.At > last || len(x.Body) > 4096 {
		return false
	}
	if p.rests {
		p.lost++
		return false
	}
	if p.put(x) {
		return true
	}
	p.rests, p.lost = true, 1
	return false
}

func (p *plain) syncAll() bool {
	if p.rests {
		return false
	}
	well, was := p.sync(p.base)
	if well || !was {
		return true
	}
	p.rests = true
	return false
}

func (p *plain) reopen(now int) bool {
	if p.rests && p.lost > 0 {
		if now < 0 || now > last || !p.put(gap(now, p.lost)) {
			return false
		}
	}
	p.rests, p.lost = false, 0
	return true
}

// crash cuts off what is not sure, but for so many bytes of each file.
func (p *plain) crash(keep int) {
	p.fails = 0
	for name, k := range p.files {
		n := min(k.sure+keep, len(k.bytes))
		p.files[name] = kept{k.bytes[:n], n}
	}
}

// both is a journal, and what the document says that it is.
type both struct {
	s *store.Store
	j *Journal
	p *plain
}

// begin is a journal with no files yet.
func begin(t *testing.T, most int, base string, n, size int) *both {
	t.Helper()
	s := disk(t, most, nil)
	return &both{s, made(t, s, base, n, size), &plain{files: files{}, most: most, base: base, n: n, size: size}}
}

// copied is another one like it.
func (b *both) copied() *both {
	j, p := *b.j, *b.p
	j.disk = b.s.Copy()
	p.files = maps.Clone(p.files)
	return &both{j.disk, &j, &p}
}

func (b *both) add(t *testing.T, x api.Item) {
	t.Helper()
	tells(t, fmt.Sprintf("Add of %.99v", x), b.j.Add(x), b.p.add(x))
	is(t, b.j, b.p.rests, b.p.lost)
}

func (b *both) sync(t *testing.T) {
	t.Helper()
	tells(t, "Sync", b.j.Sync(), b.p.syncAll())
	is(t, b.j, b.p.rests, b.p.lost)
}

func (b *both) reopen(t *testing.T, now int) {
	t.Helper()
	tells(t, fmt.Sprintf("Reopen of %d", now), b.j.Reopen(now), b.p.reopen(now))
	is(t, b.j, b.p.rests, b.p.lost)
}

func (b *both) fail(n int) {
	b.s.Fail(n)
	b.p.fails = max(n, 0)
}

func (b *both) crash(keep int) {
	b.s.Crash(slices.Repeat([]int{keep}, len(b.p.files))...)
	b.p.crash(keep)
}

// other is bytes that somebody else appends to a file.
func (b *both) other(name, bytes string) {
	b.s.Append(name, bytes)
	b.p.append(name, bytes)
}

// removed is a file that somebody else removes.
func (b *both) removed(name string) {
	b.s.Remove(name)
	if !b.p.stops(name) {
		delete(b.p.files, name)
	}
}

// same: the store has what it is to have.
func (b *both) same(t *testing.T) {
	t.Helper()
	holds(t, b.s, b.p.files)
	fails(t, b.s, b.p.fails)
}

// The chapter's example.
func TestExample(t *testing.T) {
	s := disk(t, 1000, nil)
	j := made(t, s, "log", 2, 64)
	x := api.Item{Kind: api.ItemData, Body: "0123456789"}
	for range 3 {
		tells(t, "Add", j.Add(x), true)
	}
	holds(t, s, files{"log.1": {bytesOf(x) + bytesOf(x), 48}, "log": {bytesOf(x), 0}})
	is(t, j, false, 0)
}

// Promise 22.1: the constants.
func TestConstants(t *testing.T) {
	if Least != 64 || Most != 1048576 {
		t.Error(Least, Most)
	}
}

// Promise 22.1: which numbers may be, and that no store is told ahead of them; nothing is done to a store.
func TestNew(t *testing.T) {
	counts := []int{math.MinInt, -1 << 32, -17, -16, -2, -1, 0, 1, 2, 3, 8, 15, 16, 17, 18, 32, 256, 257, 1<<32 + 1, math.MaxInt}
	sizes := []int{math.MinInt, -1048576, -64, -1, 0, 1, 62, 63, 64, 65, 66, 100, 4096, 1048574, 1048575, 1048576, 1048577, 1 << 21, 1<<32 + 64, math.MaxInt}
	l := files{"a": {"abc", 2}, "a.1": {"", 0}, "b": {"x", 0}}
	s := disk(t, 100, l)
	s.Fail(2)
	for _, n := range counts {
		for _, size := range sizes {
			for _, base := range append([]string{"a", "a.1", "new"}, noNames...) {
				if j, code := New(nil, base, n, size); j != nil || code != api.ErrNil {
					t.Fatalf("New(nil, %.99q, %d, %d): code %d", base, n, size, code)
				}
				for _, s := range []*store.Store{s, {}} {
					if n >= 1 && n <= 16 && size >= 64 && size <= 1048576 {
						made(t, s, base, n, size)
					} else if j, code := New(s, base, n, size); j != nil || code != api.ErrRange {
						t.Fatalf("New(%.99q, %d, %d): code %d", base, n, size, code)
					}
				}
			}
		}
	}
	holds(t, s, l)
	fails(t, s, 2)
}

// Promise 22.1, of a journal that nobody made: it does not rest, has lost nothing, and takes nothing.
func TestNobodyMade(t *testing.T) {
	for _, j := range []*Journal{nil, {}, new(Journal)} {
		for range 2 {
			is(t, j, false, 0)
			tells(t, "Add", j.Add(long(20)), false)
			is(t, j, false, 0)
			for _, x := range wrong {
				tells(t, "Add", j.Add(x), false)
			}
			tells(t, "Sync", j.Sync(), false)
			for _, now := range append(noTicks, ticks...) {
				tells(t, "Reopen", j.Reopen(now), false)
			}
			is(t, j, false, 0)
		}
	}
}

// Promise 22.2: what may be no item does nothing: nothing is called, and nothing counts as lost.
func TestAddWrong(t *testing.T) {
	for _, x := range wrong {
		l := files{"a": {strings.Repeat("x", 64), 3}, "a.1": {"old", 0}}
		s := disk(t, 1000, l)
		j := made(t, s, "a", 2, 64)
		s.Fail(3)
		tells(t, "Add", j.Add(x), false)
		is(t, j, false, 0)
		fails(t, s, 3)
		tells(t, "Sync", j.Sync(), false)
		tells(t, "Add", j.Add(x), false)
		is(t, j, true, 0)
		tells(t, "Add", j.Add(long(14)), false)
		tells(t, "Add", j.Add(x), false)
		is(t, j, true, 1)
		fails(t, s, 2)
		holds(t, s, l)
	}
}

// Promise 22.2: each item's bytes stand behind those that are there.
func TestAdd(t *testing.T) {
	s := disk(t, store.Most, files{"b": {"other", 1}})
	j := made(t, s, "a", 1, Most)
	want := ""
	bodies := []string{"", "a", "hi\r\n", "\x00\xff", "W", strings.Repeat("W", 100), strings.Repeat("x", 4095), strings.Repeat("y", 4096)}
	for kind := 1; kind <= 15; kind++ {
		for _, at := range ticks {
			x := api.Item{Kind: kind, At: at, Body: bodies[(kind+at)%len(bodies)]}
			tells(t, "Add", j.Add(x), true)
			want += bytesOf(x)
			is(t, j, false, 0)
		}
	}
	if len(want) > Most {
		t.Fatal(len(want))
	}
	holds(t, s, files{"a": {want, 0}, "b": {"other", 1}})
}

// Promise 22.2: an item goes into the newest generation as long as all have at most size bytes there; else into a new one.
func TestAddEdge(t *testing.T) {
	for _, size := range []int{64, 65, 100, 4095, 4096, 4110, 4111, 5000, 1 << 16, Most - 1, Most} {
		for _, n := range []int{14, 15, 16, 50, 64, 65, 66, 4096, 4110} {
			for more := -2; more <= 2; more++ {
				there := size - n + more
				if there < 0 {
					continue
				}
				bytes, x := strings.Repeat("t", there), long(n)
				s := disk(t, store.Most, files{"a": {bytes, there / 2}, "a.1": {"old", 2}})
				j := made(t, s, "a", 3, size)
				tells(t, "Add", j.Add(x), true)
				is(t, j, false, 0)
				if there == 0 || more <= 0 {
					holds(t, s, files{"a": {bytes + bytesOf(x), there / 2}, "a.1": {"old", 2}})
				} else {
					holds(t, s, files{"a": {bytesOf(x), 0}, "a.1": {bytes, there}, "a.2": {"old", 2}})
				}
			}
		}
	}
}

// Promise 22.2: a generation without bytes takes any item, also one that is longer than size; nothing is turned for it.
func TestAddLong(t *testing.T) {
	x, y := long(4110), long(14)
	for _, l := range []files{{}, {"a": {"", 0}}, {"a.1": {"old", 1}}, {"a": {"", 0}, "a.1": {"old", 3}, "a.2": {"older", 0}}} {
		s := disk(t, 1<<20, l)
		j := made(t, s, "a", 3, 64)
		tells(t, "Add", j.Add(x), true)
		want := maps.Clone(l)
		want["a"] = kept{bytesOf(x), 0}
		holds(t, s, want)
		tells(t, "Add", j.Add(y), true)
		then := files{"a": {bytesOf(y), 0}, "a.1": {bytesOf(x), 4110}}
		if k, ok := l["a.1"]; ok {
			then["a.2"] = k
		}
		holds(t, s, then)
		tells(t, "Add", j.Add(x), true)
		holds(t, s, files{"a": {bytesOf(x), 0}, "a.1": {bytesOf(y), 14}, "a.2": {bytesOf(x), 4110}})
	}
}

// Promises 22.1 and 22.2: of so many generations the oldest one goes, and files that are none of them stay.
func TestAddGenerations(t *testing.T) {
	for n := 1; n <= 16; n++ {
		l := files{"a.0": {"x", 0}, "a.16": {"y", 1}, "a.17": {"z", 0}, "aa": {"u", 1}, "b": {"v", 0}}
		s := disk(t, 1<<20, l)
		j := made(t, s, "a", n, 64)
		var items []string
		for i := range 40 {
			x := api.Item{Kind: 1 + i%15, At: i, Body: strings.Repeat("x", 40)}
			tells(t, "Add", j.Add(x), true)
			items = append([]string{bytesOf(x)}, items...)
			want := maps.Clone(l)
			for k, bytes := range items[:min(n, len(items))] {
				want[called("a", k)] = kept{bytes, len(bytes)}
			}
			want["a"] = kept{items[0], 0}
			holds(t, s, want)
		}
	}
}

// Promise 22.2: where the sync tells an error, nothing is turned, and nothing appended; no further call is made.
func TestAddSyncFails(t *testing.T) {
	for n := 1; n <= 3; n++ {
		for fail := 1; fail <= 5; fail++ {
			l := files{"a": {strings.Repeat("x", 51), 3}, "a.1": {"old", 0}, "a.2": {"older", 1}}
			s := disk(t, 1000, l)
			j := made(t, s, "a", n, 64)
			s.Fail(fail)
			tells(t, "Add", j.Add(long(14)), false)
			is(t, j, true, 1)
			holds(t, s, l)
			fails(t, s, fail-1)
		}
	}
}

// Promise 22.2: where Turn tells an error, nothing is appended; what was synced is sure.
func TestAddTurnFails(t *testing.T) {
	for size, most := range map[int]int{61: 15, 62: 9, 63: 0, 64: 0} {
		base := strings.Repeat("l", size)
		for n := 1; n <= 16; n++ {
			l := files{}
			for i := range most + 1 {
				l[called(base, i)] = kept{strings.Repeat("x", 60+i), i}
			}
			s := disk(t, 1<<16, l)
			j := made(t, s, base, n, 64)
			x := long(14)
			if n > most+1 {
				tells(t, "Add", j.Add(x), false)
				is(t, j, true, 1)
				l[base] = kept{l[base].bytes, 60}
				holds(t, s, l)
				continue
			}
			tells(t, "Add", j.Add(x), true)
			is(t, j, false, 0)
			l[base] = kept{l[base].bytes, 60}
			then := maps.Clone(l)
			for i := range n - 1 {
				then[called(base, i+1)] = l[called(base, i)]
			}
			then[base] = kept{bytesOf(x), 0}
			holds(t, s, then)
		}
	}
}

// Promise 22.2: where the append tells an error, the item is lost; what was turned ahead of it is turned.
func TestAddAppendFails(t *testing.T) {
	s := disk(t, 100, nil)
	j := made(t, s, "a", 3, 64)
	s.Fail(2)
	tells(t, "Add", j.Add(long(20)), false)
	is(t, j, true, 1)
	holds(t, s, files{})
	fails(t, s, 1)

	l := files{"a": {strings.Repeat("x", 60), 1}, "a.1": {strings.Repeat("y", 25), 2}}
	s = disk(t, 100, l)
	j = made(t, s, "a", 3, 64)
	tells(t, "Add", j.Add(long(16)), false)
	is(t, j, true, 1)
	holds(t, s, files{"a.1": {l["a"].bytes, 60}, "a.2": l["a.1"]})

	s = disk(t, 100, l)
	j = made(t, s, "a", 3, 80)
	tells(t, "Add", j.Add(long(16)), false)
	is(t, j, true, 1)
	holds(t, s, l)

	// What a turn lets go makes room.
	s = disk(t, 100, l)
	j = made(t, s, "a", 2, 64)
	tells(t, "Add", j.Add(long(40)), true)
	is(t, j, false, 0)
	holds(t, s, files{"a.1": {l["a"].bytes, 60}, "a": {bytesOf(long(40)), 0}})
	s = disk(t, 100, l)
	j = made(t, s, "a", 2, 64)
	tells(t, "Add", j.Add(long(41)), false)
	is(t, j, true, 1)
	holds(t, s, files{"a.1": {l["a"].bytes, 60}})
}

// Promises 22.2 to 22.4: as long as it rests, nothing is called; each item counts.
func TestRests(t *testing.T) {
	for _, lost := range []int{0, 1} {
		l := files{"a": {"abc", 1}}
		s := disk(t, 1000, l)
		j := made(t, s, "a", 2, 64)
		s.Fail(1)
		if lost == 0 {
			tells(t, "Sync", j.Sync(), false)
		} else {
			tells(t, "Add", j.Add(long(14)), false)
		}
		s.Fail(3)
		for i := range 100 {
			is(t, j, true, lost+i)
			tells(t, "Add", j.Add(api.Item{Kind: 1 + i%15, At: i, Body: strings.Repeat("x", i)}), false)
			tells(t, "Sync", j.Sync(), false)
			is(t, j, true, lost+i+1)
		}
		fails(t, s, 3)
		holds(t, s, l)
		s.Fail(0)
		tells(t, "Add", j.Add(long(14)), false)
		tells(t, "Sync", j.Sync(), false)
		is(t, j, true, lost+101)
		holds(t, s, l)
	}
}

// Promise 22.3: the newest generation is made sure, and no other file.
func TestSync(t *testing.T) {
	l := files{"a": {"abcd", 1}, "a.1": {"efg", 1}, "b": {"hi", 0}}
	s := disk(t, 1000, l)
	j := made(t, s, "a", 2, 64)
	for range 2 {
		tells(t, "Sync", j.Sync(), true)
		is(t, j, false, 0)
		holds(t, s, files{"a": {"abcd", 4}, "a.1": {"efg", 1}, "b": {"hi", 0}})
	}
	tells(t, "Add", j.Add(long(14)), true)
	holds(t, s, files{"a": {"abcd" + bytesOf(long(14)), 4}, "a.1": {"efg", 1}, "b": {"hi", 0}})
	tells(t, "Sync", j.Sync(), true)
	holds(t, s, files{"a": {"abcd" + bytesOf(long(14)), 18}, "a.1": {"efg", 1}, "b": {"hi", 0}})
}

// Promise 22.3: where there is no newest generation, all is well; but it is asked for, so that a call that is to fail does.
func TestSyncNone(t *testing.T) {
	for _, l := range []files{{}, {"a.1": {"old", 1}}} {
		s := disk(t, 1000, l)
		j := made(t, s, "a", 2, 64)
		for range 3 {
			tells(t, "Sync", j.Sync(), true)
			is(t, j, false, 0)
		}
		s.Fail(3)
		tells(t, "Sync", j.Sync(), false)
		is(t, j, true, 0)
		fails(t, s, 2)
		holds(t, s, l)
	}
}

// Promise 22.3: another error makes it rest; nothing is lost by that.
func TestSyncFails(t *testing.T) {
	l := files{"a": {"abcd", 1}}
	s := disk(t, 1000, l)
	j := made(t, s, "a", 2, 64)
	s.Fail(2)
	for range 3 {
		tells(t, "Sync", j.Sync(), false)
		is(t, j, true, 0)
		fails(t, s, 1)
		holds(t, s, l)
	}
	for _, base := range noNames {
		j := made(t, s, base, 2, 64)
		tells(t, "Sync", j.Sync(), false)
		is(t, j, true, 0)
	}
	fails(t, s, 1)
	holds(t, s, l)
}

// Promise 22.4: where nothing was lost, nothing is done but that it does not rest, whatever now is.
func TestReopenNothingLost(t *testing.T) {
	for _, now := range append(noTicks, ticks...) {
		l := files{"a": {strings.Repeat("x", 64), 1}, "a.1": {"old", 0}}
		s := disk(t, 1000, l)
		j := made(t, s, "a", 2, 64)
		s.Fail(3)
		tells(t, "Reopen", j.Reopen(now), true)
		is(t, j, false, 0)
		tells(t, "Sync", j.Sync(), false)
		is(t, j, true, 0)
		for range 2 {
			tells(t, "Reopen", j.Reopen(now), true)
			is(t, j, false, 0)
		}
		fails(t, s, 2)
		holds(t, s, l)
		s.Fail(0)
		tells(t, "Sync", j.Sync(), true)
		is(t, j, false, 0)
	}
}

// Promise 22.4: what was lost is told by number, in an item at that time.
func TestReopen(t *testing.T) {
	for _, now := range ticks {
		for _, lost := range []int{1, 2, 9, 10, 11, 99, 100, 101, 4096} {
			s := disk(t, 1000, nil)
			j := made(t, s, "a", 2, 64)
			tells(t, "Add", j.Add(long(14)), true)
			s.Fail(1)
			for range lost {
				tells(t, "Add", j.Add(long(40)), false)
			}
			is(t, j, true, lost)
			tells(t, "Reopen", j.Reopen(now), true)
			is(t, j, false, 0)
			want := bytesOf(long(14)) + bytesOf(gap(now, lost))
			holds(t, s, files{"a": {want, 0}})
			// What is told is told once.
			tells(t, "Reopen", j.Reopen(now), true)
			holds(t, s, files{"a": {want, 0}})
			tells(t, "Add", j.Add(long(15)), true)
			holds(t, s, files{"a": {want + bytesOf(long(15)), 0}})
			s.Fail(1)
			tells(t, "Add", j.Add(long(15)), false)
			is(t, j, true, 1)
		}
	}
}

// Promise 22.4: where now is no tick, it rests on, and nothing is called.
func TestReopenNoTick(t *testing.T) {
	for _, now := range noTicks {
		l := files{"a": {strings.Repeat("x", 64), 1}, "a.1": {"old", 0}}
		s := disk(t, 1000, l)
		j := made(t, s, "a", 2, 64)
		s.Fail(1)
		tells(t, "Add", j.Add(long(14)), false)
		tells(t, "Add", j.Add(long(14)), false)
		for _, fail := range []int{2, 0} {
			s.Fail(fail)
			tells(t, "Reopen", j.Reopen(now), false)
			is(t, j, true, 2)
			fails(t, s, fail)
			holds(t, s, l)
		}
		tells(t, "Add", j.Add(long(14)), false)
		tells(t, "Reopen", j.Reopen(last), true)
		holds(t, s, files{"a": {bytesOf(gap(last, 3)), 0}, "a.1": {strings.Repeat("x", 64), 64}})
	}
}

// Promise 22.4: where that can't be put, it rests on, with what was lost; what was lost meanwhile is told, too.
func TestReopenFails(t *testing.T) {
	s := disk(t, 1000, nil)
	j := made(t, s, "a", 2, 64)
	s.Fail(4)
	tells(t, "Add", j.Add(long(14)), false)
	for i := range 3 {
		tells(t, "Reopen", j.Reopen(5), false)
		is(t, j, true, 1+i)
		fails(t, s, 2-i)
		holds(t, s, files{})
		tells(t, "Add", j.Add(long(14)), false)
	}
	tells(t, "Reopen", j.Reopen(6), true)
	is(t, j, false, 0)
	holds(t, s, files{"a": {bytesOf(gap(6, 4)), 0}})
}

// Promise 22.4: what tells that is put as an item is: into a new generation, if need be; and what is wrong with that lets it rest on.
func TestReopenTurns(t *testing.T) {
	for there := 47; there <= 52; there++ {
		bytes, g := strings.Repeat("x", there), bytesOf(gap(9, 1))
		s := disk(t, 1000, files{"a": {bytes, 1}, "a.1": {"old", 1}, "a.2": {"older", 5}})
		j := made(t, s, "a", 3, 64)
		s.Fail(1)
		tells(t, "Add", j.Add(long(64)), false)
		s.Fail(2)
		for range 2 {
			tells(t, "Reopen", j.Reopen(9), false)
			is(t, j, true, 1)
			holds(t, s, files{"a": {bytes, 1}, "a.1": {"old", 1}, "a.2": {"older", 5}})
		}
		tells(t, "Reopen", j.Reopen(9), true)
		is(t, j, false, 0)
		if there+15 <= 64 {
			holds(t, s, files{"a": {bytes + g, 1}, "a.1": {"old", 1}, "a.2": {"older", 5}})
		} else {
			holds(t, s, files{"a": {g, 0}, "a.1": {bytes, there}, "a.2": {"old", 1}})
		}
	}
	base := strings.Repeat("l", 63)
	s := disk(t, 1000, files{base: {strings.Repeat("x", 50), 1}})
	j := made(t, s, base, 2, 64)
	for i := range 3 {
		tells(t, "Add", j.Add(long(64)), false)
		tells(t, "Reopen", j.Reopen(9), false)
		is(t, j, true, 1+i)
		holds(t, s, files{base: {strings.Repeat("x", 50), 50}})
	}
}

// Promise 22.4: a disk that is full takes neither items nor what tells of them, until there is room.
func TestReopenFull(t *testing.T) {
	l := files{"a": {strings.Repeat("x", 64), 0}, "a.1": {strings.Repeat("y", 20), 0}, "b": {strings.Repeat("z", 10), 0}}
	s := disk(t, 94, l)
	j := made(t, s, "a", 3, 64)
	for i := range 5 {
		tells(t, "Add", j.Add(long(14)), false)
		is(t, j, true, 1+i)
		tells(t, "Reopen", j.Reopen(i), false)
		is(t, j, true, 1+i)
		holds(t, s, files{"a.1": {l["a"].bytes, 64}, "a.2": l["a.1"], "b": l["b"]})
	}
	did(t, s.Remove("b"))
	tells(t, "Reopen", j.Reopen(5), false)
	is(t, j, true, 5)
	did(t, s.Remove("a.2"))
	tells(t, "Reopen", j.Reopen(5), true)
	is(t, j, false, 0)
	holds(t, s, files{"a.1": {l["a"].bytes, 64}, "a": {bytesOf(gap(5, 5)), 0}})
	tells(t, "Add", j.Add(long(15)), true)
	tells(t, "Add", j.Add(long(14)), false)
	is(t, j, true, 1)
}

// Where a log's name may be no file's, or nobody made the store, each call tells an error.
func TestNoFile(t *testing.T) {
	s := disk(t, 1000, files{"a": {"abc", 1}})
	s.Fail(1)
	var journals []*Journal
	for _, base := range noNames {
		journals = append(journals, made(t, s, base, 16, 64))
	}
	journals = append(journals, made(t, &store.Store{}, "a", 1, 64))
	for _, j := range journals {
		for i := range 3 {
			tells(t, "Add", j.Add(long(14)), false)
			is(t, j, true, 1+i)
			tells(t, "Reopen", j.Reopen(5), false)
			is(t, j, true, 1+i)
		}
	}
	fails(t, s, 1)
	holds(t, s, files{"a": {"abc", 1}})
	j := made(t, &store.Store{}, "a", 1, 64)
	tells(t, "Sync", j.Sync(), false)
	is(t, j, true, 0)
	tells(t, "Reopen", j.Reopen(-1), true)
	is(t, j, false, 0)
}

// Journals do not come into each other, but where one's log has another one's files.
func TestApart(t *testing.T) {
	s := disk(t, 1000, nil)
	a, b := made(t, s, "a", 2, 64), made(t, s, "a.1", 3, 64)
	tells(t, "Add", a.Add(long(64)), true)
	tells(t, "Add", b.Add(long(60)), true)
	holds(t, s, files{"a": {bytesOf(long(64)), 0}, "a.1": {bytesOf(long(60)), 0}})
	tells(t, "Add", a.Add(long(20)), true)
	holds(t, s, files{"a": {bytesOf(long(20)), 0}, "a.1": {bytesOf(long(64)), 64}})
	tells(t, "Add", b.Add(long(30)), true)
	holds(t, s, files{"a": {bytesOf(long(20)), 0}, "a.1": {bytesOf(long(30)), 0}, "a.1.1": {bytesOf(long(64)), 64}})
	s.Fail(1)
	tells(t, "Sync", a.Sync(), false)
	is(t, a, true, 0)
	is(t, b, false, 0)
	tells(t, "Add", b.Add(long(30)), true)
	tells(t, "Sync", b.Sync(), true)
	holds(t, s, files{"a": {bytesOf(long(20)), 0}, "a.1": {bytesOf(long(30)) + bytesOf(long(30)), 60}, "a.1.1": {bytesOf(long(64)), 64}})
	// Another store with the same names is another disk.
	c := made(t, disk(t, 1000, nil), "a", 2, 64)
	tells(t, "Add", c.Add(long(20)), true)
	tells(t, "Sync", c.Sync(), true)
	if _, sure := s.Size("a"); sure != 0 {
		t.Error(sure)
	}
}

// step is one of some things that befall a journal, or its store.
func step(t *testing.T, b *both, what int) {
	t.Helper()
	switch what {
	case 0:
		b.add(t, api.Item{Kind: 1, At: 3, Body: "hi"})
	case 1:
		b.add(t, long(40))
	case 2:
		b.add(t, long(70))
	case 3:
		b.sync(t)
	case 4:
		b.reopen(t, 5)
	case 5:
		b.reopen(t, -1)
	case 6:
		b.fail(1)
	case 7:
		b.add(t, api.Item{Kind: 16})
	case 8:
		b.crash(10)
	case 9:
		b.removed(b.p.base)
	case 10:
		b.other(b.p.base, strings.Repeat("o", 37))
	case 11:
		b.fail(3)
	case 12:
		b.other("z", strings.Repeat("z", 30))
	}
}

// steps: how many things there are.
const steps = 13

// rows: all rows of so many things, behind what befell so far.
func rows(t *testing.T, b *both, n int, so string) {
	t.Helper()
	for what := range steps {
		c, row := b.copied(), so+" "+strconv.Itoa(what)
		step(t, c, what)
		if t.Failed() {
			t.Fatal(row)
		}
		c.same(t)
		if n > 1 {
			rows(t, c, n-1, row)
		}
	}
}

// Promises 22.1 to 22.4: all short rows of what may befall a journal, with generations of all kinds.
func TestRows(t *testing.T) {
	depth := 4
	if testing.Short() {
		depth = 3
	}
	for _, x := range []struct {
		most    int
		base    string
		n, size int
	}{
		{1000, "a", 2, 64}, {200, "web1.log", 3, 64}, {130, "a", 1, 80}, {1000, strings.Repeat("l", 62), 16, 64}, {1000, strings.Repeat("l", 64), 2, 64}, {1000, "a/", 2, 64},
	} {
		b := begin(t, x.most, x.base, x.n, x.size)
		rows(t, b, depth, fmt.Sprint(x))
	}
}

// chance is any item, most of which may be.
func chance(r *rand.Rand) api.Item {
	if r.Intn(20) == 0 {
		return wrong[r.Intn(len(wrong))]
	}
	n := r.Intn(60)
	if r.Intn(10) == 0 {
		n = r.Intn(4097)
	}
	return api.Item{Kind: 1 + r.Intn(15), At: r.Intn(last + 1), Body: strings.Repeat(string(rune('a'+r.Intn(26))), n)}
}

// Promises 22.1 to 22.4: long rows of what may befall a journal, by chance.
func TestChance(t *testing.T) {
	r := rand.New(rand.NewSource(22))
	bases := []string{"a", "a.1", "web1.log", strings.Repeat("l", 61), strings.Repeat("l", 62), strings.Repeat("l", 63)}
	for range 1500 {
		size := 64 + r.Intn(300)
		b := begin(t, 100+r.Intn(6000), bases[r.Intn(len(bases))], 1+r.Intn(16), size)
		for range 80 {
			switch k := r.Intn(20); k {
			case 0:
				b.sync(t)
			case 1, 2:
				b.reopen(t, r.Intn(last+2))
			case 3:
				b.reopen(t, noTicks[r.Intn(len(noTicks))])
			case 4:
				b.fail(r.Intn(5) - 1)
			case 5:
				b.crash(r.Intn(30))
			case 6:
				b.other(called(b.p.base, r.Intn(17)), strings.Repeat("o", r.Intn(40)))
			case 7:
				b.removed(called(b.p.base, r.Intn(17)))
			default:
				b.add(t, chance(r))
			}
			holds(t, b.s, b.p.files)
		}
		b.same(t)
	}
}

// told is all that is read of a log: the items that its generations begin with, the oldest first.
func told(s *store.Store, base string, n int) []api.Item {
	var l []api.Item
	for _, bytes := range gens.All(s, base, n) {
		items, _ := record.Scan(bytes)
		l = append(l, items...)
	}
	return l
}

// taken is what a journal took, of items that are all unlike one another, and how many of the first ones have to be sure.
type taken struct {
	j     *Journal
	s     *store.Store
	base  string
	n     int
	items []api.Item
	sure  int
	gone  int // How many were lost in all.
	next  int
}

// add is one item more.
func (k *taken) add(size int) {
	k.next++
	x := api.Item{Kind: 1 + k.next%2, At: k.next, Body: strings.Repeat("b", size)}
	if k.j.Add(x) {
		k.items = append(k.items, x)
	} else {
		k.gone++
	}
}

// reopen tells what was lost, if anything was.
func (k *taken) reopen() {
	k.next++
	lost := k.j.Lost()
	if k.j.Reopen(k.next) && lost > 0 {
		k.items = append(k.items, gap(k.next, lost))
	}
}

// piece: what is read of a store, whether a crash was there or not, is a piece of what was taken, without a hole, and with all that was sure but what went with old generations.
func (k *taken) piece(t *testing.T, s *store.Store) []api.Item {
	t.Helper()
	got := told(s, k.base, k.n)
	if len(got) == 0 {
		if k.n > 1 && k.sure > 0 {
			t.Fatalf("nothing is read; %d of %d items were sure", k.sure, len(k.items))
		}
		return nil
	}
	from := slices.Index(k.items, got[0])
	if from < 0 || from+len(got) > len(k.items) || !slices.Equal(got, k.items[from:from+len(got)]) {
		t.Fatalf("%v is no piece of %v", got, k.items)
	}
	if from+len(got) < k.sure {
		t.Fatalf("ends behind %d items; %d were sure", from+len(got), k.sure)
	}
	return got
}

// untold: how many items were lost is told in what was taken, but for those of now.
func (k *taken) untold(t *testing.T) {
	t.Helper()
	n := k.j.Lost()
	for _, x := range k.items {
		if x.Kind == 3 {
			lost, err := strconv.Atoi(x.Body)
			did(t, err)
			n += lost
		}
	}
	if n != k.gone {
		t.Fatalf("%d items were lost, %d are told", k.gone, n)
	}
}

// Promise 22.5: what is read is a piece of what was taken, also behind a crash at any time, and nothing is lost untold.
func TestPiece(t *testing.T) {
	r := rand.New(rand.NewSource(5))
	for range 600 {
		s := disk(t, 300+r.Intn(3000), nil)
		k := &taken{s: s, base: "a", n: 1 + r.Intn(5)}
		k.j = made(t, s, k.base, k.n, 64+r.Intn(200))
		for range 100 {
			switch r.Intn(12) {
			case 0:
				if k.j.Sync() {
					k.sure = len(k.items)
				}
			case 1, 2:
				k.reopen()
			case 3:
				s.Fail(r.Intn(4))
			default:
				k.add(r.Intn(50))
			}
			k.untold(t)
			if got := k.piece(t, s); len(got) > 0 && got[len(got)-1] != k.items[len(k.items)-1] {
				t.Fatal("without a crash the last item is not read")
			}
			c := s.Copy()
			c.Crash(r.Intn(80), r.Intn(80), r.Intn(80), r.Intn(80), r.Intn(80))
			k.piece(t, c)
		}
	}
}

// Promise 22.5: each place at which a crash may cut off a log.
func TestEachCut(t *testing.T) {
	for n := 1; n <= 4; n++ {
		s := disk(t, 1<<16, nil)
		k := &taken{s: s, base: "a", n: n}
		k.j = made(t, s, "a", n, 100)
		for i := range 40 {
			k.add(i % 30)
			if i%7 == 6 {
				tells(t, "Sync", k.j.Sync(), true)
				k.sure = len(k.items)
			}
			if i%11 == 10 {
				s.Fail(1)
				k.add(9)
				k.add(9)
				k.reopen()
			}
			for keep := range 101 {
				c := s.Copy()
				c.Crash(keep)
				got := k.piece(t, c)
				// Older generations are sure to their ends.
				all := told(s, "a", n)
				if whole := told(s, "a.1", n-1); n > 1 && len(got) < len(whole) || keep == 100 && !slices.Equal(got, all) {
					t.Fatalf("%d of %d items", len(got), len(all))
				}
			}
		}
	}
}

// Promise 22.5: life behind life: each one begins with a new generation behind what a crash left.
func TestLives(t *testing.T) {
	r := rand.New(rand.NewSource(7))
	for range 200 {
		s := disk(t, 1<<16, nil)
		k := &taken{s: s, base: "a", n: 2 + r.Intn(4)}
		size := 64 + r.Intn(100)
		for range 8 {
			k.j = made(t, s, k.base, k.n, size)
			for range r.Intn(30) {
				k.add(r.Intn(30))
				if r.Intn(9) == 0 && k.j.Sync() {
					k.sure = len(k.items)
				}
				if r.Intn(9) == 0 {
					s.Fail(1)
				}
				if r.Intn(9) == 0 {
					k.reopen()
				}
				k.piece(t, s)
			}
			s.Crash(r.Intn(60), r.Intn(60))
			k.items = k.piece(t, s)
			if _, ok := s.Read(k.base); ok {
				did(t, gens.Turn(s, k.base, k.n))
			}
			// The oldest generation may have gone by that: what is left is the end of what there was.
			left := told(s, k.base, k.n)
			if from := len(k.items) - len(left); from < 0 || !slices.Equal(left, k.items[from:]) {
				t.Fatalf("%v is not the end of %v", left, k.items)
			}
			k.items, k.sure = left, len(left)
		}
	}
}

// Promise P0: many items, and long ones, end soon.
func TestMany(t *testing.T) {
	s := disk(t, store.Most, nil)
	j := made(t, s, "a", 14, Most)
	x := api.Item{Kind: 1, At: last, Body: strings.Repeat("x", 4096)}
	for range 1 << 13 {
		tells(t, "Add", j.Add(x), true)
	}
	k := made(t, s, "b", 16, Least)
	for i := range 1 << 16 {
		tells(t, "Add", k.Add(api.Item{Kind: 2, At: i}), true)
	}
	is(t, j, false, 0)
	if n, _ := s.Size("a.13"); n != Most/4110*4110 {
		t.Error(n)
	}
	if got := told(s, "b", 16); len(got) != 64 || got[63].At != 1<<16-1 {
		t.Error(len(got))
	}
	s.Fail(1)
	for range 1 << 18 {
		tells(t, "Add", k.Add(x), false)
	}
	tells(t, "Reopen", k.Reopen(0), true)
	if got := told(s, "b", 1); len(got) != 1 || got[0] != gap(0, 1<<18) {
		t.Error(got)
	}
}

// Promises 22.1 to 22.4, of whatever befalls.
func FuzzJournal(f *testing.F) {
	f.Add("a", uint(1), uint(0), uint(900), []byte{0, 1, 2, 3, 6, 3, 4, 0, 6, 1, 1, 4})
	f.Add(strings.Repeat("l", 63), uint(3), uint(20), uint(100), []byte{2, 2, 2, 4, 5, 8, 2, 10, 12, 1})
	f.Add("", uint(15), uint(7), uint(0), []byte{3, 4, 0, 4, 0, 5})
	f.Fuzz(func(t *testing.T, base string, n, size, most uint, row []byte) {
		b := begin(t, 1+int(most%2000), base, 1+int(n%16), 64+int(size%200))
		for _, what := range row {
			step(t, b, int(what)%steps)
			b.same(t)
		}
	})
}

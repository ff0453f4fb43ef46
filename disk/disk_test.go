package disk_test

import (
	"math"
	"slices"
	"strconv"
	"strings"
	"testing"

	"gossamer/api"
	"gossamer/disk"
)

// byteOf is a byte of the model, and whether it is loose.
type byteOf struct {
	b     byte
	loose bool
}

// fileOf is a file of the model.
type fileOf struct {
	name   string
	bytes  []byteOf
	synced bool
}

// model is the chapter, word by word: byte by byte, and file by file in whatever order they came.
type model struct {
	room  int
	files []fileOf
	fuse  int // below 0: none
}

func (m *model) at(name string) int {
	return slices.IndexFunc(m.files, func(f fileOf) bool { return f.name == name })
}

// ends answers e, or ErrDown where it stands still; a call that no error meets burns the fuse.
func (m *model) ends(e api.Errno) api.Errno {
	if m.fuse == 0 {
		return api.ErrDown
	}
	if e == api.OK && m.fuse > 0 {
		m.fuse--
	}
	return e
}

func (m *model) has() int {
	n := 0
	for _, f := range m.files {
		n += len(f.bytes)
	}
	return n
}

func (m *model) create(name string) api.Errno {
	if len(name) == 0 || len(name) > 40 || strings.Trim(name, "abcdefghijklmnopqrstuvwxyz0123456789-") != "" {
		return api.ErrArg
	}
	e := api.OK
	if m.at(name) >= 0 {
		e = api.ErrThere
	} else if len(m.files) == 16 {
		e = api.ErrFull
	}
	if e = m.ends(e); e == api.OK {
		m.files = append(m.files, fileOf{name: name})
	}
	return e
}

func (m *model) add(name, text string) api.Errno {
	i, e := m.at(name), api.OK
	if i < 0 {
		e = api.ErrNone
	} else if m.has()+len(text) > m.room {
		e = api.ErrFull
	}
	if e = m.ends(e); e == api.OK {
		for _, b := range []byte(text) {
			m.files[i].bytes = append(m.files[i].bytes, byteOf{b, true})
		}
	}
	return e
}

// fasten keeps the first n bytes of a file, and syncs them.
func (m *model) fasten(i, n int) {
	f := &m.files[i]
	f.bytes, f.synced = f.bytes[:n], true
	for k := range f.bytes {
		f.bytes[k].loose = false
	}
}

func (m *model) sync(name string) api.Errno {
	i, e := m.at(name), api.OK
	if i < 0 {
		e = api.ErrNone
	}
	if e = m.ends(e); e == api.OK {
		m.fasten(i, len(m.files[i].bytes))
	}
	return e
}

func (m *model) cut(name string, n int) api.Errno {
	i, e := m.at(name), api.OK
	if i < 0 {
		e = api.ErrNone
	} else if n < 0 || n > len(m.files[i].bytes) {
		e = api.ErrArg
	}
	if e = m.ends(e); e == api.OK {
		m.fasten(i, n)
	}
	return e
}

func (m *model) remove(name string) api.Errno {
	i, e := m.at(name), api.OK
	if i < 0 {
		e = api.ErrNone
	}
	if e = m.ends(e); e == api.OK {
		m.files = slices.Delete(m.files, i, i+1)
	}
	return e
}

func (m *model) spoil(name string, at int, by byte) api.Errno {
	i := m.at(name)
	if i < 0 {
		return api.ErrNone
	}
	if at < 0 || at >= len(m.files[i].bytes) {
		return api.ErrArg
	}
	m.files[i].bytes[at].b ^= by
	return api.OK
}

func (m *model) looseOf(f fileOf) int {
	n := 0
	for _, b := range f.bytes {
		if b.loose {
			n++
		}
	}
	return n
}

func (m *model) crash(keep []int) api.Errno {
	slices.SortFunc(m.files, func(a, b fileOf) int { return strings.Compare(a.name, b.name) })
	i, gone := 0, []string{}
	for k, f := range m.files {
		loose := m.looseOf(f)
		if loose == 0 && f.synced {
			continue
		}
		n := -1
		if i < len(keep) {
			n = keep[i]
		}
		i++
		if n < 0 && !f.synced {
			gone = append(gone, f.name)
		}
		m.fasten(k, len(f.bytes)-loose+max(0, min(n, loose)))
	}
	m.files = slices.DeleteFunc(m.files, func(f fileOf) bool { return slices.Contains(gone, f.name) })
	m.fuse = -1
	return api.OK
}

func (m *model) copy() *model {
	c := &model{room: m.room, fuse: -1}
	for _, f := range m.files {
		c.files = append(c.files, fileOf{f.name, slices.Clone(f.bytes), f.synced})
	}
	return c
}

// both is a disk, and the model that it is held against.
type both struct {
	t *testing.T
	d *disk.Disk
	m *model
}

func start(t *testing.T, room int) both {
	t.Helper()
	d, e := disk.New(room)
	if d == nil || e != api.OK {
		t.Fatalf("New(%d): %v, %v", room, d, e)
	}
	b := both{t, d, &model{room: room, fuse: -1}}
	b.look("New")
	return b
}

// look holds all that is to be seen of the disk against the model.
func (b both) look(what string) {
	b.t.Helper()
	var names []string
	for _, f := range b.m.files {
		names = append(names, f.name)
		text := make([]byte, 0, len(f.bytes))
		for _, x := range f.bytes {
			text = append(text, x.b)
		}
		got, e := b.d.Read(f.name)
		if got != string(text) || e != api.OK {
			b.t.Fatalf("%s: Read(%s) = %.60q (%d bytes), %v; want %.60q (%d)", what, f.name, got, len(got), e, text, len(text))
		}
		if got, want := b.d.Loose(f.name), b.m.looseOf(f); got != want {
			b.t.Fatalf("%s: Loose(%s) = %d; want %d", what, f.name, got, want)
		}
	}
	slices.Sort(names)
	if got := b.d.Names(); !slices.Equal(got, names) {
		b.t.Fatalf("%s: Names() = %q; want %q", what, got, names)
	}
	if got, want := b.d.Room(), b.m.room-b.m.has(); got != want {
		b.t.Fatalf("%s: Room() = %d; want %d", what, got, want)
	}
}

// tell holds an error against the model's and, where a test knows it, against wants.
func (b both) tell(what string, got, model api.Errno, wants []api.Errno) api.Errno {
	b.t.Helper()
	if got != model {
		b.t.Fatalf("%s = %v; want %v", what, got, model)
	}
	for _, want := range wants {
		if got != want {
			b.t.Fatalf("%s = %v; want %v", what, got, want)
		}
	}
	b.look(what)
	return got
}

func (b both) create(name string, wants ...api.Errno) api.Errno {
	b.t.Helper()
	return b.tell("Create("+name+")", b.d.Create(name), b.m.create(name), wants)
}

func (b both) add(name, text string, wants ...api.Errno) api.Errno {
	b.t.Helper()
	return b.tell("Append("+name+", "+text[:min(9, len(text))]+")", b.d.Append(name, text), b.m.add(name, text), wants)
}

func (b both) sync(name string, wants ...api.Errno) api.Errno {
	b.t.Helper()
	return b.tell("Sync("+name+")", b.d.Sync(name), b.m.sync(name), wants)
}

func (b both) cut(name string, n int, wants ...api.Errno) api.Errno {
	b.t.Helper()
	return b.tell("Cut("+name+", "+strconv.Itoa(n)+")", b.d.Cut(name, n), b.m.cut(name, n), wants)
}

func (b both) remove(name string, wants ...api.Errno) api.Errno {
	b.t.Helper()
	return b.tell("Remove("+name+")", b.d.Remove(name), b.m.remove(name), wants)
}

func (b both) spoil(name string, at int, by byte, wants ...api.Errno) api.Errno {
	b.t.Helper()
	return b.tell("Spoil("+name+", "+strconv.Itoa(at)+")", b.d.Spoil(name, at, by), b.m.spoil(name, at, by), wants)
}

func (b both) fuse(n int, wants ...api.Errno) api.Errno {
	b.t.Helper()
	want := api.ErrArg
	if n >= 0 {
		b.m.fuse, want = n, api.OK
	}
	return b.tell("Fuse("+strconv.Itoa(n)+")", b.d.Fuse(n), want, wants)
}

func (b both) crash(keep ...int) {
	b.t.Helper()
	given := slices.Clone(keep)
	b.tell("Crash", b.d.Crash(keep...), b.m.crash(keep), nil)
	if !slices.Equal(keep, given) {
		b.t.Fatalf("Crash(%v) has changed its numbers: %v", given, keep)
	}
}

func (b both) copy() both {
	b.t.Helper()
	c := both{b.t, b.d.Copy(), b.m.copy()}
	if c.d == nil || c.d == b.d {
		b.t.Fatal("Copy: no disk of its own")
	}
	c.look("Copy")
	return c
}

// reads holds a file's bytes against a text, beside the model: "none" if it is not there.
func (b both) reads(name, want string) {
	b.t.Helper()
	got, e := b.d.Read(name)
	if e == api.ErrNone && got == "" {
		got = "none"
	}
	if got != want {
		b.t.Fatalf("Read(%s) = %q, %v; want %q", name, got, e, want)
	}
}

// chance is a row of numbers by a rule: tests hang on no luck.
type chance uint64

func (c *chance) below(n int) int {
	*c = *c*6364136223846793005 + 1442695040888963407
	return int(uint64(*c) >> 33 % uint64(n))
}

// P7.1: the rooms that a disk may have.
func TestNew(t *testing.T) {
	for _, room := range []int{0, 1, 20, api.MaxRoom - 1, api.MaxRoom} {
		if b := start(t, room); b.d.Room() != room || len(b.d.Names()) != 0 {
			t.Errorf("New(%d): room %d, names %q", room, b.d.Room(), b.d.Names())
		}
	}
	for _, room := range []int{-1, api.MaxRoom + 1, math.MinInt, math.MaxInt} {
		if d, e := disk.New(room); d != nil || e != api.ErrArg {
			t.Errorf("New(%d): %v, %v", room, d, e)
		}
	}
	if a, b := start(t, 3), start(t, 3); a.create("a") != api.OK || len(b.d.Names()) != 0 {
		t.Error("two disks share their files")
	}
}

// P7.1, Words: which names may be, byte by byte and by their length.
func TestNamesThatMayBe(t *testing.T) {
	for i := range 256 {
		c := byte(i)
		may := c >= 'a' && c <= 'z' || c >= '0' && c <= '9' || c == '-'
		for _, name := range []string{string([]byte{c}), "a" + string([]byte{c}), string([]byte{c}) + "a", "a" + string([]byte{c}) + "a"} {
			want := api.ErrArg
			if may {
				want = api.OK
			}
			start(t, 0).create(name, want)
		}
	}
	b := start(t, 0)
	b.create("", api.ErrArg)
	b.create(strings.Repeat("z", api.MaxFile-1), api.OK)
	b.create(strings.Repeat("z", api.MaxFile), api.OK)
	b.create(strings.Repeat("z", api.MaxFile+1), api.ErrArg)
	b.create(strings.Repeat("-", 1000), api.ErrArg)
	b.create("é", api.ErrArg)
	b.create(strings.Repeat("z", api.MaxFile-1)+"_", api.ErrArg)
}

// P7.1: a name is there once, and a disk has at most MaxFiles files.
func TestCreate(t *testing.T) {
	b := start(t, 10)
	for i := range api.MaxFiles {
		b.create("f"+strconv.Itoa(i), api.OK)
		b.create("f0", api.ErrThere)
	}
	b.create("g", api.ErrFull)
	b.create("f7", api.ErrThere)
	b.create("f7!", api.ErrArg)
	b.remove("f3", api.OK)
	b.create("g", api.OK)
	b.create("f3", api.ErrFull)
	b.add("f0", "xyz", api.OK)
	b.create("f0", api.ErrThere)
	b.reads("f0", "xyz")
}

// P7.1: Append goes up to the room of all files, and not one byte beyond.
func TestAppend(t *testing.T) {
	b := start(t, 10)
	b.add("a", "x", api.ErrNone)
	b.add("a", "", api.ErrNone)
	b.add("", "x", api.ErrNone)
	b.add("A", "x", api.ErrNone)
	b.create("a", api.OK)
	b.create("b", api.OK)
	b.add("a", "", api.OK)
	b.add("a", "0123456789x", api.ErrFull)
	b.add("a", "012345", api.OK)
	b.add("b", "01234", api.ErrFull)
	b.add("b", "0123", api.OK)
	b.add("a", "x", api.ErrFull)
	b.add("a", "", api.OK)
	b.add("c", strings.Repeat("x", 99), api.ErrNone)
	b.reads("a", "012345")
	b.reads("b", "0123")
	b.sync("a", api.OK)
	b.add("b", "x", api.ErrFull)
	b.cut("a", 4, api.OK)
	b.add("b", "xyz", api.ErrFull)
	b.add("b", "xy", api.OK)
	b.remove("a", api.OK)
	b.add("b", "zuvww", api.ErrFull)
	b.add("b", "zuvw", api.OK)
	b.crash(3)
	b.add("b", "01234567", api.ErrFull)
	b.add("b", "0123456", api.OK)
	b.reads("b", "0120123456")

	none := start(t, 0)
	none.create("a", api.OK)
	none.add("a", "", api.OK)
	none.add("a", "x", api.ErrFull)

	full := start(t, api.MaxRoom)
	full.create("a", api.OK)
	full.add("a", strings.Repeat("x", api.MaxRoom+1), api.ErrFull)
	full.add("a", strings.Repeat("x", api.MaxRoom), api.OK)
	full.add("a", "x", api.ErrFull)
}

// P7.1: a text of all bytes there are stands there as it was handed in, behind what was there.
func TestAppendAnyBytes(t *testing.T) {
	var all []byte
	for i := range 256 {
		all = append(all, byte(i))
	}
	b := start(t, 1000)
	b.create("a", api.OK)
	b.add("a", string(all), api.OK)
	b.add("a", "\xff\x00é", api.OK)
	b.reads("a", string(all)+"\xff\x00é")
}

// P7.1, P7.4: what Sync does is told by a crash: of bytes, and of a new file.
func TestSync(t *testing.T) {
	b := start(t, 100)
	b.sync("a", api.ErrNone)
	b.create("a", api.OK)
	b.create("b", api.OK)
	b.create("c", api.OK)
	b.sync("a", api.OK)
	b.add("b", "xyz", api.OK)
	b.sync("b", api.OK)
	b.sync("b", api.OK)
	b.add("b", "uvw", api.OK)
	b.crash()
	b.reads("a", "")
	b.reads("b", "xyz")
	b.reads("c", "none")
	b.sync("c", api.ErrNone)
	b.sync("C", api.ErrNone)
}

// P7.2: Cut's edges, within the synced bytes and within the loose ones.
func TestCut(t *testing.T) {
	for n := -2; n <= 8; n++ {
		b := start(t, 100)
		b.cut("a", n, api.ErrNone)
		b.create("a", api.OK)
		b.add("a", "xyz", api.OK)
		b.sync("a", api.OK)
		b.add("a", "uvw", api.OK)
		want := api.OK
		if n < 0 || n > 6 {
			want = api.ErrArg
		}
		if b.cut("a", n, want) == api.OK {
			b.reads("a", "xyzuvw"[:n])
			b.cut("a", n+1, api.ErrArg)
			b.add("a", "!", api.OK)
			b.crash(0)
			b.reads("a", "xyzuvw"[:n])
		}
	}
	b := start(t, 100)
	b.create("a", api.OK)
	b.cut("a", 1, api.ErrArg)
	b.cut("a", math.MinInt, api.ErrArg)
	b.cut("a", math.MaxInt, api.ErrArg)
	b.create("b", api.OK)
	b.add("b", "xyz", api.OK)
	b.cut("a", 0, api.OK)
	b.cut("b", 3, api.OK)
	b.crash()
	b.reads("a", "")
	b.reads("b", "xyz")
}

// P7.2: what is removed is gone for good, and its name may be had again.
func TestRemove(t *testing.T) {
	b := start(t, 10)
	b.remove("a", api.ErrNone)
	b.create("a", api.OK)
	b.add("a", "xyz", api.OK)
	b.sync("a", api.OK)
	b.remove("a", api.OK)
	b.remove("a", api.ErrNone)
	b.add("a", "u", api.ErrNone)
	b.crash(9, 9)
	b.reads("a", "none")
	b.create("a", api.OK)
	b.reads("a", "")
	b.add("a", "u", api.OK)
	b.crash()
	b.reads("a", "none")
	b.remove("A!", api.ErrNone)
}

// P7.2: a byte is turned, whichever it is, loose or not, also where the disk stands still.
func TestSpoil(t *testing.T) {
	b := start(t, 100)
	b.spoil("a", 0, 1, api.ErrNone)
	b.spoil("a", -1, 1, api.ErrNone)
	b.create("a", api.OK)
	b.spoil("a", 0, 1, api.ErrArg)
	b.add("a", "xyz", api.OK)
	b.sync("a", api.OK)
	b.add("a", "uvw", api.OK)
	for range 2 {
		for at := range 6 {
			b.spoil("a", at, 0xff, api.OK)
			b.spoil("a", at, 0, api.OK)
			b.spoil("a", at, 0x81, api.OK)
		}
		for _, at := range []int{-1, 6, 7, math.MinInt, math.MaxInt} {
			b.spoil("a", at, 1, api.ErrArg)
		}
		b.fuse(0, api.OK)
	}
	b.reads("a", "xyzuvw")
	b.spoil("a", 0, 'x'^'A', api.OK)
	b.spoil("a", 5, 'w'^'B', api.OK)
	b.reads("a", "AyzuvB")
	b.crash(3)
	b.reads("a", "AyzuvB")
	b.spoil("a", 6, 1, api.ErrArg)
}

// P7.2: Spoil makes nothing fast, and no new file an old one.
func TestSpoilSyncsNothing(t *testing.T) {
	b := start(t, 100)
	b.create("a", api.OK)
	b.add("a", "xy", api.OK)
	b.spoil("a", 0, 1, api.OK)
	b.crash()
	b.reads("a", "none")
}

// P7.3: Read, Loose, Names and Room of what there is, and of what there is not.
func TestAsked(t *testing.T) {
	b := start(t, 100)
	if s, e := b.d.Read("a"); s != "" || e != api.ErrNone {
		t.Errorf("Read of none: %q, %v", s, e)
	}
	if n := b.d.Loose("a"); n != 0 {
		t.Errorf("Loose of none: %d", n)
	}
	for _, name := range []string{"b", "a-", "a", "0", "-", "ab", "a0", "z", "9"} {
		b.create(name, api.OK)
	}
	want := []string{"-", "0", "9", "a", "a-", "a0", "ab", "b", "z"}
	got := b.d.Names()
	if !slices.Equal(got, want) {
		t.Errorf("Names() = %q; want %q", got, want)
	}
	got[0], got[1] = "spoilt", "spoilt"
	if again := b.d.Names(); !slices.Equal(again, want) {
		t.Errorf("Names() behind a change of its answer: %q", again)
	}
	b.add("a", "xyz", api.OK)
	if n := b.d.Loose("a"); n != 3 {
		t.Errorf("Loose: %d; want 3", n)
	}
	before, _ := b.d.Read("a")
	b.spoil("a", 0, 1, api.OK)
	b.cut("a", 1, api.OK)
	if before != "xyz" {
		t.Errorf("an answer of Read is changed by later calls: %q", before)
	}
	if b.d.Room() != 99 {
		t.Errorf("Room: %d; want 99", b.d.Room())
	}
}

// P7.3, Words: behind n calls it stands still: such as another error meets, and the other calls, burn nothing.
func TestFuse(t *testing.T) {
	for n := range 7 {
		b := start(t, 10)
		b.create("a", api.OK)
		b.sync("a", api.OK)
		b.fuse(n, api.OK)
		went := 0
		for range 3 {
			// None of these goes on: each burns nothing.
			if went < n {
				b.create("a", api.ErrThere)
				b.add("b", "x", api.ErrNone)
				b.add("a", "01234567890", api.ErrFull)
				b.sync("b", api.ErrNone)
				b.cut("a", 11, api.ErrArg)
				b.cut("b", 0, api.ErrNone)
				b.remove("b", api.ErrNone)
			}
			b.create("A", api.ErrArg)
			b.spoil("a", -1, 1, api.ErrArg)
			b.fuse(-1, api.ErrArg)
			b.fuse(math.MinInt, api.ErrArg)
			b.d.Read("a")
			b.d.Names()
			b.d.Room()
			b.d.Loose("a")
			b.d.Copy()
			if b.add("a", "x") == api.OK {
				went++
			}
			if b.sync("a") == api.OK {
				went++
			}
		}
		if went != n {
			t.Errorf("Fuse(%d): %d calls went on", n, went)
		}
		b.crash()
		for range 9 {
			b.sync("a", api.OK)
		}
	}
}

// P7.3: each of the five calls burns the fuse, Spoil does not; and each of them stands still.
func TestWhatBurns(t *testing.T) {
	five := []func(b both) api.Errno{
		func(b both) api.Errno { return b.create("c") },
		func(b both) api.Errno { return b.add("a", "") },
		func(b both) api.Errno { return b.sync("a") },
		func(b both) api.Errno { return b.cut("a", 1) },
		func(b both) api.Errno { return b.remove("a") },
	}
	for i, call := range five {
		b := start(t, 10)
		b.create("a", api.OK)
		b.add("a", "xy", api.OK)
		b.fuse(1, api.OK)
		b.spoil("a", 0, 1, api.OK)
		if e := call(b); e != api.OK {
			t.Errorf("call %d on a fuse of 1: %v", i, e)
		}
		for k, next := range five {
			if e := next(b); e != api.ErrDown {
				t.Errorf("call %d behind call %d and a fuse of 1: %v", k, i, e)
			}
		}
	}
}

// P7.3: an older fuse is gone, whether it is longer, shorter, or burnt.
func TestFuseBehindFuse(t *testing.T) {
	for _, first := range []int{0, 1, 2, 5, math.MaxInt} {
		for _, second := range []int{0, 1, 2, 5} {
			b := start(t, 10)
			b.create("a", api.OK)
			b.fuse(first, api.OK)
			b.sync("a")
			b.fuse(-1, api.ErrArg)
			b.fuse(second, api.OK)
			for range second {
				b.sync("a", api.OK)
			}
			b.sync("a", api.ErrDown)
			b.sync("a", api.ErrDown)
		}
	}
	b := start(t, 10)
	b.create("a", api.OK)
	b.fuse(2, api.OK)
	b.fuse(-1, api.ErrArg)
	b.sync("a", api.OK)
	b.sync("a", api.OK)
	b.sync("a", api.ErrDown)
}

// R2: of two errors at once the one that the promise names first.
func TestTwoErrors(t *testing.T) {
	b := start(t, 3)
	for i := range api.MaxFiles {
		b.create("f"+strconv.Itoa(i), api.OK)
	}
	b.add("f0", "xyz", api.OK)
	b.create("f0", api.ErrThere) // there, and full
	b.create("", api.ErrArg)     // may not be, and full
	b.add("none", "x", api.ErrNone)
	b.cut("none", -1, api.ErrNone)
	b.spoil("none", -1, 1, api.ErrNone)
	b.fuse(0, api.OK)
	b.create("", api.ErrArg)
	b.create("F", api.ErrArg)
	b.create("f0", api.ErrDown)
	b.create("g", api.ErrDown)
	b.add("none", "x", api.ErrDown)
	b.add("f0", "x", api.ErrDown)
	b.add("", "", api.ErrDown)
	b.sync("none", api.ErrDown)
	b.cut("none", 0, api.ErrDown)
	b.cut("none", -1, api.ErrDown)
	b.cut("f0", -1, api.ErrDown)
	b.cut("f0", 4, api.ErrDown)
	b.remove("none", api.ErrDown)
	b.spoil("none", -1, 1, api.ErrNone)
	b.spoil("f0", 3, 1, api.ErrArg)
	if s, e := b.d.Read("none"); s != "" || e != api.ErrNone {
		t.Errorf("Read of none, where it stands still: %q, %v", s, e)
	}
	b.fuse(-1, api.ErrArg)
}

// four answers a disk with files of each kind: synced, synced and appended to, new with bytes, new without, and one that is as it was.
func four(t *testing.T) both {
	b := start(t, 100)
	for _, name := range []string{"e", "d", "c", "b", "a"} {
		b.create(name, api.OK)
	}
	b.add("a", "old", api.OK)
	b.sync("a", api.OK)
	b.add("a", "uvw", api.OK)
	b.add("b", "fast", api.OK)
	b.sync("b", api.OK)
	b.add("c", "fresh", api.OK)
	b.add("e", "last", api.OK)
	b.cut("e", 4, api.OK)
	b.add("e", "!?", api.OK)
	return b
}

// P7.4: which number is whose, and what it leaves. (b has no number: it has nothing that is loose.)
func TestCrash(t *testing.T) {
	for _, x := range []struct {
		keep       []int
		a, c, d, e string
	}{
		{nil, "old", "none", "none", "last"},
		{[]int{}, "old", "none", "none", "last"},
		{[]int{0}, "old", "none", "none", "last"},
		{[]int{1}, "oldu", "none", "none", "last"},
		{[]int{3}, "olduvw", "none", "none", "last"},
		{[]int{4}, "olduvw", "none", "none", "last"},
		{[]int{-1, 2}, "old", "fr", "none", "last"},
		{[]int{-1, 0}, "old", "", "none", "last"},
		{[]int{-1, -1, 0}, "old", "none", "", "last"},
		{[]int{-9, 5, -1, 1}, "old", "fresh", "none", "last!"},
		{[]int{2, 6, 7, 2}, "olduv", "fresh", "", "last!?"},
		{[]int{math.MaxInt, math.MaxInt, math.MaxInt, math.MaxInt}, "olduvw", "fresh", "", "last!?"},
		{[]int{math.MinInt, math.MinInt, math.MinInt, math.MinInt}, "old", "none", "none", "last"},
		{[]int{1, 1, 1, 1, 9, 9, 9}, "oldu", "f", "", "last!"},
	} {
		b := four(t)
		b.crash(x.keep...)
		for name, want := range map[string]string{"a": x.a, "b": "fast", "c": x.c, "d": x.d, "e": x.e} {
			b.reads(name, want)
			if n := b.d.Loose(name); n != 0 {
				t.Errorf("Crash(%v): %d bytes of %s are loose", x.keep, n, name)
			}
		}
		// What is kept is synced: a second crash takes nothing more.
		b.crash()
		for name, want := range map[string]string{"a": x.a, "b": "fast", "c": x.c, "d": x.d, "e": x.e} {
			b.reads(name, want)
		}
	}
	if e := start(t, 0).d.Crash(1, 2, -3); e != api.OK {
		t.Errorf("Crash of a disk without files: %v", e)
	}
}

// P7.4: two crashes, with what is written between them; the names go byte by byte.
func TestTwoCrashes(t *testing.T) {
	b := start(t, 100)
	for _, name := range []string{"a-b", "ab", "a0"} {
		b.create(name, api.OK)
		b.add(name, "0123456789", api.OK)
	}
	b.crash(1, 2, 3)
	b.reads("a-b", "0")
	b.reads("a0", "01")
	b.reads("ab", "012")
	b.add("ab", "xyz", api.OK)
	b.create("a", api.OK)
	b.crash(0, 2)
	b.reads("a", "")
	b.reads("a-b", "0")
	b.reads("ab", "012xy")
}

// P7.4: a crash takes the fuse away, burnt or not, and it stands still no more.
func TestCrashBehindFuse(t *testing.T) {
	for fuse := range 4 {
		b := start(t, 100)
		b.create("a", api.OK)
		b.add("a", "xyz", api.OK)
		b.fuse(fuse, api.OK)
		b.sync("a")
		b.add("a", "uvw")
		b.crash(2)
		for range 5 {
			b.add("a", "!", api.OK)
		}
	}
}

// P7.4, R5: a copy has all the same but the fuse, and goes its own way.
func TestCopy(t *testing.T) {
	b := four(t)
	b.fuse(0, api.OK)
	c := b.copy()
	b.sync("a", api.ErrDown)
	c.sync("a", api.OK)
	c.add("a", "more", api.OK)
	c.spoil("b", 0, 1, api.OK)
	c.cut("e", 1, api.OK)
	c.remove("c", api.OK)
	c.create("f", api.OK)
	b.look("what was done to the copy")
	c = b.copy()
	b.crash(3, 3)
	b.spoil("a", 0, 1, api.OK)
	b.add("b", "more", api.OK)
	b.cut("a", 1, api.OK)
	b.remove("e", api.OK)
	b.create("g", api.OK)
	c.look("what was done to the first one")
	// What is new or loose is so in the copy.
	c.crash(1, 1)
	c.reads("a", "oldu")
	c.reads("c", "f")
	c.reads("d", "none")
	c.reads("e", "last")
	// Both append behind the same bytes.
	p := start(t, 100)
	p.create("a", api.OK)
	for range 5 {
		p.add("a", "x", api.OK)
		q := p.copy()
		p.add("a", "p", api.OK)
		q.add("a", "q", api.OK)
		p.look("q's byte")
		q.look("p's byte")
	}
	full := start(t, 3)
	full.create("a", api.OK)
	full.add("a", "xyz", api.OK)
	full.copy().add("a", "u", api.ErrFull)
	full.fuse(2, api.OK)
	other := full.copy()
	for range 5 {
		other.sync("a", api.OK)
	}
	full.sync("a", api.OK)
	full.sync("a", api.OK)
	full.sync("a", api.ErrDown)
}

// R3: each call of nil, and of a disk that New did not make.
func TestNil(t *testing.T) {
	for _, d := range []*disk.Disk{nil, {}, new(disk.Disk)} {
		for range 2 {
			for i, e := range []api.Errno{d.Create("a"), d.Create(""), d.Append("a", "x"), d.Sync("a"), d.Cut("a", 0), d.Cut("a", -1), d.Remove("a"), d.Spoil("a", 0, 1), d.Spoil("a", -1, 1), d.Fuse(0), d.Fuse(1), d.Fuse(-1), d.Crash(), d.Crash(1)} {
				if e != api.ErrNil {
					t.Errorf("call %d: %v", i, e)
				}
			}
			if s, e := d.Read("a"); s != "" || e != api.ErrNil {
				t.Errorf("Read: %q, %v", s, e)
			}
			if d.Names() != nil || d.Loose("a") != 0 || d.Room() != 0 || d.Copy() != nil {
				t.Errorf("%v, %d, %d, %v", d.Names(), d.Loose("a"), d.Room(), d.Copy())
			}
		}
	}
}

// step does one call of whatever kind.
func (b both) step(c *chance, names []string) {
	name := names[c.below(len(names))]
	switch c.below(16) {
	case 0, 1:
		b.create(name)
	case 2, 3, 4, 5, 6:
		b.add(name, "0123456789"[:c.below(11)])
	case 7, 8:
		b.sync(name)
	case 9:
		b.cut(name, c.below(14)-1)
	case 10:
		b.remove(name)
	case 11:
		b.spoil(name, c.below(14)-1, byte(c.below(256)))
	case 12:
		if c.below(3) == 0 {
			b.fuse(c.below(12) - 1)
		}
	case 13:
		keep := make([]int, c.below(7))
		for i := range keep {
			keep[i] = c.below(14) - 2
		}
		b.crash(keep...)
	case 14:
		b.copy().step(c, names)
	case 15:
		b.look("nothing")
	}
}

// P7.1 to P7.4: calls of all kinds, in whatever order, held against the model behind each of them.
func TestWhateverIsDone(t *testing.T) {
	c := chance(7)
	few := []string{"a", "b", "a-", "a0", "-"}
	many := []string{"A", ""}
	for i := range api.MaxFiles + 2 {
		many = append(many, "f"+strconv.Itoa(i))
	}
	for round := range 60 {
		names := few
		if round%3 == 0 {
			names = many
		}
		b := start(t, c.below(80))
		for range 300 {
			b.step(&c, names)
		}
	}
}

// P7.5: what was synced is there behind a crash, byte by byte; of what was loose a beginning.
func TestWhatIsThereBehindACrash(t *testing.T) {
	c := chance(5)
	for range 500 {
		d, _ := disk.New(1000)
		d.Create("a")
		d.Sync("a")
		whole, fast := "", 0
		for range c.below(20) {
			if c.below(4) == 0 {
				d.Sync("a")
				fast = len(whole)
				continue
			}
			text := strconv.Itoa(c.below(100000))
			d.Append("a", text)
			whole += text
		}
		d.Crash(c.below(30) - 3)
		got, e := d.Read("a")
		if e != api.OK || !strings.HasPrefix(whole, got) || len(got) < fast {
			t.Fatalf("%q is left of %q, %d of which were synced (%v)", got, whole, fast, e)
		}
	}
}

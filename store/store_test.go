package store_test

import (
	"encoding/binary"
	"fmt"
	"hash/crc32"
	"math"
	"math/big"
	"regexp"
	"slices"
	"strings"
	"testing"

	"gossamer/api"
	"gossamer/disk"
	"gossamer/store"
)

var castagnoli = crc32.MakeTable(crc32.Castagnoli)

// frames answers the records' frames, by a sum of another making.
func frames(records ...string) string {
	var all []byte
	for _, r := range records {
		length := binary.LittleEndian.AppendUint32(nil, uint32(len(r)))
		sum := crc32.Checksum(append(slices.Clone(length), r...), castagnoli)
		all = append(all, length...)
		all = binary.LittleEndian.AppendUint32(all, sum)
		all = append(all, r...)
	}
	return string(all)
}

// whole answers the records of the whole frames at the front of s, by writing them again.
func whole(s string) []string {
	var records []string
	for len(s) >= 8 {
		n := int(binary.LittleEndian.Uint32([]byte(s)))
		if n > api.MaxFrame || n > len(s)-8 || frames(s[8:8+n]) != s[:8+n] {
			break
		}
		records = append(records, s[8:8+n])
		s = s[8+n:]
	}
	return records
}

func snapName(n uint64) string { return fmt.Sprintf("snap-%020d", n) }
func logName(n uint64) string  { return fmt.Sprintf("log-%020d", n) }

// greatest is the greatest number of a store's file.
const greatest uint64 = 1<<64 - 7

// newDisk answers a disk with so much room, and a file o that is not a store's.
func newDisk(t *testing.T, room int) *disk.Disk {
	t.Helper()
	d, e := disk.New(room)
	if e != api.OK || d.Create("o") != api.OK || d.Sync("o") != api.OK {
		t.Fatal("no disk", e)
	}
	return d
}

// put makes a file with these bytes, the last of them loose.
func put(t *testing.T, d *disk.Disk, name, fast, loose string) {
	t.Helper()
	if d.Create(name) != api.OK || d.Append(name, fast) != api.OK || d.Sync(name) != api.OK || d.Append(name, loose) != api.OK {
		t.Fatal("no file", name)
	}
}

// is holds errors against each other.
func is(t *testing.T, what string, got, want api.Errno) {
	t.Helper()
	if got != want {
		t.Fatalf("%s = %v; want %v", what, got, want)
	}
}

// has holds what the store tells of itself against its number and its records, so many of which are sure.
func has(t *testing.T, s *store.Store, number uint64, sure int, records ...string) {
	t.Helper()
	if s.Number() != number || s.Len() != len(frames(records...)) || s.Count() != len(records) || s.Sure() != sure {
		t.Fatalf("Number %d, Len %d, Count %d, Sure %d; want %d, %d, %d, %d",
			s.Number(), s.Len(), s.Count(), s.Sure(), number, len(frames(records...)), len(records), sure)
	}
}

// opened answers the disk's store, and holds what Open tells against what is wanted: all records are sure.
func opened(t *testing.T, d *disk.Disk, number uint64, snapshot string, records ...string) *store.Store {
	t.Helper()
	s, text, found, e := store.Open(d)
	if s == nil || e != api.OK || text != snapshot || !slices.Equal(found, records) {
		t.Fatalf("Open = %v, %.99q, %.99q, %v; want %.99q, %.99q", s, text, found, e, snapshot, records)
	}
	has(t, s, number, len(records), records...)
	return s
}

// refused holds that Open answers the error, and zeros beside it.
func refused(t *testing.T, d *disk.Disk, want api.Errno) {
	t.Helper()
	s, text, records, e := store.Open(d)
	if s != nil || text != "" || len(records) != 0 || e != want {
		t.Fatalf("Open = %v, %.50q, %.50q, %v; want %v", s, text, records, e, want)
	}
}

// file holds the bytes of a file, and how many of them are loose.
func file(t *testing.T, d *disk.Disk, name, bytes string, loose int) {
	t.Helper()
	got, e := d.Read(name)
	if e != api.OK || got != bytes || d.Loose(name) != loose {
		t.Fatalf("%s has %.99q (%d bytes, %d loose), %v; want %.99q (%d, %d loose)", name, got, len(got), d.Loose(name), e, bytes, len(bytes), loose)
	}
}

// names holds the names of the disk's files, but o.
func names(t *testing.T, d *disk.Disk, want ...string) {
	t.Helper()
	slices.Sort(want)
	got := slices.DeleteFunc(d.Names(), func(name string) bool { return name == "o" })
	if !slices.Equal(got, want) {
		t.Fatalf("files %q; want %q", got, want)
	}
}

// burnt answers how many calls of the disk go on within do.
func burnt(d *disk.Disk, do func()) int {
	const fuse = 30
	d.Fuse(fuse)
	do()
	left := 0
	for d.Sync("o") == api.OK {
		left++
	}
	d.Fuse(math.MaxInt)
	return fuse - left
}

// calls holds how many calls of the disk go on within do.
func calls(t *testing.T, what string, d *disk.Disk, want int, do func()) {
	t.Helper()
	if n := burnt(d, do); n != want {
		t.Errorf("%s: %d calls of the disk; want %d", what, n, want)
	}
}

// chance is a row of numbers by a rule: tests hang on no luck.
type chance uint64

func (c *chance) below(n int) int {
	*c = *c*6364136223846793005 + 1442695040888963407
	return int(uint64(*c) >> 33 % uint64(n))
}

// text answers a text of whatever bytes, often a short one.
func (c *chance) text() string {
	b := make([]byte, c.below(1+c.below(40)))
	for i := range b {
		b[i] = byte(c.below(256))
	}
	return string(b)
}

func (c *chance) texts(most int) []string {
	l := make([]string, c.below(most+1))
	for i := range l {
		l[i] = c.text()
	}
	return l
}

// P9.1: a disk without a store's files is of number 0, has no snapshot, and a new log, by two calls.
func TestOpenOfNone(t *testing.T) {
	d := newDisk(t, 0)
	calls(t, "Open", d, 2, func() { opened(t, d, 0, "") })
	names(t, d, "log-00000000000000000000")
	d.Crash()
	file(t, d, "log-00000000000000000000", "", 0)
	calls(t, "Open", d, 0, func() { opened(t, d, 0, "") })

	// Where the disk stands still behind the first of the two, the log is a new one.
	for n := range 2 {
		d := newDisk(t, 100)
		d.Fuse(n)
		refused(t, d, api.ErrDown)
		d.Crash()
		names(t, d)
		opened(t, d, 0, "")
	}
}

// P9.1, R3: without a disk there is no store.
func TestOpenOfNoDisk(t *testing.T) {
	for _, d := range []*disk.Disk{nil, {}, new(disk.Disk)} {
		refused(t, d, api.ErrNil)
	}
}

// Words, P9.1: the greatest number of a snapshot that is whole counts; all else that is a store's goes.
func TestNumberOfDisk(t *testing.T) {
	type f struct {
		n    uint64
		text string
	}
	one := frames("x")
	for _, c := range []struct {
		files  []f
		number uint64
		text   string
	}{
		{nil, 0, ""},
		{[]f{{1, one}}, 1, "x"},
		{[]f{{1, frames("")}}, 1, ""},
		{[]f{{1, one}, {2, frames("y")}}, 2, "y"},
		{[]f{{2, frames("y")}, {1, one}}, 2, "y"},
		{[]f{{9, one}, {10, frames("y")}}, 10, "y"},
		{[]f{{2, one}, {3, frames("y")[:8]}}, 2, "x"},
		{[]f{{2, one}, {3, ""}, {4, frames("y")[:8]}}, 2, "x"},
		{[]f{{2, ""}, {3, one}, {4, frames("y") + "z"}, {5, frames("y", "y")}}, 3, "x"},
		{[]f{{2, ""}, {3, "x"}}, 0, ""},
		{[]f{{7, frames("a\x00\xff")}, {700, frames(strings.Repeat("z", 5000))}}, 700, strings.Repeat("z", 5000)},
		{[]f{{greatest - 1, one}, {greatest, frames("y")}}, greatest, "y"},
		{[]f{{1, one}, {greatest, "y"}}, 1, "x"},
		{[]f{{api.MaxSave, frames("y")}, {1, one}, {api.MaxSave + 1, ""}}, api.MaxSave, "y"},
	} {
		d := newDisk(t, 20000)
		want := []string{logName(c.number)}
		for _, f := range c.files {
			put(t, d, snapName(f.n), f.text, "")
			if f.n == c.number {
				want = append(want, snapName(f.n))
			}
		}
		// A log beside each snapshot: just the one of that number is read.
		var records []string
		for _, f := range c.files {
			put(t, d, logName(f.n), frames(fmt.Sprint(f.n), "r"), "")
			if f.n == c.number {
				records = []string{fmt.Sprint(f.n), "r"}
			}
		}
		put(t, d, logName(50), frames("none"), "")
		put(t, d, logName(greatest-5), frames("none"), "")
		opened(t, d, c.number, c.text, records...)
		names(t, d, want...)
		opened(t, d, c.number, c.text, records...)
	}
}

// Words: a snapshot's file is whole, if its bytes are just one frame: not where one is cut, turned, or has more behind it.
func TestWhole(t *testing.T) {
	text := "abc\x00\xff"
	one := frames(text)
	var wrong []string
	for at := range len(one) {
		wrong = append(wrong, one[:at])
		for bit := range 8 {
			b := []byte(one)
			b[at] ^= 1 << bit
			wrong = append(wrong, string(b))
		}
	}
	long := frames(strings.Repeat("x", api.MaxFrame+1))
	wrong = append(wrong, one+"\x00", one+one, one+frames(""), "\x00"+one, frames("")[:7], long)
	for _, bytes := range wrong {
		d := newDisk(t, api.MaxRoom)
		put(t, d, snapName(1), frames("old"), "")
		put(t, d, snapName(2), bytes, "")
		put(t, d, logName(1), frames("a"), "")
		put(t, d, logName(2), frames("b"), "")
		opened(t, d, 1, "old", "a")
		names(t, d, snapName(1), logName(1))
	}
	most := strings.Repeat("x", api.MaxFrame)
	for _, good := range []string{"", "a", text, most} {
		d := newDisk(t, api.MaxRoom)
		put(t, d, snapName(1), frames("old"), "")
		put(t, d, snapName(2), frames(good), "")
		put(t, d, logName(2), frames("b"), "")
		opened(t, d, 2, good, "b")
		names(t, d, snapName(2), logName(2))
	}
}

// Words: which names are a store's files': 20 decimal digits, at most 2^64 - 7. All others are let alone.
func TestNames(t *testing.T) {
	one := frames("x")
	for _, n := range []string{
		"", "1", "0000000000000000001", "000000000000000000001", "0000000000000000000a", "-0000000000000000001", "0000000000-000000001",
		"18446744073709551610", "18446744073709551611", "18446744073709551615", "18446744073709551616", "18446744073709551617", "36893488147419103233", "99999999999999999999",
		"00000000000000000001-", "0000000000000000000x",
	} {
		for _, kind := range []string{"snap-", "log-"} {
			others(t, kind+n, one)
		}
	}
	for _, name := range []string{
		"00000000000000000001", "-00000000000000000001", "snap00000000000000000001", "snap--00000000000000000001", "snaps-00000000000000000001",
		"xsnap-00000000000000000001", "nap-00000000000000000001", "log00000000000000000001", "logs-00000000000000000001", "blog-00000000000000000001",
		"log-snap-00000000000000000001", "snap-log-00000000000000000001", "tree-00000000000000000001", "0-00000000000000000001", "snap-", "log-", "snap", "log",
	} {
		others(t, name, one)
	}
	for _, n := range []uint64{1, 9, 10, 1<<40 - 1, 1 << 40, 1<<40 + 1, 1 << 63, 1<<64 - 8, greatest} {
		d := newDisk(t, 100)
		put(t, d, snapName(n), one, "")
		opened(t, d, n, "x")
		names(t, d, snapName(n), logName(n))
		d = newDisk(t, 100)
		put(t, d, logName(n), one, "")
		put(t, d, snapName(n), one+"y", "")
		opened(t, d, 0, "")
		names(t, d, logName(0))
	}
}

// others holds that a file of the name is no store's.
func others(t *testing.T, name, bytes string) {
	t.Helper()
	d := newDisk(t, 200)
	put(t, d, name, bytes, "loose")
	put(t, d, logName(0), frames("r"), "")
	calls(t, "Open beside "+name, d, 0, func() { opened(t, d, 0, "", "r") })
	file(t, d, name, bytes+"loose", 5)

	d = newDisk(t, 200)
	put(t, d, name, "", bytes)
	put(t, d, snapName(3), frames("y"), "")
	put(t, d, snapName(2), frames("z"), "")
	s := opened(t, d, 3, "y")
	is(t, "Save", s.Save("u"), api.OK)
	names(t, d, name, snapName(4), logName(4))
	file(t, d, name, bytes, len(bytes))
}

// P9.1: of number 0 the snapshot is empty, also where there is a file of that number, which stays; its loose bytes are synced.
func TestNumberZero(t *testing.T) {
	for _, bytes := range []string{frames("x"), frames("x")[:8], "", frames("x", "y")} {
		for _, loose := range []string{"", "z"} {
			d := newDisk(t, 100)
			put(t, d, snapName(0), bytes, loose)
			put(t, d, logName(0), frames("r"), "")
			put(t, d, logName(1), frames("q"), "")
			calls(t, "Open", d, 1+len(loose), func() { opened(t, d, 0, "", "r") })
			names(t, d, snapName(0), logName(0))
			file(t, d, snapName(0), bytes+loose, 0)

			s := opened(t, d, 0, "", "r")
			calls(t, "Save", d, 7, func() { is(t, "Save", s.Save("y"), api.OK) })
			names(t, d, snapName(1), logName(1))
		}
	}
	d := newDisk(t, 100)
	put(t, d, snapName(0), "", frames("x"))
	opened(t, d, 0, "")
	file(t, d, snapName(0), frames("x"), 0)
}

// P9.1: a snapshot's loose bytes are synced, ahead of all else.
func TestOpenOfLoose(t *testing.T) {
	one := frames("xyz")
	for at := range len(one) + 1 {
		d := newDisk(t, 200)
		put(t, d, snapName(2), one[:at], one[at:])
		put(t, d, snapName(1), frames("old"), "")
		put(t, d, logName(2), frames("r"), "")
		c := d.Copy()
		c.Fuse(0)
		refused(t, c, api.ErrDown)
		file(t, c, snapName(2), one, len(one)-at)
		names(t, c, snapName(1), snapName(2), logName(2))

		want := 2
		if at == len(one) {
			want = 1
		}
		calls(t, "Open", d, want, func() { opened(t, d, 2, "xyz", "r") })
		file(t, d, snapName(2), one, 0)
		d.Crash()
		opened(t, d, 2, "xyz", "r")
	}

	// Those of others are not: they go.
	d := newDisk(t, 200)
	put(t, d, snapName(2), one, "")
	put(t, d, snapName(3), one, "loose")
	put(t, d, snapName(1), "", one)
	put(t, d, logName(2), "", frames("r"))
	calls(t, "Open", d, 3, func() { opened(t, d, 2, "xyz", "r") })
	names(t, d, snapName(2), logName(2))
}

// P9.1: what goes, goes by rising names, behind the Sync, ahead of the log; wherever the disk stands still, Open finds the same later.
func TestOpenInOrder(t *testing.T) {
	order := []string{logName(1), logName(2), logName(4), logName(greatest), snapName(0), snapName(1), snapName(2), snapName(4), snapName(greatest)}
	filled := func() *disk.Disk {
		d := newDisk(t, 1000)
		for i := range order {
			// They are made in another order than they go in.
			name := order[(i*4+5)%len(order)]
			put(t, d, name, frames(name)[:20], "")
		}
		put(t, d, snapName(3), frames("x")[:5], frames("x")[5:])
		put(t, d, logName(3), frames("r", "s")[:12], "")
		return d
	}
	all := append([]string{snapName(3), logName(3)}, order...)
	names(t, filled(), all...)
	for n := range len(order) + 2 {
		d := filled()
		d.Fuse(n)
		refused(t, d, api.ErrDown)
		loose := 0
		if n == 0 {
			loose = 4
		}
		file(t, d, snapName(3), frames("x"), loose)
		file(t, d, logName(3), frames("r", "s")[:12], 0)
		names(t, d, append([]string{snapName(3), logName(3)}, order[max(n-1, 0):]...)...)
		d.Crash(99)
		opened(t, d, 3, "x", "r")
		names(t, d, snapName(3), logName(3))
	}
	d := filled()
	d.Fuse(len(order) + 2)
	opened(t, d, 3, "x", "r")
	file(t, d, logName(3), frames("r"), 0)
}

// P9.1: the log's errors: one file too many, a disk that stands still.
func TestOpenRefused(t *testing.T) {
	fill := func(files int) *disk.Disk {
		d := newDisk(t, 100)
		for i := range files - 1 {
			is(t, "Create", d.Create(fmt.Sprint("f", i)), api.OK)
		}
		return d
	}
	refused(t, fill(api.MaxFiles), api.ErrFull)
	opened(t, fill(api.MaxFiles-1), 0, "")
	d := fill(api.MaxFiles - 1)
	put(t, d, snapName(1), frames("x"), "")
	refused(t, d, api.ErrFull)
	d = fill(api.MaxFiles - 2)
	put(t, d, snapName(1), frames("x"), "")
	put(t, d, snapName(2), "x", "")
	opened(t, d, 1, "x")
	d = fill(api.MaxFiles - 1)
	put(t, d, logName(0), frames("x"), "")
	opened(t, d, 0, "", "x")

	// Loose records are synced, those that are not whole cut off.
	d = newDisk(t, 100)
	put(t, d, snapName(1), frames("x"), "")
	put(t, d, logName(1), frames("a"), frames("b", "c")[:12])
	d.Fuse(0)
	refused(t, d, api.ErrDown)
	d.Crash(11)
	calls(t, "Open", d, 1, func() { opened(t, d, 1, "x", "a", "b") })
	file(t, d, logName(1), frames("a", "b"), 0)
}

// P9.2: records stand in the log, loose; Sync makes them sure; each by one call of the disk.
func TestAppendAndSync(t *testing.T) {
	d := newDisk(t, 1000)
	s := opened(t, d, 0, "")
	var all []string
	for i, more := range [][]string{{"a"}, {""}, {"b", "c", ""}, {"\xff\x00é", strings.Repeat("x", 300)}} {
		given := slices.Clone(more)
		calls(t, "Append", d, 1, func() { is(t, "Append", s.Append(more...), api.OK) })
		if !slices.Equal(more, given) {
			t.Errorf("Append(%.50q) has changed its records: %.50q", given, more)
		}
		sure := len(all)
		all = append(all, given...)
		has(t, s, 0, sure, all...)
		file(t, d, logName(0), frames(all...), len(frames(given...)))
		calls(t, "Append of none", d, 0, func() { is(t, "Append()", s.Append(), api.OK) })
		calls(t, "Sync", d, 1, func() { is(t, "Sync", s.Sync(), api.OK) })
		has(t, s, 0, len(all), all...)
		file(t, d, logName(0), frames(all...), 0)
		if i == 2 {
			d.Crash()
			s = opened(t, d, 0, "", all...)
		}
	}
	names(t, d, logName(0))
	opened(t, d, 0, "", all...)
}

// P9.2: ErrLong and ErrFull leave all as it was; the store is not broken.
func TestAppendRefused(t *testing.T) {
	long := strings.Repeat("x", api.MaxFrame+1)
	d := newDisk(t, 40)
	s := opened(t, d, 0, "")
	is(t, "Append", s.Append("ab"), api.OK)
	for range 2 {
		calls(t, "Append of a long one", d, 0, func() { is(t, "Append of a long one", s.Append("b", long), api.ErrLong) })
		calls(t, "Append beyond the room", d, 0, func() { is(t, "Append beyond the room", s.Append("b", strings.Repeat("x", 14)), api.ErrFull) })
		has(t, s, 0, 0, "ab")
		file(t, d, logName(0), frames("ab"), 10)
	}
	is(t, "Sync", s.Sync(), api.OK)
	is(t, "Append", s.Append("", strings.Repeat("x", 14)), api.OK)
	is(t, "Append", s.Append(""), api.ErrFull)
	has(t, s, 0, 1, "ab", "", strings.Repeat("x", 14))
	// There is no room for a snapshot beside the log.
	is(t, "Save", s.Save(""), api.ErrFull)
	is(t, "Sync", s.Sync(), api.OK)
	opened(t, d, 0, "", "ab", "", strings.Repeat("x", 14))

	d = newDisk(t, api.MaxRoom)
	s = opened(t, d, 0, "")
	is(t, "Append of MaxFrame bytes", s.Append(long[1:]), api.OK)
	is(t, "Append of a long one", s.Append(long), api.ErrLong)
	is(t, "Save", s.Save("x"), api.OK)
	has(t, s, 1, 0)
}

// brokenNow holds that each call answers ErrState, ahead of all else, and calls no disk.
func brokenNow(t *testing.T, d *disk.Disk, s *store.Store) {
	t.Helper()
	long := strings.Repeat("x", api.MaxFrame+1)
	for range 2 {
		calls(t, "calls of a broken store", d, 0, func() {
			is(t, "Append", s.Append("x"), api.ErrState)
			is(t, "Append()", s.Append(), api.ErrState)
			is(t, "Append of a long one", s.Append(long), api.ErrState)
			is(t, "Sync", s.Sync(), api.ErrState)
			is(t, "Save", s.Save("x"), api.ErrState)
			is(t, "Save of a long one", s.Save(long), api.ErrState)
		})
		d.Crash(99, 99, 99)
	}
}

// P9.2: a store is broken where its log is: by each of the disk's errors but ErrFull.
func TestBrokenByLog(t *testing.T) {
	doings := map[string]func(s *store.Store) api.Errno{
		"Append": func(s *store.Store) api.Errno { return s.Append("x", "y") },
		"Sync":   func(s *store.Store) api.Errno { return s.Sync() },
	}
	for what, do := range doings {
		d := newDisk(t, 100)
		s := opened(t, d, 0, "")
		is(t, "Save", s.Save("u"), api.OK)
		is(t, "Append", s.Append("a"), api.OK)
		is(t, "Sync", s.Sync(), api.OK)
		is(t, "Append", s.Append("b"), api.OK)
		d.Fuse(0)
		is(t, what, do(s), api.ErrDown)
		has(t, s, 1, 1, "a", "b")
		brokenNow(t, d, s)
		has(t, s, 1, 1, "a", "b")
		opened(t, d, 1, "u", "a", "b")

		d = newDisk(t, 100)
		s = opened(t, d, 0, "")
		is(t, "Append", s.Append("a"), api.OK)
		is(t, "Remove", d.Remove(logName(0)), api.OK)
		is(t, what, do(s), api.ErrNone)
		has(t, s, 0, 0, "a")
		brokenNow(t, d, s)
	}
}

// P9.2: Save puts the snapshot in the place of the older one and all records: six calls of the disk, one more where there is an older one.
func TestSave(t *testing.T) {
	d := newDisk(t, api.MaxRoom)
	s := opened(t, d, 0, "")
	want := 6
	for i, snapshot := range []string{"x", "", "\xff\x00é", frames("a", "b"), strings.Repeat("y", api.MaxFrame), "z"} {
		n := uint64(i + 1)
		calls(t, "Save", d, want, func() { is(t, "Save", s.Save(snapshot), api.OK) })
		want = 7
		has(t, s, n, 0)
		names(t, d, snapName(n), logName(n))
		file(t, d, snapName(n), frames(snapshot), 0)
		file(t, d, logName(n), "", 0)
		c := d.Copy()
		c.Crash()
		opened(t, c, n, snapshot)

		is(t, "Append", s.Append("a", fmt.Sprint(i)), api.OK)
		has(t, s, n, 0, "a", fmt.Sprint(i))
		if i%2 == 0 {
			is(t, "Sync", s.Sync(), api.OK)
			has(t, s, n, 2, "a", fmt.Sprint(i))
		}
		c = d.Copy()
		c.Crash(99)
		opened(t, c, n, snapshot, "a", fmt.Sprint(i))
		if i == 3 {
			s = opened(t, d, n, snapshot, "a", fmt.Sprint(i))
		}
	}
}

// The chapter's example.
func TestExample(t *testing.T) {
	d := newDisk(t, 1000)
	s := opened(t, d, 0, "")
	is(t, "Append", s.Append("a"), api.OK)
	is(t, "Sync", s.Sync(), api.OK)
	is(t, "Save", s.Save("x"), api.OK)
	is(t, "Append", s.Append("b"), api.OK)
	is(t, "Sync", s.Sync(), api.OK)
	d.Crash()
	opened(t, d, 1, "x", "b")
}

// P9.2: a snapshot of more than MaxFrame bytes is refused ahead of a number that is too great, this ahead of what the disk tells; the store is not broken.
func TestSaveRefused(t *testing.T) {
	long := strings.Repeat("x", api.MaxFrame+1)
	d := newDisk(t, api.MaxRoom)
	s := opened(t, d, 0, "")
	is(t, "Append", s.Append("a"), api.OK)
	calls(t, "Save of a long one", d, 0, func() { is(t, "Save of a long one", s.Save(long), api.ErrLong) })
	has(t, s, 0, 0, "a")
	names(t, d, logName(0))
	d.Fuse(0)
	is(t, "Save of a long one, where the disk stands still", s.Save(long), api.ErrLong)
	d.Crash(99)
	is(t, "Save of MaxFrame bytes", s.Save(long[1:]), api.OK)
	has(t, s, 1, 0)

	for _, n := range []uint64{api.MaxSave, api.MaxSave + 1, 1 << 63, greatest} {
		d := newDisk(t, 100)
		put(t, d, snapName(n), frames("x"), "")
		put(t, d, logName(n), frames("r"), "")
		s := opened(t, d, n, "x", "r")
		calls(t, "Save of a great number", d, 0, func() { is(t, "Save", s.Save("y"), api.ErrOver) })
		is(t, "Save of a long one", s.Save(long), api.ErrLong)
		d.Fuse(0)
		is(t, "Save where the disk stands still", s.Save("y"), api.ErrOver)
		d.Crash()
		is(t, "Append", s.Append("q"), api.OK)
		is(t, "Sync", s.Sync(), api.OK)
		has(t, s, n, 2, "r", "q")
		opened(t, d, n, "x", "r", "q")
	}
	d = newDisk(t, 100)
	put(t, d, snapName(api.MaxSave-1), frames("x"), "")
	s = opened(t, d, api.MaxSave-1, "x")
	is(t, "the last Save", s.Save("y"), api.OK)
	has(t, s, api.MaxSave, 0)
	names(t, d, "snap-00000001099511627776", "log-00000001099511627776")
	is(t, "one Save more", s.Save("z"), api.ErrOver)
	is(t, "Append", s.Append("q"), api.OK)
	opened(t, d, api.MaxSave, "y", "q")
}

// P9.2: where there is no room for the snapshot all is as it was, and the store is not broken.
func TestSaveFull(t *testing.T) {
	d := newDisk(t, 40)
	s := opened(t, d, 0, "")
	is(t, "Save", s.Save("x"), api.OK)
	is(t, "Append", s.Append("a"), api.OK)
	is(t, "Sync", s.Sync(), api.OK)
	is(t, "Append", s.Append("b"), api.OK)
	for range 2 {
		calls(t, "Save without room", d, 2, func() { is(t, "Save", s.Save("123456"), api.ErrFull) })
		has(t, s, 1, 1, "a", "b")
		names(t, d, snapName(1), logName(1))
		file(t, d, snapName(1), frames("x"), 0)
		file(t, d, logName(1), frames("a", "b"), 9)
		c := d.Copy()
		c.Crash()
		opened(t, c, 1, "x", "a")
	}
	is(t, "Save", s.Save("12345"), api.OK)
	has(t, s, 2, 0)
	is(t, "Append", s.Append("c"), api.OK)
	opened(t, d, 2, "12345", "c")

	// The fuse may end just behind what is created: then nothing is left either.
	for n := 1; n < 3; n++ {
		d := newDisk(t, 10)
		s := opened(t, d, 0, "")
		d.Fuse(n)
		want, left := api.ErrFull, []string{logName(0)}
		if n == 1 {
			want, left = api.ErrDown, append(left, snapName(1))
		}
		is(t, "Save", s.Save("123"), want)
		names(t, d, left...)
	}
}

// P9.2: of files, one is wanted for the snapshot (at ErrFull all is as it was), and one for the log (there it is broken).
func TestSaveFiles(t *testing.T) {
	filled := func(free int) (*disk.Disk, *store.Store) {
		d := newDisk(t, 100)
		s := opened(t, d, 0, "")
		is(t, "Append", s.Append("a"), api.OK)
		for i := range api.MaxFiles - 2 - free {
			is(t, "Create", d.Create(fmt.Sprint("f", i)), api.OK)
			is(t, "Sync", d.Sync(fmt.Sprint("f", i)), api.OK)
		}
		return d, s
	}
	d, s := filled(0)
	calls(t, "Save", d, 0, func() { is(t, "Save", s.Save("x"), api.ErrFull) })
	has(t, s, 0, 0, "a")
	is(t, "Sync", s.Sync(), api.OK)
	opened(t, d, 0, "", "a")

	d, s = filled(1)
	calls(t, "Save", d, 3, func() { is(t, "Save", s.Save("x"), api.ErrFull) })
	has(t, s, 0, 0, "a")
	file(t, d, snapName(1), frames("x"), 0)
	file(t, d, logName(0), frames("a"), 9)
	brokenNow(t, d, s)
	opened(t, d, 1, "x")

	d, s = filled(2)
	is(t, "Save", s.Save("x"), api.OK)
	has(t, s, 1, 0)
	opened(t, d, 1, "x")
}

// P9.2: a file that somebody else has put in the snapshot's place stays, and the store is broken.
func TestSaveThere(t *testing.T) {
	for _, bytes := range []string{"", "x", frames("x")} {
		d := newDisk(t, 100)
		s := opened(t, d, 0, "")
		is(t, "Append", s.Append("a"), api.OK)
		put(t, d, snapName(1), "", bytes)
		calls(t, "Save", d, 0, func() { is(t, "Save", s.Save("y"), api.ErrThere) })
		has(t, s, 0, 0, "a")
		file(t, d, snapName(1), bytes, len(bytes))
		names(t, d, logName(0), snapName(1))
		brokenNow(t, d, s)
	}

	// Two stores on one disk: the second that saves finds the first one's.
	d := newDisk(t, 100)
	s, other := opened(t, d, 0, ""), opened(t, d, 0, "")
	is(t, "Save", s.Save("x"), api.OK)
	is(t, "the other one's Save", other.Save("y"), api.ErrThere)
	opened(t, d, 1, "x")
}

// P9.2: older files that somebody else has removed: the snapshot is not missed, the log is.
func TestSaveGone(t *testing.T) {
	d := newDisk(t, 100)
	s := opened(t, d, 0, "")
	is(t, "Save", s.Save("x"), api.OK)
	is(t, "Remove", d.Remove(snapName(1)), api.OK)
	calls(t, "Save", d, 6, func() { is(t, "Save", s.Save("y"), api.OK) })
	has(t, s, 2, 0)
	names(t, d, snapName(2), logName(2))

	is(t, "Append", s.Append("a"), api.OK)
	is(t, "Remove", d.Remove(logName(2)), api.OK)
	calls(t, "Save", d, 6, func() { is(t, "Save", s.Save("z"), api.ErrNone) })
	has(t, s, 2, 0, "a")
	names(t, d, snapName(3), logName(3))
	brokenNow(t, d, s)
	opened(t, d, 3, "z")
}

// P9.2: where the log's place is taken its records are the store's: it is opened as any log is.
func TestSaveOnLog(t *testing.T) {
	d := newDisk(t, 100)
	s := opened(t, d, 0, "")
	put(t, d, logName(1), frames("a", "b")[:12], "")
	is(t, "Save", s.Save("x"), api.OK)
	file(t, d, logName(1), frames("a"), 0)
	has(t, s, 1, 1, "a")
}

// P9.2: wherever the disk stands still within Save: which files are there, what is told, and that it is broken.
func TestSaveStandsStill(t *testing.T) {
	old := []string{snapName(1), logName(1)}
	for n, want := range []struct {
		files []string
		loose int  // of the new snapshot
		kept  bool // whether the new one counts behind a crash that keeps nothing loose
	}{
		{old, 0, false},
		{append([]string{snapName(2)}, old...), 0, false},
		{append([]string{snapName(2)}, old...), 9, false},
		{append([]string{snapName(2)}, old...), 0, true},
		{append([]string{snapName(2), logName(2)}, old...), 0, true},
		{append([]string{snapName(2), logName(2)}, old...), 0, true},
		{[]string{snapName(2), logName(2), logName(1)}, 0, true},
	} {
		d := newDisk(t, 100)
		s := opened(t, d, 0, "")
		is(t, "Save", s.Save("x"), api.OK)
		is(t, "Append", s.Append("a"), api.OK)
		is(t, "Sync", s.Sync(), api.OK)
		is(t, "Append", s.Append("b"), api.OK)
		d.Fuse(n)
		is(t, fmt.Sprint("Save behind ", n), s.Save("y"), api.ErrDown)
		has(t, s, 1, 1, "a", "b")
		names(t, d, want.files...)
		if l := d.Loose(snapName(2)); l != want.loose {
			t.Errorf("behind %d calls %d bytes are loose; want %d", n, l, want.loose)
		}
		c, all := d.Copy(), d.Copy()
		c.Crash()
		all.Crash(99, 99, 99)
		if want.kept {
			opened(t, c, 2, "y")
		} else {
			opened(t, c, 1, "x", "a")
		}
		if n > 1 {
			opened(t, all, 2, "y")
		} else {
			opened(t, all, 1, "x", "a", "b")
		}
		d.Crash()
		calls(t, "calls of a broken store", d, 0, func() {
			is(t, "Append", s.Append("x"), api.ErrState)
			is(t, "Append()", s.Append(), api.ErrState)
			is(t, "Sync", s.Sync(), api.ErrState)
			is(t, "Save", s.Save("x"), api.ErrState)
		})
	}
}

// P9.3, R3: nil, and what Open did not make.
func TestNil(t *testing.T) {
	long := strings.Repeat("x", api.MaxFrame+1)
	for _, s := range []*store.Store{nil, {}, new(store.Store)} {
		for range 2 {
			is(t, "Append()", s.Append(), api.ErrNil)
			is(t, "Append", s.Append("a", long), api.ErrNil)
			is(t, "Sync", s.Sync(), api.ErrNil)
			is(t, "Save", s.Save("x"), api.ErrNil)
			is(t, "Save of a long one", s.Save(long), api.ErrNil)
			if s.Number() != 0 || s.Count() != 0 || s.Sure() != 0 || s.Len() != 0 {
				t.Errorf("Number %d, Count %d, Sure %d, Len %d", s.Number(), s.Count(), s.Sure(), s.Len())
			}
		}
	}
}

// R5: the records that Open answers are the caller's.
func TestAnswersAreNew(t *testing.T) {
	d := newDisk(t, 100)
	put(t, d, logName(0), frames("a", "b"), "")
	s, _, records, _ := store.Open(d)
	records[0], records[1] = "spoilt", "spoilt"
	_ = append(records, "more")
	has(t, s, 0, 2, "a", "b")
	opened(t, d, 0, "", "a", "b")
	mine := []string{"c", "d"}
	is(t, "Append", s.Append(mine...), api.OK)
	mine[0], mine[1] = "spoilt", "spoilt"
	opened(t, d, 0, "", "a", "b", "c", "d")
}

// R6: stores on disks of their own have nothing in common.
func TestStoresApart(t *testing.T) {
	d, far := newDisk(t, 200), newDisk(t, 200)
	s, other := opened(t, d, 0, ""), opened(t, far, 0, "")
	is(t, "Append", s.Append("a"), api.OK)
	is(t, "Save", other.Save("x"), api.OK)
	has(t, s, 0, 0, "a")
	has(t, other, 1, 0)
	d.Fuse(0)
	is(t, "Save", s.Save("y"), api.ErrDown)
	is(t, "Save", other.Save("z"), api.OK)
	is(t, "Append", other.Append("b"), api.OK)
	has(t, s, 0, 0, "a")
	has(t, other, 2, 0, "b")
	opened(t, far, 2, "z", "b")
}

// kept is what may be found behind a crash: a snapshot, and of the records behind it a beginning, with those that were sure.
type kept struct {
	snapshot string
	records  []string
	sure     int
}

func (k kept) may(snapshot string, found []string) bool {
	return snapshot == k.snapshot && len(found) >= k.sure && len(found) <= len(k.records) && slices.Equal(found, k.records[:len(found)])
}

// P9.4: wherever the disk stands still within calls of all kinds, and whatever the crash keeps.
func TestCrashAnywhere(t *testing.T) {
	c := chance(9)
	saved, found := 0, 0
	for range 6000 {
		d := newDisk(t, 60+c.below(500))
		d.Fuse(c.below(30))
		may := []kept{{}}
		for range 6 {
			s, snapshot, records, e := store.Open(d)
			if e == api.OK {
				if !slices.ContainsFunc(may, func(k kept) bool { return k.may(snapshot, records) }) {
					t.Fatalf("found are %q, %q; there may be %v", snapshot, records, may)
				}
				if len(may) > 1 && may[1].may(snapshot, records) {
					found++
				}
				may = []kept{{snapshot, records, len(records)}}
			} else if e != api.ErrDown {
				t.Fatalf("Open: %v", e)
			}
			for range c.below(12) {
				k := &may[0]
				switch c.below(6) {
				case 0, 1, 2:
					if more := c.texts(3); s.Append(more...) == api.OK {
						k.records = append(k.records, more...)
					}
				case 3, 4:
					if s.Sync() == api.OK {
						k.sure = len(k.records)
					}
				case 5:
					snapshot := c.text()
					switch e := s.Save(snapshot); e {
					case api.OK:
						saved++
						may = []kept{{snapshot, nil, 0}}
					case api.ErrDown:
						may = append(may, kept{snapshot, nil, 0})
					case api.ErrFull, api.ErrState, api.ErrNil:
					default:
						t.Fatalf("Save: %v", e)
					}
				}
			}
			d.Crash(c.below(60)-9, c.below(60)-9, c.below(60)-9)
			if c.below(3) > 0 {
				d.Fuse(c.below(20))
			}
		}
	}
	if saved < 1000 || found < 100 {
		t.Errorf("%d snapshots were saved, %d found that were being saved: too few to tell", saved, found)
	}
}

// model is the chapter, word by word, on a disk of its own.
type model struct {
	d       *disk.Disk
	there   bool
	number  uint64
	records []string
	sure    int
	broken  bool
}

var (
	snapForm = regexp.MustCompile(`^snap-([0-9]{20})$`)
	ourForm  = regexp.MustCompile(`^(?:snap|log)-([0-9]{20})$`)
)

// numbered answers the number in a name of the form, if it is at most 2^64 - 7.
func numbered(form *regexp.Regexp, name string) *big.Int {
	found := form.FindStringSubmatch(name)
	if found == nil {
		return nil
	}
	n, _ := new(big.Int).SetString(found[1], 10)
	most := new(big.Int).Lsh(big.NewInt(1), 64)
	most.Sub(most, big.NewInt(7))
	if n.Cmp(most) > 0 {
		return nil
	}
	return n
}

// diskNumber answers the greatest number of a whole snapshot, and its text.
func (m *model) diskNumber() (uint64, string) {
	best, text := new(big.Int), ""
	for _, name := range m.d.Names() {
		n := numbered(snapForm, name)
		bytes, _ := m.d.Read(name)
		if n != nil && n.Cmp(best) > 0 && len(bytes) >= 8 && len(bytes)-8 <= api.MaxFrame && bytes == frames(bytes[8:]) {
			best, text = n, bytes[8:]
		}
	}
	return best.Uint64(), text
}

// logOpen is layer 8's Open.
func (m *model) logOpen(n uint64) ([]string, api.Errno) {
	name := logName(n)
	bytes, e := m.d.Read(name)
	created := e == api.ErrNone
	if created {
		if e := m.d.Create(name); e != api.OK {
			return nil, e
		}
	}
	records := whole(bytes)
	if size := len(frames(records...)); size < len(bytes) {
		return records, m.d.Cut(name, size)
	}
	if created || m.d.Loose(name) > 0 {
		return records, m.d.Sync(name)
	}
	return records, api.OK
}

func (m *model) open() (string, api.Errno) {
	*m = model{d: m.d}
	n, text := m.diskNumber()
	if m.d.Loose(snapName(n)) > 0 {
		if e := m.d.Sync(snapName(n)); e != api.OK {
			return "", e
		}
	}
	for _, name := range m.d.Names() {
		if numbered(ourForm, name) == nil || name == snapName(n) || name == logName(n) {
			continue
		}
		if e := m.d.Remove(name); e != api.OK {
			return "", e
		}
	}
	records, e := m.logOpen(n)
	if e != api.OK {
		return "", e
	}
	m.there, m.number, m.records, m.sure = true, n, records, len(records)
	return text, api.OK
}

func (m *model) ready() api.Errno {
	if !m.there {
		return api.ErrNil
	}
	if m.broken {
		return api.ErrState
	}
	return api.OK
}

func (m *model) add(records []string) api.Errno {
	if e := m.ready(); e != api.OK || len(records) == 0 {
		return e
	}
	e := m.d.Append(logName(m.number), frames(records...))
	m.broken = e != api.OK && e != api.ErrFull
	if e == api.OK {
		m.records = append(slices.Clone(m.records), records...)
	}
	return e
}

func (m *model) sync() api.Errno {
	if e := m.ready(); e != api.OK {
		return e
	}
	e := m.d.Sync(logName(m.number))
	m.broken = e != api.OK
	if e == api.OK {
		m.sure = len(m.records)
	}
	return e
}

func (m *model) save(snapshot string) api.Errno {
	if e := m.ready(); e != api.OK {
		return e
	}
	if m.number >= 1<<40 {
		return api.ErrOver
	}
	next := snapName(m.number + 1)
	e := m.d.Create(next)
	created := e == api.OK
	if e == api.OK {
		e = m.d.Append(next, frames(snapshot))
	}
	if e == api.OK {
		e = m.d.Sync(next)
	}
	if e != api.OK {
		if created && e != api.ErrDown {
			m.d.Remove(next)
		}
		m.broken = e != api.ErrFull
		return e
	}
	e = m.turn()
	m.broken = e != api.OK
	return e
}

func (m *model) turn() api.Errno {
	records, e := m.logOpen(m.number + 1)
	if e != api.OK {
		return e
	}
	if slices.Contains(m.d.Names(), snapName(m.number)) {
		if e := m.d.Remove(snapName(m.number)); e != api.OK {
			return e
		}
	}
	if e := m.d.Remove(logName(m.number)); e != api.OK {
		return e
	}
	m.number, m.records, m.sure = m.number+1, records, len(records)
	return api.OK
}

// both is a store on its disk, and the model that they are held against.
type both struct {
	d *disk.Disk
	s *store.Store
	m *model
}

// onDisks does the same to both disks.
func (b *both) onDisks(do func(d *disk.Disk)) {
	do(b.d)
	do(b.m.d)
}

// name answers a name near those that are there.
func (b *both) name(c *chance) string {
	near := b.m.number + uint64(c.below(4)) - 1
	all := append(b.d.Names(), snapName(near), logName(near), snapName(near+1), snapName(near*10), logName(greatest), snapName(greatest+1), logName(0), snapName(0), "log-1", "p")
	return all[c.below(len(all))]
}

// meddle does something to the disks that no store does.
func (b *both) meddle(c *chance) string {
	name, at := b.name(c), c.below(30)
	bytes := frames(c.texts(2)...)
	switch c.below(6) {
	case 0, 1:
		b.onDisks(func(d *disk.Disk) { d.Create(name); d.Append(name, bytes) })
		return "more bytes in " + name
	case 2:
		b.onDisks(func(d *disk.Disk) { d.Append(name, bytes[:len(bytes)/2]); d.Sync(name) })
		return "half a frame in " + name
	case 3:
		b.onDisks(func(d *disk.Disk) { d.Spoil(name, at, byte(at)) })
		return "a byte is spoilt in " + name
	case 4:
		b.onDisks(func(d *disk.Disk) { d.Remove(name) })
		return "removed is " + name
	}
	b.onDisks(func(d *disk.Disk) { d.Cut(name, at) })
	return "cut is " + name
}

// step does one call of whatever kind, and answers its name, its error, and the model's.
func (b *both) step(t *testing.T, c *chance) (what string, got, want api.Errno) {
	switch c.below(20) {
	case 0, 1, 2, 3:
		records := c.texts(4)
		return "Append", b.s.Append(records...), b.m.add(records)
	case 4, 5, 6:
		return "Sync", b.s.Sync(), b.m.sync()
	case 7, 8, 9, 10:
		snapshot := c.text()
		return "Save", b.s.Save(snapshot), b.m.save(snapshot)
	case 11, 12:
		s, text, records, e := store.Open(b.d)
		wantText, want := b.m.open()
		if b.s = s; text != wantText || !slices.Equal(records, b.m.records) {
			t.Fatalf("Open: %q, %q; want %q, %q", text, records, wantText, b.m.records)
		}
		return "Open", e, want
	case 13, 14:
		keep := []int{c.below(60) - 6, c.below(60) - 6, c.below(60) - 6}[:c.below(4)]
		b.onDisks(func(d *disk.Disk) { d.Crash(keep...) })
		return "Crash", api.OK, api.OK
	case 15, 16:
		if n := c.below(16); c.below(2) == 0 {
			b.onDisks(func(d *disk.Disk) { d.Fuse(n) })
		}
		return "Fuse", api.OK, api.OK
	}
	if c.below(3) > 0 {
		return "nothing", api.OK, api.OK
	}
	return b.meddle(c), api.OK, api.OK
}

// look holds all that is to be seen of the store and its disk against the model.
func (b *both) look(t *testing.T, what string) {
	t.Helper()
	if b.m.there != (b.s != nil) {
		t.Fatalf("%s: a store, %v; want %v", what, b.s != nil, b.m.there)
	}
	has(t, b.s, b.m.number, b.m.sure, b.m.records...)
	if got, want := b.d.Names(), b.m.d.Names(); !slices.Equal(got, want) {
		t.Fatalf("%s: files %q; want %q", what, got, want)
	}
	for _, name := range b.d.Names() {
		bytes, _ := b.m.d.Read(name)
		file(t, b.d, name, bytes, b.m.d.Loose(name))
	}
	// Which files are new ones a crash tells.
	got, want := b.d.Copy(), b.m.d.Copy()
	got.Crash()
	want.Crash()
	if got, want := got.Names(), want.Names(); !slices.Equal(got, want) {
		t.Fatalf("%s: files behind a crash %q; want %q", what, got, want)
	}
}

// P9.1 to P9.3: calls of all kinds, in whatever order, and files that others have touched, held against the model behind each of them.
func TestWhateverIsDone(t *testing.T) {
	c := chance(4)
	seen := map[string]int{}
	for range 600 {
		room := 30 + c.below(500)
		d, twin := newDisk(t, room), newDisk(t, room)
		b := both{d: d, m: &model{d: twin}}
		if c.below(8) == 0 {
			n := api.MaxSave - uint64(c.below(3))
			b.onDisks(func(d *disk.Disk) { put(t, d, snapName(n), frames(""), "") })
		}
		if files := 11 + c.below(4); c.below(3) == 0 {
			b.onDisks(func(d *disk.Disk) {
				for i := range files {
					put(t, d, fmt.Sprint("f", i), "", "")
				}
			})
		}
		for range 150 {
			what, got, want := b.step(t, &c)
			is(t, what, got, want)
			b.look(t, what)
			seen[fmt.Sprint(what, " ", got)]++
		}
	}
	for _, what := range []string{
		"Append error 0", "Append error 1", "Append error 3", "Append error 5", "Append error 6", "Append error 70",
		"Sync error 0", "Sync error 3", "Sync error 5", "Sync error 70", "Open error 0", "Open error 6", "Open error 70",
		"Save error 0", "Save error 3", "Save error 5", "Save error 6", "Save error 7", "Save error 9", "Save error 70",
	} {
		if seen[what] < 5 {
			t.Errorf("%s: %d times: too few to tell", what, seen[what])
		}
	}
}

package log_test

import (
	"encoding/binary"
	"hash/crc32"
	"math"
	"slices"
	"strconv"
	"strings"
	"testing"

	"gossamer/api"
	"gossamer/disk"
	"gossamer/log"
)

var castagnoli = crc32.MakeTable(crc32.Castagnoli)

// frames answers the records' frames, by a sum of another making.
func frames(records ...string) string {
	var all []byte
	for _, r := range records {
		length := binary.LittleEndian.AppendUint32(nil, uint32(len(r)))
		sum := crc32.Checksum(append(slices.Clone(length), r...), castagnoli)
		all = append(all, length...)
		all = binary.LittleEndian.AppendUint32(all, sum)
		all = append(all, r...)
	}
	return string(all)
}

// whole answers the records of the whole frames at the front of s, by writing them again.
func whole(s string) []string {
	var records []string
	for len(s) >= 8 {
		n := int(binary.LittleEndian.Uint32([]byte(s)))
		if n > api.MaxFrame || n > len(s)-8 || frames(s[8:8+n]) != s[:8+n] {
			break
		}
		records = append(records, s[8:8+n])
		s = s[8+n:]
	}
	return records
}

// newDisk answers a disk with so much room, and a file o that is not the log's.
func newDisk(t *testing.T, room int) *disk.Disk {
	t.Helper()
	d, e := disk.New(room)
	if e != api.OK || d.Create("o") != api.OK || d.Sync("o") != api.OK {
		t.Fatal("no disk", e)
	}
	return d
}

// filed answers a disk whose file a has these bytes, the last of them loose.
func filed(t *testing.T, fast, loose string) *disk.Disk {
	t.Helper()
	d := newDisk(t, api.MaxRoom)
	if d.Create("a") != api.OK || d.Append("a", fast) != api.OK || d.Sync("a") != api.OK || d.Append("a", loose) != api.OK {
		t.Fatal("no file")
	}
	return d
}

// opened answers the log of file a, and holds its records against want: all are sure.
func opened(t *testing.T, d *disk.Disk, want ...string) *log.Log {
	t.Helper()
	l, records, e := log.Open(d, "a")
	if l == nil || e != api.OK || !slices.Equal(records, want) {
		t.Fatalf("Open = %v, %.99q, %v; want %.99q", l, records, e, want)
	}
	has(t, l, len(want), want...)
	return l
}

// refused holds that Open answers the error, and zeros beside it.
func refused(t *testing.T, d *disk.Disk, name string, want api.Errno) {
	t.Helper()
	l, records, e := log.Open(d, name)
	if l != nil || len(records) != 0 || e != want {
		t.Errorf("Open(%.50q) = %v, %q, %v; want %v", name, l, records, e, want)
	}
}

// has holds what the log tells of itself against its records, so many of which are sure.
func has(t *testing.T, l *log.Log, sure int, records ...string) {
	t.Helper()
	if l.Len() != len(frames(records...)) || l.Count() != len(records) || l.Sure() != sure {
		t.Fatalf("Len %d, Count %d, Sure %d; want %d, %d, %d", l.Len(), l.Count(), l.Sure(), len(frames(records...)), len(records), sure)
	}
}

// file holds the bytes of file a, and how many of them are loose.
func file(t *testing.T, d *disk.Disk, bytes string, loose int) {
	t.Helper()
	got, e := d.Read("a")
	if e != api.OK || got != bytes || d.Loose("a") != loose {
		t.Fatalf("the file has %.99q (%d bytes, %d loose), %v; want %.99q (%d, %d loose)", got, len(got), d.Loose("a"), e, bytes, len(bytes), loose)
	}
}

// is holds errors against each other.
func is(t *testing.T, what string, got, want api.Errno) {
	t.Helper()
	if got != want {
		t.Fatalf("%s = %v; want %v", what, got, want)
	}
}

// burnt answers how many calls of the disk go on within do.
func burnt(d *disk.Disk, do func()) int {
	const fuse = 9
	d.Fuse(fuse)
	do()
	left := 0
	for d.Sync("o") == api.OK {
		left++
	}
	d.Fuse(math.MaxInt)
	return fuse - left
}

// chance is a row of numbers by a rule: tests hang on no luck.
type chance uint64

func (c *chance) below(n int) int {
	*c = *c*6364136223846793005 + 1442695040888963407
	return int(uint64(*c) >> 33 % uint64(n))
}

// record answers a text of whatever bytes, often a short one.
func (c *chance) record() string {
	b := make([]byte, c.below(1+c.below(40)))
	for i := range b {
		b[i] = byte(c.below(256))
	}
	return string(b)
}

func (c *chance) records(most int) []string {
	l := make([]string, c.below(most+1))
	for i := range l {
		l[i] = c.record()
	}
	return l
}

// P8.1: a file that is not there is created and synced, by two calls, and has no records.
func TestOpenOfNone(t *testing.T) {
	d := newDisk(t, 100)
	if n := burnt(d, func() { opened(t, d) }); n != 2 {
		t.Errorf("Open of a new file: %d calls", n)
	}
	d.Crash()
	file(t, d, "", 0)
	opened(t, d)

	d = newDisk(t, 0)
	opened(t, d)

	// Where its disk stands still behind the first of the two, the file is a new one.
	d = newDisk(t, 100)
	d.Fuse(0)
	refused(t, d, "a", api.ErrDown)
	if names := d.Names(); !slices.Equal(names, []string{"o"}) {
		t.Errorf("files behind a Create that was refused: %q", names)
	}
	d.Fuse(1)
	refused(t, d, "a", api.ErrDown)
	file(t, d, "", 0)
	d.Crash()
	if _, e := d.Read("a"); e != api.ErrNone {
		t.Errorf("a file that was not synced, behind a crash: %v", e)
	}
	opened(t, d)
}

// P8.1: without a disk nothing else counts; then the errors of Create.
func TestOpenRefused(t *testing.T) {
	for _, d := range []*disk.Disk{nil, {}, new(disk.Disk)} {
		for _, name := range []string{"a", "", "A", strings.Repeat("a", api.MaxFile+1)} {
			refused(t, d, name, api.ErrNil)
		}
	}
	for _, name := range []string{"", "A", "a b", "é", "\x00", strings.Repeat("a", api.MaxFile+1)} {
		d := newDisk(t, 100)
		refused(t, d, name, api.ErrArg)
		d.Fuse(0)
		refused(t, d, name, api.ErrArg)
		if names := d.Names(); !slices.Equal(names, []string{"o"}) {
			t.Errorf("files behind Open(%q): %q", name, names)
		}
	}
	d := newDisk(t, 100)
	for i := range api.MaxFiles - 2 {
		is(t, "Create", d.Create("f"+strconv.Itoa(i)), api.OK)
	}
	long := strings.Repeat("z", api.MaxFile)
	if l, _, e := log.Open(d, long); l == nil || e != api.OK {
		t.Errorf("Open of a long name, and the last file that there may be: %v", e)
	}
	refused(t, d, "a", api.ErrFull)
	refused(t, d, "A", api.ErrArg)
	if l, _, e := log.Open(d, "f0"); l == nil || e != api.OK {
		t.Errorf("Open of a file that is there, among the most that may be: %v", e)
	}
	d.Fuse(0)
	refused(t, d, "a", api.ErrDown)
}

// P8.1: what is whole and fast is read, and the disk is asked for nothing more.
func TestOpenOfFast(t *testing.T) {
	for _, records := range [][]string{nil, {""}, {"a"}, {"", "", ""}, {"a", "", "xyz", "\xff\x00é"}, {strings.Repeat("x", 5000), "y"}} {
		d := filed(t, frames(records...), "")
		if n := burnt(d, func() { opened(t, d, records...) }); n != 0 {
			t.Errorf("Open of fast frames: %d calls", n)
		}
		d.Fuse(0)
		opened(t, d, records...)
		file(t, d, frames(records...), 0)
	}
}

// P8.1: a new file that somebody else has made, without bytes, is not synced.
func TestOpenOfAnothersNew(t *testing.T) {
	d := newDisk(t, 100)
	is(t, "Create", d.Create("a"), api.OK)
	if n := burnt(d, func() { opened(t, d) }); n != 0 {
		t.Errorf("Open of a new file without bytes: %d calls", n)
	}
	d.Crash()
	if _, e := d.Read("a"); e != api.ErrNone {
		t.Errorf("a file that nobody has synced, behind a crash: %v", e)
	}
}

// P8.1: whole frames that are loose are synced, by one call.
func TestOpenOfLoose(t *testing.T) {
	all := frames("a", "", "xyz")
	for at := range len(all) {
		d := filed(t, all[:at], all[at:])
		d.Fuse(0)
		refused(t, d, "a", api.ErrDown)
		file(t, d, all, len(all)-at)
		d.Crash(len(all))
		file(t, d, all, 0)

		d = filed(t, all[:at], all[at:])
		if n := burnt(d, func() { opened(t, d, "a", "", "xyz") }); n != 1 {
			t.Errorf("Open of loose frames: %d calls", n)
		}
		file(t, d, all, 0)
		d.Crash()
		opened(t, d, "a", "", "xyz")
	}
}

// P8.1: what stands behind the whole frames is cut off, fast or loose, by one call; then the log goes on there.
func TestOpenCuts(t *testing.T) {
	records := []string{"a", "", "xyz", strings.Repeat("u", 20)}
	all := frames(records...)
	for end := range len(all) + 1 {
		found := whole(all[:end])
		size := len(frames(found...))
		for _, fast := range []int{0, size / 2, size, (size + end) / 2, end} {
			d := filed(t, all[:fast], all[fast:end])
			want := 1
			if size == end && fast == end {
				want = 0
			}
			var l *log.Log
			if n := burnt(d, func() { l = opened(t, d, found...) }); n != want {
				t.Errorf("Open of %d bytes, %d of them fast: %d calls; want %d", end, fast, n, want)
			}
			file(t, d, all[:size], 0)
			is(t, "Append", l.Append("more"), api.OK)
			file(t, d, all[:size]+frames("more"), len(frames("more")))
			has(t, l, len(found), append(found, "more")...)
			d.Crash(99)
			opened(t, d, append(found, "more")...)
		}
	}
	d := filed(t, all, "rest")
	d.Fuse(0)
	refused(t, d, "a", api.ErrDown)
	file(t, d, all+"rest", 4)
}

// P8.1: each of Scan's errors ends the records; also frames behind it that are whole go.
func TestOpenBehindEachError(t *testing.T) {
	front, behind := frames("a", "b"), frames("c", "d")
	long := []byte(frames("c"))
	binary.LittleEndian.PutUint32(long, api.MaxFrame+1)
	sum := []byte(frames("c"))
	sum[5] ^= 1
	for _, wrong := range []string{"x", "1234567", frames("xyz")[:10], string(long), string(sum), "\xff\xff\xff\xff\xff\xff\xff\xff"} {
		for _, rest := range []string{wrong, wrong + behind} {
			if n := len(whole(front + rest)); n != 2 {
				t.Fatalf("%q: %d whole frames", rest, n)
			}
			d := filed(t, front+rest, "")
			opened(t, d, "a", "b")
			file(t, d, front, 0)
			d = filed(t, rest, front)
			opened(t, d)
			file(t, d, "", 0)
		}
	}
}

// P8.4: a record that was spoilt ends them, whichever bit of its frame it was.
func TestSpoilt(t *testing.T) {
	records := []string{"ab", "", "xyz", "u"}
	all := frames(records...)
	for at := range len(all) {
		for bit := range 8 {
			d := filed(t, all, "")
			is(t, "Spoil", d.Spoil("a", at, 1<<bit), api.OK)
			good := whole(all[:at])
			l := opened(t, d, good...)
			file(t, d, frames(good...), 0)
			is(t, "Append", l.Append("new"), api.OK)
			is(t, "Sync", l.Sync(), api.OK)
			d.Crash()
			opened(t, d, append(good, "new")...)
		}
	}
}

// P8.2: records stand behind one another, loose, by one call of the disk, however many there are.
func TestAppend(t *testing.T) {
	d := newDisk(t, 1000)
	l := opened(t, d)
	var all []string
	for _, more := range [][]string{{"a"}, {""}, {"b", "c", ""}, {"", ""}, {"\xff\x00é", strings.Repeat("x", 300)}} {
		given := slices.Clone(more)
		if n := burnt(d, func() { is(t, "Append", l.Append(more...), api.OK) }); n != 1 {
			t.Errorf("Append(%.50q): %d calls", given, n)
		}
		if !slices.Equal(more, given) {
			t.Errorf("Append(%.50q) has changed its records: %.50q", given, more)
		}
		all = append(all, given...)
		has(t, l, 0, all...)
		file(t, d, frames(all...), len(frames(all...)))
	}
	is(t, "Sync", l.Sync(), api.OK)
	has(t, l, len(all), all...)
	is(t, "Append", l.Append("z", "zz"), api.OK)
	has(t, l, len(all), append(all, "z", "zz")...)
	file(t, d, frames(append(all, "z", "zz")...), len(frames("z", "zz")))
	d.Crash(99)
	opened(t, d, append(all, "z", "zz")...)
}

// P8.2: of no records nothing is done: no call of the disk, not where it stands still, nor where the file is gone.
func TestAppendOfNone(t *testing.T) {
	d := newDisk(t, 100)
	l := opened(t, d)
	is(t, "Append", l.Append("a"), api.OK)
	if n := burnt(d, func() { is(t, "Append()", l.Append(), api.OK) }); n != 0 {
		t.Errorf("Append(): %d calls", n)
	}
	d.Fuse(0)
	is(t, "Append()", l.Append(), api.OK)
	is(t, "Append()", l.Append([]string{}...), api.OK)
	has(t, l, 0, "a")
	d.Fuse(9)
	is(t, "Remove", d.Remove("a"), api.OK)
	is(t, "Append()", l.Append(), api.OK)
	has(t, l, 0, "a")
	is(t, "Append(b)", l.Append("b"), api.ErrNone)
	is(t, "Append()", l.Append(), api.ErrState)
}

// P8.2: a record of MaxFrame bytes may be, one of a byte more may not, wherever it stands: then nothing is done, and the log is not broken.
func TestAppendLong(t *testing.T) {
	most := strings.Repeat("x", api.MaxFrame)
	d := newDisk(t, api.MaxRoom)
	l := opened(t, d)
	is(t, "Append", l.Append("a"), api.OK)
	for _, records := range [][]string{{most + "x"}, {"b", most + "x"}, {most + "x", "b"}, {"b", most + "xyz", "c"}, {most + "x", most + "x"}} {
		if n := burnt(d, func() { is(t, "Append of a long one", l.Append(records...), api.ErrLong) }); n != 0 {
			t.Errorf("Append of a long one: %d calls", n)
		}
		has(t, l, 0, "a")
		file(t, d, frames("a"), 9)
	}
	is(t, "Append of MaxFrame bytes", l.Append(most, "b"), api.OK)
	has(t, l, 0, "a", most, "b")
	is(t, "Sync", l.Sync(), api.OK)
	opened(t, d, "a", most, "b")

	// It is told ahead of all that the disk would tell.
	d = newDisk(t, 10)
	l = opened(t, d)
	is(t, "a long one, without room", l.Append(most+"x"), api.ErrLong)
	d.Fuse(0)
	is(t, "a long one, where the disk stands still", l.Append(most+"x"), api.ErrLong)
	d.Crash()
	is(t, "Append", l.Append("ab"), api.OK)
	has(t, l, 0, "ab")
}

// P8.2: up to the room, with all records of a call or none; at ErrFull nothing has changed.
func TestAppendFull(t *testing.T) {
	d := newDisk(t, 30)
	l := opened(t, d)
	is(t, "Append", l.Append("ab"), api.OK)
	is(t, "Sync", l.Sync(), api.OK)
	for range 3 {
		for _, records := range [][]string{{"0123456789abc"}, {"a", "b", "c"}, {"", "", ""}, {"", "01234"}} {
			is(t, "Append beyond the room", l.Append(records...), api.ErrFull)
			has(t, l, 1, "ab")
			file(t, d, frames("ab"), 0)
			is(t, "Sync", l.Sync(), api.OK)
		}
	}
	is(t, "Append of all the room", l.Append("", "0123"), api.OK)
	is(t, "Append", l.Append(""), api.ErrFull)
	is(t, "Append()", l.Append(), api.OK)
	has(t, l, 1, "ab", "", "0123")
	is(t, "Sync", l.Sync(), api.OK)
	has(t, l, 3, "ab", "", "0123")
	opened(t, d, "ab", "", "0123")

	// Other files have the room, too.
	d = newDisk(t, 20)
	l = opened(t, d)
	is(t, "Append to o", d.Append("o", "xyz"), api.OK)
	is(t, "Append", l.Append("0123456789"), api.ErrFull)
	is(t, "Append", l.Append("012345678"), api.OK)
}

// P8.2: Sync makes all records sure, by one call, also where they are already.
func TestSync(t *testing.T) {
	d := newDisk(t, 1000)
	l := opened(t, d)
	var all []string
	for _, more := range [][]string{nil, {"a"}, {"b", "c"}, nil, {""}} {
		is(t, "Append", l.Append(more...), api.OK)
		has(t, l, len(all), append(all, more...)...)
		all = append(all, more...)
		for range 2 {
			if n := burnt(d, func() { is(t, "Sync", l.Sync(), api.OK) }); n != 1 {
				t.Errorf("Sync: %d calls", n)
			}
			has(t, l, len(all), all...)
			file(t, d, frames(all...), 0)
		}
		d.Crash()
		file(t, d, frames(all...), 0)
	}
}

// P8.2, Words: any error of the disk but ErrFull breaks the log for good: Append's, Sync's.
func TestBroken(t *testing.T) {
	calls := []func(l *log.Log) api.Errno{
		func(l *log.Log) api.Errno { return l.Append("x") },
		func(l *log.Log) api.Errno { return l.Append("", "y") },
		func(l *log.Log) api.Errno { return l.Sync() },
	}
	breaks := []struct {
		do   func(d *disk.Disk) api.Errno
		want api.Errno
	}{
		{func(d *disk.Disk) api.Errno { return d.Fuse(0) }, api.ErrDown},
		{func(d *disk.Disk) api.Errno { return d.Remove("a") }, api.ErrNone},
	}
	long := strings.Repeat("x", api.MaxFrame+1)
	for _, call := range calls {
		for _, b := range breaks {
			d := newDisk(t, 1000)
			l := opened(t, d)
			is(t, "Append", l.Append("a", "b"), api.OK)
			is(t, "Sync", l.Sync(), api.OK)
			is(t, "Append", l.Append("c"), api.OK)
			is(t, "what breaks", b.do(d), api.OK)
			is(t, "the call", call(l), b.want)
			// It stays so, whatever becomes of the disk.
			for range 2 {
				has(t, l, 2, "a", "b", "c")
				for _, next := range calls {
					is(t, "a call behind it", next(l), api.ErrState)
				}
				is(t, "Append()", l.Append(), api.ErrState)
				is(t, "Append of a long one", l.Append("x", long), api.ErrState)
				d.Crash(99)
			}
			// The file is as good as ever, for another log.
			want := []string{"a", "b", "c"}
			if b.want == api.ErrNone {
				want = nil
			}
			other := opened(t, d, want...)
			if n := burnt(d, func() { is(t, "Append to the broken one", l.Append("x"), api.ErrState) }); n != 0 {
				t.Errorf("a broken log has called the disk %d times", n)
			}
			is(t, "Append to another one", other.Append("d"), api.OK)
			is(t, "Sync of another one", other.Sync(), api.OK)
			opened(t, d, append(want, "d")...)
		}
	}
}

// P8.3, R3: nil, and what Open did not make.
func TestNil(t *testing.T) {
	for _, l := range []*log.Log{nil, {}, new(log.Log)} {
		for range 2 {
			is(t, "Append()", l.Append(), api.ErrNil)
			is(t, "Append(a)", l.Append("a"), api.ErrNil)
			is(t, "Append of a long one", l.Append(strings.Repeat("x", api.MaxFrame+1)), api.ErrNil)
			is(t, "Sync", l.Sync(), api.ErrNil)
			if l.Len() != 0 || l.Count() != 0 || l.Sure() != 0 {
				t.Errorf("Len %d, Count %d, Sure %d", l.Len(), l.Count(), l.Sure())
			}
		}
	}
}

// R5: the records that Open answers are the caller's.
func TestAnswersAreNew(t *testing.T) {
	d := filed(t, frames("a", "b"), "")
	l, records, _ := log.Open(d, "a")
	records[0], records[1] = "spoilt", "spoilt"
	_ = append(records, "more")
	has(t, l, 2, "a", "b")
	opened(t, d, "a", "b")
	mine := []string{"c", "d"}
	is(t, "Append", l.Append(mine...), api.OK)
	mine[0], mine[1] = "spoilt", "spoilt"
	opened(t, d, "a", "b", "c", "d")
}

// R6: two logs on one disk, and one on another disk, have nothing in common.
func TestLogsApart(t *testing.T) {
	d, far := newDisk(t, 1000), newDisk(t, 1000)
	l, other := opened(t, d), opened(t, far)
	near, _, e := log.Open(d, "b")
	is(t, "Open(b)", e, api.OK)
	is(t, "Append", l.Append("a"), api.OK)
	is(t, "Append", near.Append("b", "bb"), api.OK)
	is(t, "Append", other.Append("c"), api.OK)
	is(t, "Sync", near.Sync(), api.OK)
	has(t, l, 0, "a")
	has(t, near, 2, "b", "bb")
	has(t, other, 0, "c")
	d.Fuse(0)
	is(t, "Sync", l.Sync(), api.ErrDown)
	is(t, "Append", other.Append("cc"), api.OK)
	d.Crash()
	is(t, "Sync", l.Sync(), api.ErrState)
	is(t, "Append", near.Append("bbb"), api.OK)
	has(t, near, 2, "b", "bb", "bbb")
}

// P8.4: behind a crash that keeps whatever it keeps there is a beginning, with all that were sure.
func TestCrash(t *testing.T) {
	fast, loose := []string{"a", "", "xyz"}, []string{"b", "", "uvw"}
	all := append(slices.Clone(fast), loose...)
	for keep := -2; keep <= len(frames(loose...))+2; keep++ {
		d := newDisk(t, 1000)
		l := opened(t, d)
		is(t, "Append", l.Append(fast...), api.OK)
		is(t, "Sync", l.Sync(), api.OK)
		is(t, "Append", l.Append(loose[:2]...), api.OK)
		is(t, "Append", l.Append(loose[2:]...), api.OK)
		d.Crash(keep)
		kept := frames(all...)
		kept = kept[:min(len(frames(fast...))+max(keep, 0), len(kept))]
		opened(t, d, whole(kept)...)
		d.Crash()
		opened(t, d, whole(kept)...)
	}
}

// P8.4: wherever the disk stands still within calls of all kinds, and whatever the crash keeps.
func TestCrashAnywhere(t *testing.T) {
	c := chance(8)
	for range 4000 {
		d := newDisk(t, 50+c.below(400))
		d.Fuse(c.below(16))
		var written []string
		sure := 0
		for life := range 4 {
			l, found, e := log.Open(d, "a")
			if e == api.OK {
				if life > 0 && (len(found) < sure || len(found) > len(written) || !slices.Equal(found, written[:len(found)])) {
					t.Fatalf("%q is found of %q, %d of which were sure", found, written, sure)
				}
				written, sure = found, len(found)
			} else if e != api.ErrDown {
				t.Fatalf("Open: %v", e)
			}
			for range c.below(8) {
				before := l.Count()
				if more := c.records(3); l.Append(more...) == api.OK {
					written = append(written, more...)
				} else if l.Count() != before {
					t.Fatal("an Append that was refused has changed the log")
				}
				if c.below(3) == 0 && l.Sync() == api.OK {
					sure = len(written)
				}
			}
			d.Crash(c.below(60) - 2)
			if c.below(2) == 0 {
				d.Fuse(c.below(12))
			}
		}
	}
}

// model is the chapter, word by word: a file, the calls that its disk still takes, and a log on it.
type model struct {
	room         int
	there, fresh bool
	bytes        string
	loose        int
	fuse         int // below 0: none
	records      []string
	sure         int
	log, broken  bool
}

// goes answers e, or ErrDown where the disk stands still; a call that no error meets burns the fuse.
func (m *model) goes(e api.Errno) api.Errno {
	if m.fuse == 0 {
		return api.ErrDown
	}
	if e == api.OK && m.fuse > 0 {
		m.fuse--
	}
	return e
}

func (m *model) open() api.Errno {
	created := !m.there
	m.log, m.broken = false, false
	if created {
		if e := m.goes(api.OK); e != api.OK {
			return e
		}
		m.there, m.fresh, m.bytes, m.loose = true, true, "", 0
	}
	good := whole(m.bytes)
	cut := len(frames(good...)) < len(m.bytes)
	if cut || created || m.loose > 0 {
		if e := m.goes(api.OK); e != api.OK {
			return e
		}
		m.bytes, m.loose, m.fresh = frames(good...), 0, false
	}
	m.log, m.records, m.sure = true, good, len(good)
	return api.OK
}

// ready answers what keeps a call from the disk.
func (m *model) ready() api.Errno {
	if !m.log {
		return api.ErrNil
	}
	if m.broken {
		return api.ErrState
	}
	return api.OK
}

// disks answers the error of a call of the disk, e if it does not stand still, and breaks the log.
func (m *model) disks(e api.Errno) api.Errno {
	if !m.there {
		e = api.ErrNone
	}
	e = m.goes(e)
	m.broken = e != api.OK && e != api.ErrFull
	return e
}

func (m *model) add(records []string) api.Errno {
	if e := m.ready(); e != api.OK {
		return e
	}
	for _, r := range records {
		if len(r) > 1<<20 {
			return api.ErrLong
		}
	}
	if len(records) == 0 {
		return api.OK
	}
	e, text := api.OK, frames(records...)
	if len(m.bytes)+len(text) > m.room {
		e = api.ErrFull
	}
	if e = m.disks(e); e == api.OK {
		m.bytes += text
		m.loose += len(text)
		m.records = append(slices.Clone(m.records), records...)
	}
	return e
}

func (m *model) sync() api.Errno {
	if e := m.ready(); e != api.OK {
		return e
	}
	e := m.disks(api.OK)
	if e == api.OK {
		m.loose, m.fresh, m.sure = 0, false, len(m.records)
	}
	return e
}

func (m *model) crash(keep int) {
	if m.there && m.fresh && keep < 0 {
		m.there, m.bytes, m.loose = false, "", 0
	}
	m.bytes = m.bytes[:len(m.bytes)-m.loose+min(max(keep, 0), m.loose)]
	m.loose, m.fresh, m.fuse = 0, false, -1
	m.log = false
}

// both is a log on its disk, and the model that they are held against.
type both struct {
	d *disk.Disk
	l *log.Log
	m *model
}

// step does one call of whatever kind, and answers its name, its error, and the model's.
func (b *both) step(c *chance) (what string, got, want api.Errno) {
	switch c.below(14) {
	case 0, 1, 2, 3, 4:
		records := c.records(4)
		return "Append", b.l.Append(records...), b.m.add(records)
	case 5, 6, 7:
		return "Sync", b.l.Sync(), b.m.sync()
	case 8:
		// What a log knows of a file on which another one has worked, no word tells: it is given up.
		l, _, e := log.Open(b.d, "a")
		b.l = l
		return "Open", e, b.m.open()
	case 9, 10:
		keep := c.below(60) - 4
		b.d.Crash(keep)
		b.m.crash(keep)
		b.l = nil
	case 11:
		if n := c.below(8); c.below(2) == 0 {
			b.d.Fuse(n)
			b.m.fuse = n
		}
	case 12:
		if c.below(6) == 0 && b.m.there && b.m.goes(api.OK) == api.OK {
			b.d.Remove("a")
			b.m.there, b.m.bytes, b.m.loose = false, "", 0
		}
	case 13:
		// Some junk behind the frames: the log is given up with it.
		if b.m.there && len(b.m.bytes) < b.m.room && b.m.goes(api.OK) == api.OK {
			b.d.Append("a", "x")
			b.m.bytes += "x"
			b.m.loose++
			b.l, b.m.log = nil, false
		}
	}
	return "nothing", api.OK, api.OK
}

// look holds all that is to be seen of the log and its file against the model.
func (b *both) look(t *testing.T, what string) {
	t.Helper()
	if b.m.log {
		has(t, b.l, b.m.sure, b.m.records...)
	} else if b.l != nil {
		t.Fatalf("%s: there is a log", what)
	}
	if b.m.there {
		file(t, b.d, b.m.bytes, b.m.loose)
	} else if _, e := b.d.Read("a"); e != api.ErrNone {
		t.Fatalf("%s: there is a file: %v", what, e)
	}
}

// P8.1 to P8.4: calls of all kinds, in whatever order, held against the model behind each of them.
func TestWhateverIsDone(t *testing.T) {
	c := chance(3)
	for range 400 {
		room := c.below(400)
		d, _ := disk.New(room)
		b := both{d: d, m: &model{room: room, fuse: -1}}
		for range 120 {
			what, got, want := b.step(&c)
			is(t, what, got, want)
			b.look(t, what)
		}
	}
}

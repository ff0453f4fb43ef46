package num_test

import (
	"math"
	"math/big"
	"slices"
	"strings"
	"testing"

	"gossamer/api"
	"gossamer/num"
)

// top answers the greatest number of so many bytes.
func top(size int) uint64 {
	if size == api.MaxNum {
		return math.MaxUint64
	}
	return 1<<(7*size) - 1
}

// some are numbers around the ends of each count of bytes and of bits, rising.
func some() []uint64 {
	l := []uint64{300, math.MaxUint64 / 3, math.MaxUint64 / 3 * 2, 0x0123456789abcdef, 0xfedcba9876543210}
	for bit := range 64 {
		for _, by := range []uint64{0, 1, 2, 3} {
			l = append(l, 1<<bit-by, 1<<bit+by)
		}
	}
	slices.Sort(l)
	return slices.Compact(l)
}

// signed are the same, as numbers of either sign.
func signed() []int64 {
	l := []int64{math.MinInt64, math.MaxInt64}
	for _, n := range some() {
		l = append(l, int64(n), -int64(n))
	}
	slices.Sort(l)
	return slices.Compact(l)
}

// enc answers a number's bytes by division, as the chapter has them.
func enc(n uint64) string {
	if n < 128 {
		return string([]byte{byte(n)})
	}
	return string([]byte{byte(128 + n%128)}) + enc(n/128)
}

// dec answers what Read should, by the conditions of the promise, one behind the other.
func dec(s string) (uint64, int, api.Errno) {
	front := []byte(s[:min(len(s), api.MaxNum)])
	last := slices.IndexFunc(front, func(b byte) bool { return b < 128 })
	if last < 0 && len(s) < api.MaxNum {
		return 0, 0, api.ErrShort
	}
	if last < 0 {
		return 0, 0, api.ErrOver
	}
	sum := new(big.Int)
	for i := last; i >= 0; i-- {
		sum.Mul(sum, big.NewInt(128)).Add(sum, big.NewInt(int64(front[i]%128)))
	}
	switch {
	case !sum.IsUint64():
		return 0, 0, api.ErrOver
	case front[last] == 0 && last > 0:
		return 0, 0, api.ErrForm
	}
	return sum.Uint64(), last + 1, api.OK
}

// check holds Read against what is wanted.
func check(t *testing.T, s string, n uint64, size int, e api.Errno) {
	t.Helper()
	if gotN, gotSize, gotE := num.Read(s); gotN != n || gotSize != size || gotE != e {
		t.Fatalf("Read(% x): %d, %d, %d; want %d, %d, %d", s, gotN, gotSize, gotE, n, size, e)
	}
}

// model holds Read against the conditions of the promise.
func model(t *testing.T, s string) {
	t.Helper()
	n, size, e := dec(s)
	check(t, s, n, size, e)
}

// P2.1: the bytes of numbers at the ends of each count of bytes, written out.
func TestBytes(t *testing.T) {
	for _, c := range []struct {
		n uint64
		s string
	}{
		{0, "\x00"},
		{1, "\x01"},
		{127, "\x7f"},
		{128, "\x80\x01"},
		{300, "\xac\x02"},
		{16383, "\xff\x7f"},
		{16384, "\x80\x80\x01"},
		{1<<21 - 1, "\xff\xff\x7f"},
		{1 << 21, "\x80\x80\x80\x01"},
		{1<<28 - 1, "\xff\xff\xff\x7f"},
		{1 << 28, "\x80\x80\x80\x80\x01"},
		{1<<35 - 1, "\xff\xff\xff\xff\x7f"},
		{1 << 35, "\x80\x80\x80\x80\x80\x01"},
		{1<<42 - 1, "\xff\xff\xff\xff\xff\x7f"},
		{1 << 42, "\x80\x80\x80\x80\x80\x80\x01"},
		{1<<49 - 1, "\xff\xff\xff\xff\xff\xff\x7f"},
		{1 << 49, "\x80\x80\x80\x80\x80\x80\x80\x01"},
		{1<<56 - 1, "\xff\xff\xff\xff\xff\xff\xff\x7f"},
		{1 << 56, "\x80\x80\x80\x80\x80\x80\x80\x80\x01"},
		{1<<63 - 1, "\xff\xff\xff\xff\xff\xff\xff\xff\x7f"},
		{1 << 63, "\x80\x80\x80\x80\x80\x80\x80\x80\x80\x01"},
		{1<<64 - 1, "\xff\xff\xff\xff\xff\xff\xff\xff\xff\x01"},
	} {
		if got := num.Up(c.n); got != c.s {
			t.Errorf("Up(%d): % x", c.n, got)
		}
		if got := num.Size(c.n); got != len(c.s) {
			t.Errorf("Size(%d): %d", c.n, got)
		}
		check(t, c.s, c.n, len(c.s), api.OK)
	}
}

// P2.1: the bytes of whatever number, and how many they are.
func TestUp(t *testing.T) {
	hold := func(n uint64) {
		s := enc(n)
		if got := num.Up(n); got != s {
			t.Fatalf("Up(%d): % x; want % x", n, got, s)
		}
		if got := num.Size(n); got != len(s) {
			t.Fatalf("Size(%d): %d; want %d", n, got, len(s))
		}
		check(t, s, n, len(s), api.OK)
	}
	for n := range uint64(1 << 17) {
		hold(n)
	}
	for _, n := range some() {
		hold(n)
	}
}

// P2.1: bytes that are cut off anywhere are too few, no bytes at all among them.
func TestReadShort(t *testing.T) {
	check(t, "", 0, 0, api.ErrShort)
	for _, n := range some() {
		s := num.Up(n)
		for cut := range len(s) {
			check(t, s[:cut], 0, 0, api.ErrShort)
		}
	}
	for b := 128; b < 256; b++ {
		for size := 1; size < api.MaxNum; size++ {
			check(t, strings.Repeat(string([]byte{byte(b)}), size), 0, 0, api.ErrShort)
		}
	}
}

// P2.1: MaxNum bytes of 128 or more, whatever stands behind, are too many.
func TestReadLong(t *testing.T) {
	for b := 128; b < 256; b++ {
		s := strings.Repeat(string([]byte{byte(b)}), api.MaxNum)
		for _, behind := range []string{"", "\x00", "\x01", "\x7f", "\x80", "\x80\x00", s, s + s} {
			check(t, s+behind, 0, 0, api.ErrOver)
		}
	}
}

// P2.1: numbers above 2^64 - 1 in MaxNum bytes, and those that just are not.
func TestReadOver(t *testing.T) {
	for _, c := range []struct {
		low string
		n   uint64
	}{
		{strings.Repeat("\x80", 9), 0},
		{strings.Repeat("\xff", 9), 1<<63 - 1},
		{"\x81" + strings.Repeat("\x80", 8), 1},
		{strings.Repeat("\x80", 8) + "\x81", 1 << 56},
	} {
		check(t, c.low+"\x00", 0, 0, api.ErrForm)
		check(t, c.low+"\x01", 1<<63+c.n, api.MaxNum, api.OK)
		for b := 2; b < 128; b++ {
			for _, behind := range []string{"", "\x00", "\x01", "\xff"} {
				check(t, c.low+string([]byte{byte(b)})+behind, 0, 0, api.ErrOver)
			}
		}
	}
}

// P2.1: a last byte 0 that is not the only one, of each count of bytes.
func TestReadForm(t *testing.T) {
	check(t, "\x00", 0, 1, api.OK)
	check(t, "\x00\x00", 0, 1, api.OK)
	for size := 1; size < api.MaxNum; size++ {
		for b := 128; b < 256; b++ {
			s := strings.Repeat(string([]byte{byte(b)}), size)
			for _, behind := range []string{"", "\x00", "\x01", "\xff"} {
				check(t, s+"\x00"+behind, 0, 0, api.ErrForm)
			}
		}
	}
}

// P2.1: all texts of one, two and three bytes, and longer ones of bytes at the ends of what a byte may be, are read as the promise has it.
func TestReadAll(t *testing.T) {
	model(t, "")
	for a := range 256 {
		model(t, string([]byte{byte(a)}))
		for b := range 256 {
			model(t, string([]byte{byte(a), byte(b)}))
			for _, c := range []byte{0, 1, 2, 126, 127, 128, 129, 254, 255} {
				model(t, string([]byte{byte(a), byte(b), c}))
			}
		}
	}
	few := []byte{0, 1, 2, 127, 128, 129, 255}
	for size := 1; size < 13; size++ {
		for _, fill := range []byte{128, 129, 255} {
			s := []byte(strings.Repeat(string([]byte{fill}), size))
			for at := range size {
				for _, b := range few {
					for _, next := range few {
						with := slices.Clone(s)
						with[at] = b
						with[(at+1)%size] = next
						model(t, string(with))
					}
				}
			}
		}
	}
}

// P2.2: Turn at 0, next to it, and at the ends of int64; Back at the ends of uint64.
func TestTurnEnds(t *testing.T) {
	for _, c := range []struct {
		n int64
		u uint64
	}{
		{0, 0}, {-1, 1}, {1, 2}, {-2, 3}, {2, 4}, {-3, 5}, {3, 6}, {150, 300}, {-150, 299},
		{math.MaxInt64 - 1, math.MaxUint64 - 3}, {math.MinInt64 + 1, math.MaxUint64 - 2},
		{math.MaxInt64, math.MaxUint64 - 1}, {math.MinInt64, math.MaxUint64},
		{1 << 62, 1 << 63}, {-1 << 62, 1<<63 - 1},
	} {
		if got := num.Turn(c.n); got != c.u {
			t.Errorf("Turn(%d): %d; want %d", c.n, got, c.u)
		}
		if got := num.Back(c.u); got != c.n {
			t.Errorf("Back(%d): %d; want %d", c.u, got, c.n)
		}
	}
}

// P2.2: Turn of whatever number, by the chapter's words.
func TestTurn(t *testing.T) {
	hold := func(n int64) {
		want := new(big.Int).Abs(big.NewInt(n))
		want.Lsh(want, 1)
		if n < 0 {
			want.Sub(want, big.NewInt(1))
		}
		if got := num.Turn(n); !want.IsUint64() || got != want.Uint64() {
			t.Fatalf("Turn(%d): %d; want %d", n, got, want)
		}
	}
	for n := int64(-70000); n < 70000; n++ {
		hold(n)
	}
	for _, n := range signed() {
		hold(n)
	}
}

// P2.2: sums of uint64, next to where they are none on either side.
func TestAdd(t *testing.T) {
	for _, c := range []struct {
		a, b, sum uint64
		is        bool
	}{
		{0, 0, 0, true}, {2, 3, 5, true}, {math.MaxUint64, 0, math.MaxUint64, true},
		{math.MaxUint64 - 1, 1, math.MaxUint64, true}, {math.MaxUint64, 1, 0, false},
		{math.MaxUint64, 2, 0, false}, {math.MaxUint64, math.MaxUint64, 0, false},
		{1 << 63, 1<<63 - 1, math.MaxUint64, true}, {1 << 63, 1 << 63, 0, false}, {1 << 63, 1<<63 + 1, 0, false},
	} {
		for _, p := range [][2]uint64{{c.a, c.b}, {c.b, c.a}} {
			if sum, is := num.Add(p[0], p[1]); sum != c.sum || is != c.is {
				t.Errorf("Add(%d, %d): %d, %v", p[0], p[1], sum, is)
			}
		}
	}
	l := some()
	for _, a := range l {
		for _, b := range append(l, math.MaxUint64-a, math.MaxUint64-a+1, math.MaxUint64-a-1) {
			want := new(big.Int).Add(new(big.Int).SetUint64(a), new(big.Int).SetUint64(b))
			is := want.IsUint64()
			if !is {
				want.SetInt64(0)
			}
			if sum, ok := num.Add(a, b); ok != is || sum != want.Uint64() {
				t.Fatalf("Add(%d, %d): %d, %v", a, b, sum, ok)
			}
		}
	}
}

// P2.2: sums of int64, next to where they are none on either side.
func TestSum(t *testing.T) {
	const least, most = math.MinInt64, math.MaxInt64
	for _, c := range []struct {
		a, b, sum int64
		is        bool
	}{
		{0, 0, 0, true}, {-5, 5, 0, true}, {2, 3, 5, true}, {-2, -3, -5, true}, {7, -9, -2, true},
		{most, 0, most, true}, {most - 1, 1, most, true}, {most, 1, 0, false}, {most, most, 0, false},
		{least, 0, least, true}, {least + 1, -1, least, true}, {least, -1, 0, false}, {least, least, 0, false},
		{most, least, -1, true}, {most, -most, 0, true}, {most, -1, most - 1, true}, {least, 1, least + 1, true},
		{1 << 62, 1<<62 - 1, most, true}, {1 << 62, 1 << 62, 0, false},
		{-1 << 62, -1 << 62, least, true}, {-1 << 62, -1<<62 - 1, 0, false},
	} {
		for _, p := range [][2]int64{{c.a, c.b}, {c.b, c.a}} {
			if sum, is := num.Sum(p[0], p[1]); sum != c.sum || is != c.is {
				t.Errorf("Sum(%d, %d): %d, %v", p[0], p[1], sum, is)
			}
		}
	}
	l := signed()
	for _, a := range l {
		// most-a and least-a may wrap round: they are numbers to try, no more.
		for _, b := range append(l, most-a, most-a+1, most-a-1, least-a, least-a+1, least-a-1) {
			want := new(big.Int).Add(big.NewInt(a), big.NewInt(b))
			is := want.IsInt64()
			if !is {
				want.SetInt64(0)
			}
			if sum, ok := num.Sum(a, b); ok != is || sum != want.Int64() {
				t.Fatalf("Sum(%d, %d): %d, %v", a, b, sum, ok)
			}
		}
	}
}

// P2.3: what was written is read, whatever stands behind, also another number.
func TestReadBehind(t *testing.T) {
	l := some()
	behind := []string{"", "\x00", "\x01", "\x7f", "\x80", "\xff", "\x80\x00", strings.Repeat("\xff", 20), strings.Repeat("\x00", 20), "é€"}
	for _, n := range l {
		s := num.Up(n)
		for _, b := range behind {
			check(t, s+b, n, len(s), api.OK)
		}
		for _, m := range l {
			check(t, s+num.Up(m), n, num.Size(n), api.OK)
		}
	}
}

// P2.3: unlike numbers have unlike bytes; lesser numbers never have more.
func TestUnlike(t *testing.T) {
	had := map[string]uint64{}
	size := 0
	for _, n := range some() {
		s := num.Up(n)
		if m, ok := had[s]; ok {
			t.Fatalf("%d and %d: % x", m, n, s)
		}
		had[s] = n
		if num.Size(n) < size || len(s) < size {
			t.Fatalf("%d: %d bytes, %d below it", n, len(s), size)
		}
		size = len(s)
	}
	for size := 1; size <= api.MaxNum; size++ {
		if n := top(size); num.Size(n) != size || size < api.MaxNum && num.Size(n+1) != size+1 {
			t.Errorf("%d bytes: %d, %d", size, num.Size(n), num.Size(n+1))
		}
	}
}

// P2.3: Turn and Back undo each other.
func TestUndo(t *testing.T) {
	for _, n := range some() {
		if got := num.Turn(num.Back(n)); got != n {
			t.Fatalf("Turn(Back(%d)): %d", n, got)
		}
	}
	for _, n := range signed() {
		if got := num.Back(num.Turn(n)); got != n {
			t.Fatalf("Back(Turn(%d)): %d", n, got)
		}
	}
	for n := uint64(0); n < 1<<16; n++ {
		if num.Turn(num.Back(n)) != n || num.Back(num.Turn(int64(n))) != int64(n) || num.Back(num.Turn(-int64(n))) != -int64(n) {
			t.Fatal(n)
		}
	}
}

package crc_test

import (
	"math"
	"strings"
	"testing"

	"gossamer/crc"
)

// through answers the register once a byte has gone through it, bit by bit, as the chapter has it.
func through(register uint32, b byte) uint32 {
	for bit := range 8 {
		first := (register ^ uint32(b)>>bit) & 1
		register >>= 1
		if first == 1 {
			register ^= 0x82f63b78
		}
	}
	return register
}

// slow answers the sum of s, from a register on.
func slow(register uint32, s string) uint32 {
	for _, b := range []byte(s) {
		register = through(register, b)
	}
	return ^register
}

// bytes answers n bytes, of which each follows from the one before it, by a rule that starts at seed.
func bytes(n int, seed uint32) string {
	b := make([]byte, n)
	for i := range b {
		seed = seed*1664525 + 1013904223
		b[i] = byte(seed >> 24)
	}
	return string(b)
}

// texts are some of no bytes, of one byte of each value, of several, and of many.
func texts() []string {
	l := []string{"", "123456789", "a", "ab", "ba", "aé\U0001f600", strings.Repeat("\x00", 32), strings.Repeat("\xff", 32), strings.Repeat("\x00", 100000), bytes(1<<20, 7)}
	for b := range 256 {
		l = append(l, string([]byte{byte(b)}), string([]byte{byte(b), byte(b)}), string([]byte{0, byte(b), 255}))
	}
	for n := range 100 {
		l = append(l, bytes(n, uint32(n)), strings.Repeat("\x00", n), strings.Repeat("\xff", n))
	}
	return l
}

// sums are 0, 2^32 - 1, and others between them.
func sums() []uint32 {
	l := []uint32{0, math.MaxUint32, 0x82f63b78, 0x1edc6f41, 0xe3069283, 0x01234567, 0x89abcdef}
	for bit := range 32 {
		l = append(l, 1<<bit, 1<<bit-1, ^(uint32(1) << bit))
	}
	return l
}

// show answers what a fault tells of s: the whole of it, where it is not too long.
func show(s string) string {
	return s[:min(len(s), 40)]
}

// P3.1: what goes into the register is the polynomial 1edc6f41, its bits the other way round.
func TestPolynomial(t *testing.T) {
	var turned uint32
	for bit := range 32 {
		turned |= uint32(0x1edc6f41) >> bit & 1 << (31 - bit)
	}
	// In a register of zeros, the byte's last bit is the first that counts: the polynomial stands there bare.
	if got := ^crc.On(^uint32(0), "\x80"); got != turned {
		t.Errorf("%x, want %x", got, turned)
	}
}

// P3.1: the sum is that of the register, bit by bit; of no bytes it is 0.
func TestOf(t *testing.T) {
	for _, s := range texts() {
		if got, want := crc.Of(s), slow(math.MaxUint32, s); got != want {
			t.Fatalf("Of(% x), %d bytes: %08x, want %08x", show(s), len(s), got, want)
		}
	}
	if got := crc.Of(""); got != 0 {
		t.Errorf("Of of no bytes: %08x", got)
	}
}

// P3.1: sums of this kind that are known everywhere.
func TestKnown(t *testing.T) {
	rising := make([]byte, 32)
	for i := range rising {
		rising[i] = byte(i)
	}
	for s, want := range map[string]uint32{
		"123456789":                0xe3069283,
		"a":                        0xc1d04330,
		strings.Repeat("\x00", 32): 0x8a9136aa,
		strings.Repeat("\xff", 32): 0x62a8ab43,
		string(rising):             0x46dd794e,
	} {
		if got := crc.Of(s); got != want {
			t.Errorf("Of(% x): %08x, want %08x", s, got, want)
		}
	}
}

// P3.1: On goes on from any number: from the register that is that number, its bits turned.
func TestOnAnyNumber(t *testing.T) {
	for _, sum := range sums() {
		for _, s := range texts() {
			if len(s) > 1000 {
				continue
			}
			if got, want := crc.On(sum, s), slow(^sum, s); got != want {
				t.Fatalf("On(%08x, % x): %08x, want %08x", sum, s, got, want)
			}
		}
		if got := crc.On(sum, ""); got != sum {
			t.Errorf("On(%08x) of no bytes: %08x", sum, got)
		}
	}
}

// P3.1: from every register of low bits, and of high ones, all bytes' bits count.
func TestOnEveryByte(t *testing.T) {
	for low := range uint32(256) {
		for b := range 256 {
			s := string([]byte{byte(b)})
			for _, sum := range []uint32{low, ^low, low << 24, low<<24 | 0x00ffffff} {
				if got, want := crc.On(sum, s), slow(^sum, s); got != want {
					t.Fatalf("On(%08x, % x): %08x, want %08x", sum, s, got, want)
				}
			}
		}
	}
}

// P3.1: a call leaves nothing behind that another one sees.
func TestOfAgain(t *testing.T) {
	first := crc.Of("123456789")
	crc.On(0x01234567, bytes(1000, 3))
	if got := crc.Of("123456789"); got != first {
		t.Errorf("%08x, and then %08x", first, got)
	}
}

// P3.2: a text that is cut anywhere into two pieces has the sum of the whole.
func TestTwoPieces(t *testing.T) {
	for _, s := range texts() {
		if len(s) > 1000 {
			continue
		}
		for cut := range len(s) + 1 {
			if got, want := crc.On(crc.Of(s[:cut]), s[cut:]), crc.Of(s); got != want {
				t.Fatalf("% x, cut at %d: %08x, want %08x", s, cut, got, want)
			}
		}
	}
}

// P3.2: so has one that is cut into many, of whatever lengths, some of them 0, and one that is cut behind each byte.
func TestManyPieces(t *testing.T) {
	s := bytes(5000, 11)
	want := crc.Of(s)
	for _, lengths := range [][]int{{1}, {0, 1}, {0, 0, 3}, {2, 0, 7, 1}, {4}, {8}, {1, 2, 3, 4, 5}, {4999}, {5000, 0}, {1024, 0, 0, 1}} {
		sum, rest := crc.Of(""), s
		for i := 0; len(rest) > 0; i++ {
			n := min(len(rest), lengths[i%len(lengths)])
			sum, rest = crc.On(sum, rest[:n]), rest[n:]
		}
		if sum = crc.On(sum, ""); sum != want {
			t.Errorf("by pieces of %d: %08x, want %08x", lengths, sum, want)
		}
	}
}

// P3.2: a text that is cut anywhere into three, from any number on, comes to what the whole does.
func TestThreePieces(t *testing.T) {
	s := bytes(24, 5)
	for _, sum := range sums() {
		want := crc.On(sum, s)
		for a := range len(s) + 1 {
			for b := a; b <= len(s); b++ {
				if got := crc.On(crc.On(crc.On(sum, s[:a]), s[a:b]), s[b:]); got != want {
					t.Fatalf("from %08x, cut at %d and %d: %08x, want %08x", sum, a, b, got, want)
				}
			}
		}
	}
}

// turn answers s with those of its bits turned that pattern has, from bit at on; bits count from each byte's lowest one.
func turn(s string, at int, pattern uint32) string {
	b := []byte(s)
	for bit := range 32 {
		if pattern>>bit&1 == 1 {
			b[(at+bit)/8] ^= 1 << ((at + bit) % 8)
		}
	}
	return string(b)
}

// P3.2: bytes of which one bit was turned have another sum, whichever it was.
func TestOneBit(t *testing.T) {
	for _, s := range []string{"\x00", "\xff", "a", "123456789", bytes(300, 1), strings.Repeat("\x00", 300)} {
		seen := map[uint32]int{crc.Of(s): -1}
		for bit := range 8 * len(s) {
			b := []byte(s)
			b[bit/8] ^= 1 << (bit % 8)
			sum := crc.Of(string(b))
			if other, ok := seen[sum]; ok {
				t.Fatalf("% x: bit %d turned has the sum of bit %d", s, bit, other)
			}
			seen[sum] = bit
		}
	}
}

// P3.2: bytes of which bits were turned that lie within 32 in a row have another sum: at the front, at the end, and across bytes.
func TestRow(t *testing.T) {
	for _, s := range []string{"1234", "12345", "\x00\x00\x00\x00\x00\x00\x00\x00", bytes(40, 9), bytes(41, 10), strings.Repeat("\xff", 40)} {
		sum := crc.Of(s)
		for at := range 8*len(s) - 31 {
			for _, pattern := range sums() {
				if pattern == 0 {
					continue
				}
				if crc.Of(turn(s, at, pattern)) == sum {
					t.Fatalf("% x: the bits %08x turned from %d on: the same sum", s, pattern, at)
				}
			}
		}
	}
}

// P3.2: all four bytes at a text's front, or at its end, in many ways: none has the sum of the text.
func TestFourBytes(t *testing.T) {
	s := bytes(64, 12)
	sum := crc.Of(s)
	for seed := range uint32(5000) {
		four := bytes(4, seed)
		front, back := four+s[4:], s[:60]+four
		if front != s && crc.Of(front) == sum || back != s && crc.Of(back) == sum {
			t.Fatalf("% x at the front, or at the end: the same sum", four)
		}
	}
}

// independent tells whether no choice of some of these numbers gives 0, taken together by exclusive or.
func independent(l [32]uint32) bool {
	for i := range l {
		if l[i] == 0 {
			return false
		}
		low := l[i] & -l[i]
		for k := i + 1; k < len(l); k++ {
			if l[k]&low > 0 {
				l[k] ^= l[i]
			}
		}
	}
	return true
}

// P3.2: what one bit changes in the sum does not hang on what other bits were turned, so 32 changes of which none can be made from others tell every pattern of 32 bits in a row.
func TestEveryPattern(t *testing.T) {
	for _, s := range []string{"1234", bytes(37, 13), strings.Repeat("\x00", 50)} {
		sum := crc.Of(s)
		for at := range 8*len(s) - 31 {
			var changes [32]uint32
			for bit := range changes {
				changes[bit] = crc.Of(turn(s, at+bit, 1)) ^ sum
			}
			if crc.Of(turn(s, at, 0x80010003)) != sum^changes[0]^changes[1]^changes[16]^changes[31] {
				t.Fatalf("% x: from bit %d on, changes hang on each other", s, at)
			}
			if !independent(changes) {
				t.Fatalf("% x: from bit %d on, some of 32 bits turned leave the sum", s, at)
			}
		}
	}
}

package sha_test

import (
	"crypto/sha256"
	"encoding/hex"
	"math/big"
	"slices"
	"strings"
	"testing"

	"gossamer/api"
	"gossamer/sha"
)

// primes answers the first n primes.
func primes(n int) []int64 {
	var l []int64
	for x := int64(2); len(l) < n; x++ {
		if !slices.ContainsFunc(l, func(p int64) bool { return x%p == 0 }) {
			l = append(l, x)
		}
	}
	return l
}

// fraction answers the first 32 bits of the fraction of x's root of that degree: the greatest number whose power is at most x by 2^(32 degree), less its whole part.
func fraction(x, degree int64) uint32 {
	bound := new(big.Int).Lsh(big.NewInt(x), uint(32*degree))
	root := new(big.Int)
	for bit := 63; bit >= 0; bit-- {
		root.SetBit(root, bit, 1)
		if new(big.Int).Exp(root, big.NewInt(degree), nil).Cmp(bound) > 0 {
			root.SetBit(root, bit, 0)
		}
	}
	return uint32(root.Uint64())
}

// right answers x turned right by n, bit by bit.
func right(x uint32, n int) uint32 {
	for range n {
		x = x/2 + x%2*(1<<31)
	}
	return x
}

// pad answers s's bytes and the padding behind them: bytes 0 come one by one, until blocks are whole.
func pad(s string) []byte {
	l := append([]byte(s), 128)
	for (len(l)+8)%64 > 0 {
		l = append(l, 0)
	}
	var number [8]byte
	new(big.Int).Mul(big.NewInt(int64(len(s))), big.NewInt(8)).FillBytes(number[:])
	return append(l, number[:]...)
}

// slow has the chapter's words, one by one.
type slow struct {
	k     []uint32
	state []uint32
}

// newSlow answers a slow one with the constants of the primes.
func newSlow() slow {
	var m slow
	for _, p := range primes(64) {
		m.k = append(m.k, fraction(p, 3))
	}
	for _, p := range primes(8) {
		m.state = append(m.state, fraction(p, 2))
	}
	return m
}

// of answers the digest of s.
func (m slow) of(s string) string {
	state := slices.Clone(m.state)
	for block := range slices.Chunk(pad(s), 64) {
		state = m.through(state, block)
	}
	var l []byte
	for _, x := range state {
		for _, power := range []uint32{1 << 24, 1 << 16, 1 << 8, 1} {
			l = append(l, byte(x/power%256))
		}
	}
	return string(l)
}

// through answers the state behind a block.
func (m slow) through(state []uint32, block []byte) []uint32 {
	var w []uint32
	for t := range 16 {
		w = append(w, uint32(block[4*t])*(1<<24)+uint32(block[4*t+1])*(1<<16)+uint32(block[4*t+2])*(1<<8)+uint32(block[4*t+3]))
	}
	for t := 16; t < 64; t++ {
		low := right(w[t-15], 7) ^ right(w[t-15], 18) ^ w[t-15]/(1<<3)
		high := right(w[t-2], 17) ^ right(w[t-2], 19) ^ w[t-2]/(1<<10)
		w = append(w, high+w[t-7]+low+w[t-16])
	}
	l := slices.Clone(state) // a to h
	for t := range 64 {
		a, b, c, d, e, f, g, h := l[0], l[1], l[2], l[3], l[4], l[5], l[6], l[7]
		x := h + (right(e, 6) ^ right(e, 11) ^ right(e, 25)) + ((e & f) ^ (^e & g)) + m.k[t] + w[t]
		y := (right(a, 2) ^ right(a, 13) ^ right(a, 22)) + ((a & b) ^ (a & c) ^ (b & c))
		l = []uint32{x + y, a, b, c, d + x, e, f, g}
	}
	for i := range l {
		l[i] += state[i]
	}
	return l
}

// some answers n bytes, of which each follows from the one before it, by a rule that starts at seed.
func some(n int, seed uint32) string {
	l := make([]byte, n)
	for i := range l {
		seed = seed*1664525 + 1013904223
		l[i] = byte(seed >> 24)
	}
	return string(l)
}

// texts are some of each length up to 400, so of all those that are next to where a block is whole, and longer ones.
func texts() []string {
	l := []string{"abc", "aé\U0001f600", "\xff\xfe\x80", some(1<<20, 7), some(1<<20+55, 8), strings.Repeat("a", 1000000)}
	for n := range 401 {
		l = append(l, some(n, uint32(n)), strings.Repeat("\x00", n), strings.Repeat("\xff", n))
	}
	for _, n := range []int{511, 512, 513, 1023, 1024, 1025, 4095, 4096, 4097, 8191, 8192, 8193, 65535, 65536, 65537} {
		l = append(l, some(n, 3))
	}
	for b := range 256 {
		l = append(l, string([]byte{byte(b)}), strings.Repeat(string([]byte{byte(b)}), 64))
	}
	return l
}

// show answers a digest by its signs, and nothing of what is none.
func show(digest string) string {
	return hex.EncodeToString([]byte(digest))
}

// P4.1: Of answers the digest as the chapter's words have it, its constants worked out from the primes.
func TestOfByTheChapter(t *testing.T) {
	m := newSlow()
	for _, s := range texts() {
		if len(s) > 10000 {
			continue
		}
		if got, want := sha.Of(s), m.of(s); got != want {
			t.Fatalf("%d bytes: %s, want %s", len(s), show(got), show(want))
		}
	}
}

// P4.1: it is that of the standard, for texts of every length, long ones among them.
func TestOfByTheStandard(t *testing.T) {
	for _, s := range texts() {
		want := sha256.Sum256([]byte(s))
		if got := sha.Of(s); got != string(want[:]) {
			t.Fatalf("%d bytes: %s, want %x", len(s), show(got), want)
		}
	}
}

// P4.1: digests that are known everywhere.
func TestKnown(t *testing.T) {
	for s, want := range map[string]string{
		"":    "e3b0c44298fc1c149afbf4c8996fb92427ae41e4649b934ca495991b7852b855",
		"abc": "ba7816bf8f01cfea414140de5dae2223b00361a396177a9cb410ff61f20015ad",
		"abcdbcdecdefdefgefghfghighijhijkijkljklmklmnlmnomnopnopq": "248d6a61d20638b8e5c026930c3e6039a33ce45964ff2167f6ecedd419db06c1",
		strings.Repeat("a", 1000000):                               "cdc76e5c9914fb9281a1c7e284d73e67f1809a48a497200e046d39ccc7112cd0",
	} {
		if got := show(sha.Of(s)); got != want {
			t.Errorf("%d bytes: %s, want %s", len(s), got, want)
		}
	}
}

// P4.1: no texts at all, a list that is nil, one without elements, and texts without bytes have the digest of no bytes.
func TestNoBytes(t *testing.T) {
	want := newSlow().of("")
	for i, got := range []string{sha.Of(), sha.Of(nil...), sha.Of([]string{}...), sha.Of(""), sha.Of("", "", ""), sha.New().Sum()} {
		if got != want || len(got) != api.HashSize {
			t.Errorf("%d: %s, want %s", i, show(got), show(want))
		}
	}
}

// P4.1: each digest has 32 bytes, as api says.
func TestSize(t *testing.T) {
	if got := len(sha.Of()); got != 32 {
		t.Errorf("no bytes: %d", got)
	}
	for _, s := range texts() {
		if len(sha.Of(s)) != api.HashSize || len(sha.Pair(s, s)) != api.HashSize {
			t.Fatalf("%d bytes: %d, and %d", len(s), len(sha.Of(s)), len(sha.Pair(s, s)))
		}
	}
}

// P4.1: the texts go one behind the other, and the list stays as it was.
func TestOfSeveral(t *testing.T) {
	for _, l := range [][]string{{"a"}, {"a", "b"}, {"b", "a"}, {"", "a", ""}, {"ab", "cx"}, {some(63, 1), "x"}, {some(64, 1), some(64, 2)}, {some(55, 1), "", some(1, 2), some(200, 3)}, strings.Split(some(3000, 4), "")} {
		before := slices.Clone(l)
		want := sha256.Sum256([]byte(strings.Join(l, "")))
		if got := sha.Of(l...); got != string(want[:]) {
			t.Errorf("%q: %s, want %x", l, show(got), want)
		}
		if !slices.Equal(l, before) {
			t.Errorf("%q became %q", before, l)
		}
	}
	if sha.Of("a", "b") == sha.Of("b", "a") {
		t.Error("the order of texts does not count")
	}
}

// P4.1: Pair answers the digest of a byte 1, a, and b.
func TestPair(t *testing.T) {
	m := newSlow()
	for _, n := range []int{0, 1, 31, 32, 54, 55, 56, 62, 63, 64, 65, 118, 119, 120, 127, 128, 129, 1000} {
		for _, k := range []int{0, 1, 30, 31, 32, 54, 55, 63, 64, 127, 1000} {
			a, b := some(n, 1), some(k, 2)
			got := sha.Pair(a, b)
			if got != m.of("\x01"+a+b) || got != sha.Of("\x01", a, b) {
				t.Fatalf("of %d bytes and %d: %s", n, k, show(got))
			}
			if got == sha.Of(a, b) {
				t.Fatalf("of %d bytes and %d: it is that of them alone", n, k)
			}
		}
	}
	if x, y := sha.Of("a"), sha.Of("b"); sha.Pair(x, y) == sha.Pair(y, x) {
		t.Error("the order of two does not count")
	}
}

// P4.1, P4.2: behind each piece Len answers how many bytes there were, and Sum their digest, whenever it is asked for.
func TestAddByPieces(t *testing.T) {
	whole := some(700, 11)
	for _, lengths := range [][]int{{1}, {0, 1}, {0, 0, 3}, {2, 0, 7, 1}, {63}, {64}, {65}, {55, 1, 8}, {56, 8}, {63, 1}, {1, 63}, {128}, {127, 2}, {119, 1, 8, 0}, {200, 1}, {700}, {699}} {
		h, n := sha.New(), 0
		for i := 0; n < len(whole); i++ {
			piece := whole[n:min(len(whole), n+lengths[i%len(lengths)])]
			h.Add(piece)
			n += len(piece)
			if h.Len() != uint64(n) {
				t.Fatalf("by pieces of %d: %d bytes, want %d", lengths, h.Len(), n)
			}
			if want := sha256.Sum256([]byte(whole[:n])); h.Sum() != string(want[:]) {
				t.Fatalf("by pieces of %d: behind %d bytes %s, want %x", lengths, n, show(h.Sum()), want)
			}
		}
	}
}

// P4.2: a text that is cut anywhere into two, and into three, has the digest of the whole; nobody asks in between.
func TestCut(t *testing.T) {
	for _, n := range []int{0, 1, 55, 56, 63, 64, 65, 119, 120, 127, 128, 129, 191, 192, 193} {
		s := some(n, 5)
		want := sha256.Sum256([]byte(s))
		for a := range n + 1 {
			for _, b := range []int{a, min(n, a+1), min(n, a+63), min(n, a+64), n} {
				h := sha.New()
				h.Add(s[:a])
				h.Add(s[a:b])
				h.Add(s[b:])
				if h.Sum() != string(want[:]) || h.Len() != uint64(n) || sha.Of(s[:a], s[a:b], s[b:]) != string(want[:]) {
					t.Fatalf("%d bytes, cut at %d and %d: %s, want %x", n, a, b, show(h.Sum()), want)
				}
			}
		}
	}
}

// P4.2: a long text comes to the same in whatever pieces.
func TestLong(t *testing.T) {
	s := some(1<<20+77, 9)
	want := sha256.Sum256([]byte(s))
	for _, n := range []int{1, 63, 64, 65, 1000, 4096, 1 << 19, 1 << 20, len(s)} {
		h := sha.New()
		for piece := range slices.Chunk([]byte(s), n) {
			h.Add(string(piece))
		}
		if h.Sum() != string(want[:]) || h.Len() != uint64(len(s)) {
			t.Errorf("by %d: %s of %d bytes, want %x", n, show(h.Sum()), h.Len(), want)
		}
	}
}

// P4.1, P4.2: Sum changes nothing: asked for again it is the same, and what is added behind it goes on from where it was.
func TestSumAgain(t *testing.T) {
	for n := range 200 {
		s, more := some(n, 1), some(70, 2)
		asked, silent := sha.New(), sha.New()
		asked.Add(s)
		silent.Add(s)
		first := asked.Sum()
		if asked.Sum() != first || asked.Sum() != first || asked.Len() != uint64(n) {
			t.Fatalf("%d bytes: %s, and then %s, of %d", n, show(first), show(asked.Sum()), asked.Len())
		}
		asked.Add("")
		if asked.Sum() != first {
			t.Fatalf("%d bytes, and none: %s, want %s", n, show(asked.Sum()), show(first))
		}
		asked.Add(more)
		silent.Add(more)
		if got := asked.Sum(); got != silent.Sum() || got != sha.Of(s, more) || asked.Len() != uint64(n+70) {
			t.Fatalf("%d bytes, asked in between: %s, want %s", n, show(got), show(silent.Sum()))
		}
	}
}

// P4.1: hashes are each on their own, and what one was told before leaves nothing in another one.
func TestApart(t *testing.T) {
	a, b := sha.New(), sha.New()
	a.Add(some(100, 1))
	b.Add(some(10, 2))
	a.Add("x")
	b.Add("y")
	if a.Sum() != sha.Of(some(100, 1), "x") || b.Sum() != sha.Of(some(10, 2), "y") || a.Len() != 101 || b.Len() != 11 {
		t.Error("two hashes share something")
	}
	if c := sha.New(); c.Len() != 0 || c.Sum() != sha.Of() {
		t.Errorf("a new one has %d bytes, %s", c.Len(), show(c.Sum()))
	}
}

// P4.1, R3: a nil pointer, and a hash that New did not make, take nothing and answer zero values.
func TestNotMade(t *testing.T) {
	var none *sha.Hash
	var zero sha.Hash
	for i, h := range []*sha.Hash{none, &zero, new(sha.Hash), {}} {
		for _, s := range []string{"", "abc", some(64, 1), some(1000, 2)} {
			if h.Sum() != "" || h.Len() != 0 {
				t.Fatalf("%d: %s, of %d bytes", i, show(h.Sum()), h.Len())
			}
			h.Add(s)
		}
		if h.Sum() != "" || h.Len() != 0 {
			t.Fatalf("%d: behind all %s, of %d bytes", i, show(h.Sum()), h.Len())
		}
	}
	if zero != (sha.Hash{}) {
		t.Error("one that New did not make was changed")
	}
}

package text_test

import (
	"math"
	"slices"
	"strings"
	"testing"

	"gossamer/api"
	"gossamer/text"
)

// edges are the runes at the ends of the ranges of one to four bytes, around those that are none, and the one that Go gives for bytes that are no rune's.
var edges = []int{0, 1, 31, 32, 126, 127, 128, 159, 160, 233, 2047, 2048, 0xfff, 0x1000, 55295, 57344, 0xfffd, 0xfffe, 65535, 65536, 0x3ffff, 0x40000, 0xfffff, 0x100000, 1114111}

// enc answers the bytes that the chapter gives to a number of at most 21 bits in so many bytes, also where it has them in fewer.
func enc(r, size int) string {
	low := func(shift int) byte { return byte(128 + r>>shift&63) }
	switch size {
	case 1:
		return string([]byte{byte(r)})
	case 2:
		return string([]byte{byte(192 + r>>6), low(0)})
	case 3:
		return string([]byte{byte(224 + r>>12), low(6), low(0)})
	}
	return string([]byte{byte(240 + r>>18), low(12), low(6), low(0)})
}

// size answers how many bytes a number has.
func size(r int) int {
	switch {
	case r <= 127:
		return 1
	case r <= 2047:
		return 2
	case r <= 65535:
		return 3
	}
	return 4
}

// isRune tells whether a number is a rune's.
func isRune(r int) bool { return r >= 0 && r <= 1114111 && (r < 55296 || r > 57343) }

// dec answers the rune at the front of s, and how many bytes it has, by trying what each size would make of them.
func dec(s string) (int, int) {
	for n := 1; n <= 4 && n <= len(s); n++ {
		r := []int{0, int(s[0]), int(s[0]) & 31, int(s[0]) & 15, int(s[0]) & 7}[n]
		for _, b := range []byte(s[1:n]) {
			r = r<<6 + int(b)&63
		}
		if isRune(r) && size(r) == n && enc(r, n) == s[:n] {
			return r, n
		}
	}
	return 0, 0
}

// count answers what Runes should.
func count(s string) int {
	n := 0
	for len(s) > 0 {
		_, size := dec(s)
		if size == 0 {
			return -1
		}
		s, n = s[size:], n+1
	}
	return n
}

// check holds Valid and Runes against the number that is wanted.
func check(t *testing.T, s string, want int) {
	if n, ok := text.Runes(s), text.Valid(s); n != want || ok != (want >= 0) {
		t.Fatalf("%q: %d, %v; want %d", s, n, ok, want)
	}
}

// P1.1: each rune, and no other number, is valid in its own bytes.
func TestEachRune(t *testing.T) {
	for r := 0; r < 1<<21; r++ {
		want := -1
		if isRune(r) {
			want = 1
		}
		check(t, enc(r, size(r)), want)
	}
}

// P1.1: bytes that are too long for their rune.
func TestTooLong(t *testing.T) {
	for _, r := range []int{0, 1, '#', 127, 128, 233, 2047, 2048, 0xfffd, 65535} {
		for n := size(r) + 1; n <= 4; n++ {
			check(t, enc(r, n), -1)
			check(t, "a"+enc(r, n)+"b", -1)
		}
	}
}

// P1.1: bytes that are cut off, at either end, alone and between others; a head without what follows; what follows without a head.
func TestCutOff(t *testing.T) {
	for _, r := range edges {
		s := enc(r, size(r))
		for n := 1; n < len(s); n++ {
			for _, part := range []string{s[:n], s[n:]} {
				for _, whole := range []string{part, "a" + part, part + "a", "\ufffd" + part, part + "\ufffd", part + s, s + part} {
					check(t, whole, count(whole))
					if text.Valid(part) {
						t.Fatalf("%q", part)
					}
				}
			}
		}
	}
	for b := 128; b < 256; b++ {
		check(t, string([]byte{byte(b)}), -1)
		check(t, "#"+string([]byte{byte(b)}), -1)
	}
}

// P1.1: all bytes of one and two, and those of three and four whose last ones stand at the ends of what may follow.
func TestAllBytes(t *testing.T) {
	check(t, "", 0)
	ends := []byte{0, 65, 127, 128, 143, 144, 159, 160, 189, 191, 192, 255}
	few := []byte{127, 128, 189, 191, 192}
	for a := 0; a < 256; a++ {
		one := string([]byte{byte(a)})
		check(t, one, count(one))
		for b := 0; b < 256; b++ {
			two := one + string([]byte{byte(b)})
			check(t, two, count(two))
			for _, c := range ends {
				three := two + string([]byte{c})
				check(t, three, count(three))
			}
			for _, c := range few {
				for _, d := range few {
					four := two + string([]byte{c, d})
					check(t, four, count(four))
				}
			}
		}
	}
}

// P1.1: how many runes, of texts of several sizes.
func TestRunes(t *testing.T) {
	for _, c := range []struct {
		s string
		n int
	}{
		{"", 0}, {"a", 1}, {"aé", 2}, {"aé€😀", 4}, {"\x00", 1}, {"\ufffd", 1}, {"\ufffd\ufffd", 2},
		{"\xe9", -1}, {"aé\xe9", -1}, {"\xefa\xbd", -1}, {"\ufffd\xef\xbf", -1}, {strings.Repeat("é", 5000), 5000},
	} {
		check(t, c.s, c.n)
	}
}

// P1.1: kinds go by the first rune alone; other first runes make no key.
func TestKinds(t *testing.T) {
	want := map[int]uint8{'#': api.KindCounter, '@': api.KindSet, '=': api.KindCell}
	for r := 0; r <= 1114111; r++ {
		for _, rest := range []string{"", "n", "#@="} {
			key := enc(r, size(r)) + rest
			if text.Kind(key) != want[r] || text.Key(key) != (want[r] != api.KindNone) {
				t.Fatalf("%q: %d", key, text.Kind(key))
			}
		}
	}
}

// P1.1: signs that may not stand in a key, wherever they stand, and all those that may.
func TestSigns(t *testing.T) {
	for r := 0; r <= 1114111; r++ {
		bad := r < 32 || r >= 127 && r <= 159 || !isRune(r)
		sign := enc(r, size(r))
		for _, key := range []string{"#" + sign, "@a" + sign, "=" + sign + "z"} {
			if text.Key(key) == bad {
				t.Fatalf("%q: %v", key, !bad)
			}
			if bad && text.Kind(key) != api.KindNone {
				t.Fatalf("%q: %d", key, text.Kind(key))
			}
		}
	}
}

// P1.1: keys have 1 to MaxKey runes, of however many bytes.
func TestKeyLength(t *testing.T) {
	for _, r := range []string{"a", "é", "€", "😀", "\ufffd"} {
		for _, first := range []string{"#", "@", "="} {
			for _, n := range []int{1, 2, 63, 64, 65, 66, 1000} {
				key := first + strings.Repeat(r, n-1)
				if want := n <= api.MaxKey; text.Key(key) != want || (text.Kind(key) != api.KindNone) != want {
					t.Errorf("%d of %q: %v", n, r, !want)
				}
			}
		}
	}
}

// P1.1: what is no key.
func TestNoKey(t *testing.T) {
	for _, s := range []string{"", " ", "n", "n#", " #", "é#", "\ufeff#", "\x00", "#\xff", "#a\xe2\x82", "\xff#", "#\xed\xa0\x80", "#\xc2", "@" + strings.Repeat("a", 63) + "\xff"} {
		if text.Key(s) || text.Kind(s) != api.KindNone {
			t.Errorf("%q: %d", s, text.Kind(s))
		}
	}
}

// P1.2: the order goes by bytes, of whatever texts, valid or not.
func TestCompare(t *testing.T) {
	rising := []string{"", "\x00", "\x00\x00", "\x00a", "A", "a", "a\x00", "aa", "ab", "aé", "b", "é", "€", "\ufffd", "😀", "\xff", "\xff\x00"}
	if !slices.IsSortedFunc(rising, func(a, b string) int { return strings.Compare(a, b) }) {
		t.Fatal("the list does not rise")
	}
	for i, a := range rising {
		for j, b := range rising {
			want := 0
			if i < j {
				want = -1
			} else if i > j {
				want = 1
			}
			if got := text.Compare(a, b); got != want {
				t.Errorf("%q, %q: %d", a, b, got)
			}
		}
	}
}

// P1.2: 0 and less, fewer than there are, as many, and more.
func TestCut(t *testing.T) {
	s := "aé€\ufffd😀z"
	heads := []string{"", "a", "aé", "aé€", "aé€\ufffd", "aé€\ufffd😀", s}
	for n := -2; n < 10; n++ {
		want := heads[max(0, min(n, 6))]
		if got := text.Cut(s, n); got != want {
			t.Errorf("%d: %q", n, got)
		}
	}
	for _, n := range []int{math.MinInt, -1, 0, 1, math.MaxInt} {
		if got := text.Cut("", n); got != "" {
			t.Errorf("nothing, %d: %q", n, got)
		}
	}
	if text.Cut(s, math.MaxInt) != s || text.Cut(s, math.MinInt) != "" {
		t.Error("the ends of int")
	}
}

// P1.2: of a text that is not valid nothing is cut, wherever it is wrong.
func TestCutInvalid(t *testing.T) {
	for _, s := range []string{"\xff", "\xffabc", "abc\xff", "ab\xe2\x82", "ab\xed\xa0\x80", "ab\xc0\x80", "\xe9abc"} {
		for n := -1; n < 8; n++ {
			if got := text.Cut(s, n); got != "" {
				t.Errorf("%q, %d: %q", s, n, got)
			}
		}
	}
}

// some are valid texts of runes at the ends of their ranges.
func some() []string {
	l := []string{""}
	for _, a := range edges {
		l = append(l, enc(a, size(a)))
		for _, b := range []int{0, 127, 128, 2048, 57344, 65536, 1114111} {
			l = append(l, enc(a, size(a))+enc(b, size(b)))
		}
	}
	return l
}

// P1.3: two valid texts are valid together, with as many runes as both, and each is cut out again.
func TestTogether(t *testing.T) {
	l := some()
	for _, a := range l {
		for _, b := range l {
			n := text.Runes(a)
			check(t, a+b, count(a)+count(b))
			if text.Runes(a+b) != n+text.Runes(b) || text.Cut(a+b, n) != a {
				t.Fatalf("%q, %q", a, b)
			}
		}
	}
}

// numbers answers a valid text's runes.
func numbers(s string) []int {
	var l []int
	for len(s) > 0 {
		r, n := dec(s)
		l, s = append(l, r), s[n:]
	}
	return l
}

// P1.3: valid texts stand in the order of their runes, one by one.
func TestOrderOfRunes(t *testing.T) {
	l := some()
	for _, a := range l {
		for _, b := range l {
			if got, want := text.Compare(a, b), slices.Compare(numbers(a), numbers(b)); got != want {
				t.Fatalf("%q, %q: %d, want %d", a, b, got, want)
			}
		}
	}
}

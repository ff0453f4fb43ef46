package frame_test

import (
	"encoding/binary"
	"hash/crc32"
	"math"
	"slices"
	"strings"
	"testing"

	"gossamer/api"
	"gossamer/frame"
)

// head answers a frame's head: a length, and a sum that fits it and the text.
func head(length uint32, text string) string {
	l := binary.LittleEndian.AppendUint32(nil, length)
	sum := crc32.Checksum(append(slices.Clone(l), text...), crc32.MakeTable(crc32.Castagnoli))
	return string(binary.LittleEndian.AppendUint32(l, sum))
}

// framed answers a text's frame, as the chapter has it.
func framed(text string) string {
	return head(uint32(len(text)), text) + text
}

// row answers the texts' frames, one behind the other.
func row(texts ...string) string {
	s := ""
	for _, text := range texts {
		s += framed(text)
	}
	return s
}

// cut is P6.1's Cut, word by word.
func cut(s string) (text, rest string, e api.Errno) {
	if len(s) < api.FrameHead {
		return "", "", api.ErrShort
	}
	n := binary.LittleEndian.Uint32([]byte(s))
	if n > api.MaxFrame {
		return "", "", api.ErrLong
	}
	if uint64(len(s)) < api.FrameHead+uint64(n) {
		return "", "", api.ErrShort
	}
	text, rest = s[api.FrameHead:api.FrameHead+int(n)], s[api.FrameHead+int(n):]
	if !strings.HasPrefix(s, head(n, text)) {
		return "", "", api.ErrSum
	}
	return text, rest, api.OK
}

// show answers what a fault tells of s: the whole of it, where it is not too long.
func show(s string) string {
	return s[:min(len(s), 40)]
}

// checkCut holds Cut of s against the chapter, and answers its error.
func checkCut(t *testing.T, s string) api.Errno {
	t.Helper()
	text, rest, e := frame.Cut(s)
	wantText, wantRest, want := cut(s)
	if text != wantText || rest != wantRest || e != want {
		t.Fatalf("Cut(% x), %d bytes: %q, %q, %v; want %q, %q, %v", show(s), len(s), show(text), show(rest), e, show(wantText), show(wantRest), want)
	}
	return e
}

// checkScan holds Scan of s against those texts, that many bytes, and that error.
func checkScan(t *testing.T, s string, want []string, bytes int, wantErr api.Errno) {
	t.Helper()
	texts, good, e := frame.Scan(s)
	if !slices.Equal(texts, want) || good != bytes || e != wantErr {
		t.Fatalf("Scan(% x), %d bytes: %d texts %.60q, %d, %v; want %d texts %.60q, %d, %v", show(s), len(s), len(texts), texts, good, e, len(want), want, bytes, wantErr)
	}
}

// scan is P6.2, by cut.
func scan(s string) (texts []string, good int, e api.Errno) {
	for s != "" {
		text, rest, e := cut(s)
		if e != api.OK {
			return texts, good, e
		}
		texts = append(texts, text)
		good += len(s) - len(rest)
		s = rest
	}
	return texts, good, api.OK
}

// chance makes numbers by a rule.
type chance uint64

func (c *chance) below(n int) int {
	*c = *c*6364136223846793005 + 1442695040888963407
	return int(uint64(*c) >> 33 % uint64(n))
}

func (c *chance) text(n int) string {
	b := make([]byte, n)
	for i := range b {
		b[i] = byte(c.below(256))
	}
	return string(b)
}

// texts are some of no bytes, of one, of several, and of as many as a frame may have.
func texts() []string {
	c := chance(6)
	l := []string{"", "a", "ab", "\x00", "\xff", "aé\U0001f600", "\xc3\x28", strings.Repeat("\x00", 300), strings.Repeat("\xff", 70000), framed("ab"), c.text(api.MaxFrame - 1), c.text(api.MaxFrame)}
	for n := range 40 {
		l = append(l, c.text(n))
	}
	return append(l, c.text(255), c.text(256), c.text(257), c.text(65535), c.text(65536), c.text(65537))
}

// P6.1: a frame is the length, the sum of the length and the text, the text; the lowest bytes first.
func TestPutKnown(t *testing.T) {
	for text, want := range map[string]string{
		"":   "\x00\x00\x00\x00\xc7\x4b\x67\x48",
		"ab": "\x02\x00\x00\x00\xad\x82\x65\x9fab",
	} {
		if got, e := frame.Put(text); got != want || e != api.OK {
			t.Errorf("Put(%q): % x, %v; want % x", text, got, e, want)
		}
	}
}

// P6.1: Put answers what the chapter says, and Size how many bytes that has.
func TestPut(t *testing.T) {
	for _, text := range texts() {
		got, e := frame.Put(text)
		if got != framed(text) || e != api.OK {
			t.Errorf("Put(%.40q), %d bytes: % x, %d bytes, %v", text, len(text), show(got), len(got), e)
		}
		if frame.Size(text) != len(got) {
			t.Errorf("Size(%.40q): %d, want %d", text, frame.Size(text), len(got))
		}
	}
}

// P6.1: a text of just MaxFrame bytes is put, one of more is not; Size tells of both.
func TestPutLong(t *testing.T) {
	for _, above := range []int{1, 2, api.FrameHead, 1 << 20, 15 << 20} {
		text := strings.Repeat("x", api.MaxFrame+above)
		if got, e := frame.Put(text); got != "" || e != api.ErrLong {
			t.Errorf("Put of MaxFrame + %d bytes: %d bytes, %v", above, len(got), e)
		}
		if got := frame.Size(text); got != api.FrameHead+api.MaxFrame+above {
			t.Errorf("Size of MaxFrame + %d bytes: %d", above, got)
		}
	}
	text := strings.Repeat("x", api.MaxFrame)
	if got, e := frame.Put(text); got != framed(text) || e != api.OK {
		t.Errorf("Put of MaxFrame bytes: %d bytes, %v", len(got), e)
	}
	if got := frame.Size(text); got != api.FrameHead+api.MaxFrame {
		t.Errorf("Size of MaxFrame bytes: %d", got)
	}
}

// P6.1: what was put is cut, whatever stands behind it.
func TestCut(t *testing.T) {
	for _, text := range texts() {
		s, _ := frame.Put(text)
		for _, behind := range []string{"", "m", "more", "\x00", "\xff\xff\xff\xff0000", framed("more"), framed(text), framed("x")[:8]} {
			got, rest, e := frame.Cut(s + behind)
			if got != text || rest != behind || e != api.OK {
				t.Errorf("Cut of the frame of %.40q, %.40q behind: %.40q, %.40q, %v", text, behind, got, rest, e)
			}
			checkCut(t, s+behind)
		}
	}
}

// P6.1: fewer than FrameHead bytes are short, whatever they say; just so many are a text without bytes, or short of one.
func TestCutHead(t *testing.T) {
	for _, s := range []string{framed(""), framed("a"), head(api.MaxFrame, ""), head(math.MaxUint32, ""), strings.Repeat("\xff", 8), strings.Repeat("\x00", 8)} {
		for n := range api.FrameHead {
			if e := checkCut(t, s[:n]); e != api.ErrShort {
				t.Errorf("Cut(% x): %v", s[:n], e)
			}
		}
		checkCut(t, s[:api.FrameHead])
	}
	for s, want := range map[string]api.Errno{
		framed(""):                  api.OK,
		framed("a")[:8]:             api.ErrShort,
		head(api.MaxFrame, ""):      api.ErrShort,
		head(api.MaxFrame+1, ""):    api.ErrLong,
		strings.Repeat("\x00", 8):   api.ErrSum,
		"\x01\x00\x00\x00" + "0000": api.ErrShort,
	} {
		if e := checkCut(t, s); e != want {
			t.Errorf("Cut(% x): %v, want %v", s, e, want)
		}
	}
}

// P6.1: a length above MaxFrame is long, whatever stands behind it, also the bytes and the sum that it asks for.
func TestCutLong(t *testing.T) {
	lengths := []uint32{api.MaxFrame + 1, api.MaxFrame + 2, 2 * api.MaxFrame, 1 << 24, 1<<24 + 2, 1 << 31, 1<<31 - 1, 1<<31 + 2, 1<<32 - 8, math.MaxUint32 - 1, math.MaxUint32}
	for bit := 20; bit < 32; bit++ {
		lengths = append(lengths, 1<<bit+1, 1<<bit+2)
	}
	for _, n := range lengths {
		for _, behind := range []string{"", "a", "ab", framed("ab"), strings.Repeat("x", 1000)} {
			if e := checkCut(t, head(n, "")+behind); e != api.ErrLong {
				t.Errorf("length %d, %d bytes behind: %v", n, len(behind), e)
			}
		}
	}
	for _, n := range []uint32{api.MaxFrame + 1, api.MaxFrame + 9} {
		text := strings.Repeat("x", int(n))
		for _, s := range []string{head(n, text) + text, head(n, text) + text + "more", head(n, "") + text} {
			if e := checkCut(t, s); e != api.ErrLong {
				t.Errorf("length %d, all bytes behind: %v", n, e)
			}
		}
	}
}

// P6.1: fewer bytes behind the head than the length says are short, by one and by many, whatever the sum.
func TestCutShort(t *testing.T) {
	for _, text := range texts() {
		s := framed(text)
		for _, n := range []int{0, 1, 2, 3, len(text) / 2, len(text) - 2, len(text) - 1} {
			if n < 0 || n >= len(text) {
				continue
			}
			left := text[:n]
			for _, s := range []string{s[:api.FrameHead+n], head(uint32(len(text)), left) + left, s[:4] + "\x00\x00\x00\x00" + left} {
				if e := checkCut(t, s); e != api.ErrShort {
					t.Errorf("%d of %d bytes: %v", n, len(text), e)
				}
			}
		}
	}
}

// P6.1: a sum that is another one is told, whichever of its bytes it is, and whichever of their bits.
func TestCutSum(t *testing.T) {
	for _, text := range texts() {
		s := []byte(framed(text) + "more")
		for i := 4; i < api.FrameHead; i++ {
			for _, turn := range []byte{1, 2, 4, 8, 16, 32, 64, 128, 255} {
				s[i] ^= turn
				if e := checkCut(t, string(s)); e != api.ErrSum {
					t.Fatalf("byte %d of the frame of %.40q, turned by %x: %v", i, text, turn, e)
				}
				s[i] ^= turn
			}
		}
	}
}

// P6.1: the sum is of the length, too: with a text's sum alone, or with one of another order of bytes, nothing is cut.
func TestCutOtherSum(t *testing.T) {
	text := "ab"
	right := framed(text)
	alone := binary.LittleEndian.AppendUint32([]byte(right[:4]), crc32.Checksum([]byte(text), crc32.MakeTable(crc32.Castagnoli)))
	behind := binary.LittleEndian.AppendUint32([]byte(right[:4]), crc32.Checksum([]byte(text+right[:4]), crc32.MakeTable(crc32.Castagnoli)))
	other := binary.LittleEndian.AppendUint32([]byte(right[:4]), crc32.ChecksumIEEE([]byte(right[:4]+text)))
	turned := []byte(right[:8])
	slices.Reverse(turned[4:])
	for _, head := range [][]byte{alone, behind, other, turned} {
		if e := checkCut(t, string(head)+text); e != api.ErrSum {
			t.Errorf("% x ahead of %q: %v", head, text, e)
		}
	}
}

// P6.1: a length that was changed leaves no frame: it is short, long, or its sum is another one.
func TestCutOtherLength(t *testing.T) {
	for _, text := range []string{"", "a", "ab", strings.Repeat("\x00", 300), strings.Repeat("x", 70000)} {
		for _, behind := range []string{"", "m", framed("more"), strings.Repeat("\x00", 70000)} {
			s := []byte(framed(text) + behind)
			for bit := range 32 {
				s[bit/8] ^= 1 << (bit % 8)
				if e := checkCut(t, string(s)); e == api.OK {
					t.Errorf("%d bytes, bit %d of the length turned: cut", len(text), bit)
				}
				s[bit/8] ^= 1 << (bit % 8)
			}
			for n := range uint32(600) {
				if int(n) == len(text) {
					continue
				}
				changed := string(binary.LittleEndian.AppendUint32(nil, n)) + string(s[4:])
				if e := checkCut(t, changed); e == api.OK {
					t.Errorf("%d bytes, the length %d: cut", len(text), n)
				}
			}
		}
	}
}

// P6.1, R2: of several errors the one that is named first is told.
func TestCutSeveral(t *testing.T) {
	for _, x := range []struct {
		name, s string
		want    api.Errno
	}{
		{"no head, a great length", "\xff\xff\xff\xff000", api.ErrShort},
		{"no head, and no bytes", "", api.ErrShort},
		{"a great length, no bytes behind, a wrong sum", "\xff\xff\xff\xff0000", api.ErrLong},
		{"a length next to MaxFrame, no bytes behind, a wrong sum", "\x01\x00\x10\x000000", api.ErrLong},
		{"a great length, all bytes behind, a wrong sum", "\x01\x00\x10\x000000" + strings.Repeat("x", api.MaxFrame+1), api.ErrLong},
		{"just MaxFrame, no bytes behind, a wrong sum", "\x00\x00\x10\x000000", api.ErrShort},
		{"a byte is wanting, a wrong sum", "\x02\x00\x00\x000000a", api.ErrShort},
		{"just MaxFrame, a byte is wanting, a wrong sum", "\x00\x00\x10\x000000" + strings.Repeat("x", api.MaxFrame-1), api.ErrShort},
		{"just MaxFrame, a wrong sum", "\x00\x00\x10\x000000" + strings.Repeat("x", api.MaxFrame), api.ErrSum},
	} {
		if e := checkCut(t, x.s); e != x.want {
			t.Errorf("%s: %v, want %v", x.name, e, x.want)
		}
	}
}

// P6.2: frame by frame up to the end; of no bytes at all there are none.
func TestScan(t *testing.T) {
	checkScan(t, "", nil, 0, api.OK)
	for _, l := range [][]string{{""}, {"a"}, {"", ""}, {"ab", "", "c"}, {"", "ab", ""}, {"a", "a", "a"}, {framed("ab"), row("a", "b")}, texts()} {
		s := row(l...)
		checkScan(t, s, l, len(s), api.OK)
	}
	many := make([]string, 100000)
	checkScan(t, row(many[:1000]...), many[:1000], 8*1000, api.OK)
	checkScan(t, strings.Repeat(framed(""), len(many)), many, 8*len(many), api.OK)
}

// P6.2: at the first frame that Cut refuses it ends: the texts ahead of it are told, their bytes, and that error.
func TestScanWrong(t *testing.T) {
	wrongs := map[string]api.Errno{
		"\xff":                             api.ErrShort,
		"0000000":                          api.ErrShort,
		framed("abc")[:10]:                 api.ErrShort,
		head(api.MaxFrame, "") + "ab":      api.ErrShort,
		"\xff\xff\xff\xff0000":             api.ErrLong,
		head(api.MaxFrame+1, "") + "abc":   api.ErrLong,
		strings.Repeat("\x00", 8):          api.ErrSum,
		framed("abc")[:8] + "abd":          api.ErrSum,
		framed("abc")[:7] + "\x00" + "abc": api.ErrSum,
	}
	good := []string{"ab", "", "c", "", strings.Repeat("x", 1000)}
	for wrong, want := range wrongs {
		for n := range len(good) + 1 {
			ahead := row(good[:n]...)
			checkScan(t, ahead+wrong, good[:n], len(ahead), want)
			if want == api.ErrShort {
				continue // behind it, more bytes stand for those that were wanting
			}
			checkScan(t, ahead+wrong+row(good[n:]...), good[:n], len(ahead), want)
			checkScan(t, ahead+wrong+"m", good[:n], len(ahead), want)
			checkScan(t, ahead+wrong+wrong, good[:n], len(ahead), want)
		}
	}
}

// P6.2: the error is that of the first wrong frame, not of one behind it.
func TestScanTwoWrong(t *testing.T) {
	long, sum := "\xff\xff\xff\xff0000", strings.Repeat("\x00", 8)
	checkScan(t, framed("a")+long+framed("b")+sum, []string{"a"}, 9, api.ErrLong)
	checkScan(t, framed("a")+sum+framed("b")+long, []string{"a"}, 9, api.ErrSum)
	checkScan(t, sum+framed("b"), nil, 0, api.ErrSum)
}

// P6.3: what was put, one behind the other, is scanned; of what is cut off anywhere just the whole ones are told.
func TestScanCutOff(t *testing.T) {
	l := []string{"ab", "", "", "gossamer", framed("c"), "\x00\x00", ""}
	s := ""
	ends := []int{0}
	for _, text := range l {
		f, _ := frame.Put(text)
		s += f
		ends = append(ends, len(s))
	}
	for n := range len(s) + 1 {
		whole := 0
		for whole+1 < len(ends) && ends[whole+1] <= n {
			whole++
		}
		want := api.ErrShort
		if ends[whole] == n {
			want = api.OK
		}
		checkScan(t, s[:n], l[:whole], ends[whole], want)
	}
}

// P6.3: also of frames of MaxFrame bytes.
func TestScanLong(t *testing.T) {
	c := chance(9)
	l := []string{c.text(api.MaxFrame), "a", c.text(api.MaxFrame), c.text(api.MaxFrame)}
	s := row(l...)
	checkScan(t, s, l, len(s), api.OK)
	checkScan(t, s[:len(s)-1], l[:3], len(row(l[:3]...)), api.ErrShort)
	checkScan(t, s[:api.MaxFrame+7], nil, 0, api.ErrShort)
}

// turn answers s with those of its bits turned that pattern has, from bit at on; bits count from each byte's lowest one.
func turn(s string, at int, pattern uint32) string {
	b := []byte(s)
	for bit := range 32 {
		if pattern>>bit&1 == 1 {
			b[(at+bit)/8] ^= 1 << ((at + bit) % 8)
		}
	}
	return string(b)
}

// P6.3: a frame of whose text bits were turned that lie within 32 in a row is not cut, and nothing behind it is scanned.
func TestTurned(t *testing.T) {
	c := chance(3)
	for _, text := range []string{"a", "ab", "abc", "1234", "12345", strings.Repeat("\x00", 9), strings.Repeat("\xff", 12), c.text(40)} {
		bits := 8 * len(text)
		for at := range bits {
			patterns := []uint32{1, 3, 0xff, 0xffff, 0x80000001, 0xffffffff, 0x82f63b78, 0x1edc6f41}
			for range 40 {
				patterns = append(patterns, uint32(c.below(1<<16))<<16|uint32(c.below(1<<16)))
			}
			for _, pattern := range patterns {
				pattern &= 1<<min(32, bits-at) - 1
				if pattern == 0 {
					continue
				}
				s := framed(text)[:8] + turn(text, at, pattern)
				if e := checkCut(t, s+"more"); e != api.ErrSum {
					t.Fatalf("the bits %08x of %q turned from %d on: %v", pattern, text, at, e)
				}
				checkScan(t, framed("ahead")+s+framed("behind"), []string{"ahead"}, 13, api.ErrSum)
			}
		}
	}
}

// P6.3: no one bit of a frame's text, sum or length may be turned.
func TestOneBit(t *testing.T) {
	for _, text := range []string{"", "a", "ab", strings.Repeat("\x00", 200), chanceText(300)} {
		s := framed(text)
		for bit := range 8 * len(s) {
			b := []byte(s)
			b[bit/8] ^= 1 << (bit % 8)
			if e := checkCut(t, string(b)); e == api.OK {
				t.Errorf("%.20q: bit %d turned: cut", text, bit)
			}
		}
	}
}

func chanceText(n int) string {
	c := chance(n)
	return c.text(n)
}

// W6: of any bytes whatever Cut and Scan answer what the chapter says.
func TestWhatever(t *testing.T) {
	c := chance(1)
	for range 20000 {
		s := ""
		for range c.below(5) {
			part := framed(c.text(c.below(6)))
			switch c.below(8) {
			case 0:
				part = c.text(c.below(12))
			case 1:
				part = part[:c.below(len(part)+1)]
			case 2:
				b := []byte(part)
				b[c.below(len(b))] = byte(c.below(256))
				part = string(b)
			case 3:
				part = head(uint32(c.below(12)), "") + c.text(c.below(12))
			}
			s += part
		}
		checkCut(t, s)
		texts, good, e := scan(s)
		checkScan(t, s, texts, good, e)
	}
}

// R5, R6: what was answered is nobody else's, and a call leaves nothing behind.
func TestScanAgain(t *testing.T) {
	s := row("ab", "", "c") + "more"
	first, _, _ := frame.Scan(s)
	clear(first)
	checkScan(t, s, []string{"ab", "", "c"}, len(row("ab", "", "c")), api.ErrShort)
}

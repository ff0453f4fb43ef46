package wire_test

import (
	"errors"
	"math"
	"math/big"
	"strings"
	"testing"

	"gossamer/api"
	"gossamer/wire"
)

// number answers n's bytes by division, as layer 2's words have them.
func number(n uint64) string {
	var l []byte
	for ; n/128 > 0; n /= 128 {
		l = append(l, byte(n%128+128))
	}
	return string(append(l, byte(n)))
}

// ends answers numbers at both ends of each count of bytes, and some between.
func ends() []uint64 {
	l := []uint64{0, 1, 2, 5, 100, 255, 256, 300, math.MaxInt64 - 1, math.MaxInt64, math.MaxInt64 + 1, math.MaxUint64 - 1, math.MaxUint64}
	for power := 7; power < 64; power += 7 {
		n := uint64(1) << power
		l = append(l, n-2, n-1, n, n+1, n+n/3)
	}
	return l
}

// texts are of no bytes, of few, of so many that their count has two bytes and three, and of bytes that are no runes.
func texts() []string {
	l := []string{"", "a", "ab", "aé\U0001f600", "\xff\x80\x00", "\x00", "\x01", strings.Repeat("\x80", 30)}
	for _, n := range []int{126, 127, 128, 129, 16383, 16384} {
		l = append(l, strings.Repeat("q", n))
	}
	return l
}

// model has the chapter's words, one by one.
type model struct {
	left string
	err  api.Errno
}

// read answers the number at the front of what is left, worked out in numbers without an end, its bytes, and layer 2's error.
func (m *model) read() (*big.Int, int, api.Errno) {
	size, ended := 0, false
	n := new(big.Int)
	for size < len(m.left) && size < api.MaxNum && !ended {
		b := m.left[size]
		n.Add(n, new(big.Int).Lsh(big.NewInt(int64(b%128)), uint(7*size)))
		ended = b < 128
		size++
	}
	switch {
	case !ended && size < api.MaxNum:
		return nil, 0, api.ErrShort
	case !ended, !n.IsUint64():
		return nil, 0, api.ErrOver
	case size > 1 && m.left[size-1] == 0:
		return nil, 0, api.ErrForm
	}
	return n, size, api.OK
}

// num is Num, and Int too: most may be below 0.
func (m *model) num(most *big.Int) uint64 {
	if m.err != api.OK {
		return 0
	}
	n, size, e := m.read()
	if e == api.OK && n.Cmp(most) > 0 {
		e = api.ErrOver
	}
	if e != api.OK {
		m.err = e
		return 0
	}
	m.left = m.left[size:]
	return n.Uint64()
}

// text is Text.
func (m *model) text(most int) string {
	if m.err != api.OK {
		return ""
	}
	n, size, e := m.read()
	if e == api.OK && n.Cmp(big.NewInt(int64(most))) > 0 {
		e = api.ErrLong
	}
	if e == api.OK && n.Cmp(big.NewInt(int64(len(m.left)-size))) > 0 {
		e = api.ErrShort
	}
	if e != api.OK {
		m.err = e
		return ""
	}
	end := size + int(n.Int64())
	s := m.left[size:end]
	m.left = m.left[end:]
	return s
}

// truth is Bool.
func (m *model) truth() bool {
	if m.err != api.OK {
		return false
	}
	switch {
	case m.left == "":
		m.err = api.ErrShort
		return false
	case m.left[0] != 0 && m.left[0] != 1:
		m.err = api.ErrForm
		return false
	}
	b := m.left[0] == 1
	m.left = m.left[1:]
	return b
}

// fail is Fail.
func (m *model) fail(e api.Errno) {
	if m.err == api.OK {
		m.err = e
	}
}

// end is End.
func (m *model) end() api.Errno {
	if m.err == api.OK && len(m.left) > 0 {
		m.err = api.ErrForm
	}
	return m.err
}

// chance answers numbers by a rule.
type chance uint64

func (c *chance) next(n int) int {
	*c = *c*6364136223846793005 + 1442695040888963407
	return int(uint64(*c) >> 33 % uint64(n))
}

// want holds what a reader has told, and its error, against what is right.
func want[T comparable](t *testing.T, r *wire.Reader, what string, got, right T, e api.Errno) {
	t.Helper()
	if got != right {
		t.Fatalf("%s: %v, want %v", what, got, right)
	}
	if r.Err() != e {
		t.Fatalf("%s: error %d, want %d", what, r.Err(), e)
	}
}

// left holds that just s is left of a reader: number by number, up to the end, or to the first error.
func left(t *testing.T, r *wire.Reader, s string) {
	t.Helper()
	m := &model{left: s}
	for len(m.left) > 0 && m.err == api.OK {
		n := m.num(new(big.Int).SetUint64(math.MaxUint64))
		want(t, r, "what is left", r.Num(math.MaxUint64), n, m.err)
	}
	want(t, r, "the end", r.End(), m.end(), m.err)
}

// P5.1: Nums answers the numbers' bytes, one behind the other; of none, no bytes.
func TestNums(t *testing.T) {
	all := ""
	for _, n := range ends() {
		all += number(n)
		if got := wire.Nums(n); got != number(n) {
			t.Errorf("%d: %q, want %q", n, got, number(n))
		}
		if got, right := wire.Nums(n, 0, n), number(n)+"\x00"+number(n); got != right {
			t.Errorf("%d, 0, %d: %q, want %q", n, n, got, right)
		}
	}
	if got := wire.Nums(ends()...); got != all {
		t.Errorf("all: %q, want %q", got, all)
	}
	if a, b, c := wire.Nums(), wire.Nums(nil...), wire.Nums([]uint64{}...); a+b+c != "" {
		t.Errorf("none: %q %q %q", a, b, c)
	}
}

// P5.1: Texts answers the texts' bytes, one behind the other: how many, and the text; of none, no bytes.
func TestTexts(t *testing.T) {
	all := ""
	for _, s := range texts() {
		bytes := number(uint64(len(s))) + s
		all += bytes
		if got := wire.Texts(s); got != bytes {
			t.Errorf("%q: %q", s, got)
		}
		if got := wire.Texts("", s, "x"); got != "\x00"+bytes+"\x01x" {
			t.Errorf("between two: %q: %q", s, got)
		}
	}
	if got := wire.Texts(texts()...); got != all {
		t.Errorf("all: %q, want %q", got, all)
	}
	if a, b, c := wire.Texts(), wire.Texts(nil...), wire.Texts([]string{}...); a+b+c != "" {
		t.Errorf("none: %q %q %q", a, b, c)
	}
}

// P5.1: Bool answers a byte 1, or 0.
func TestBool(t *testing.T) {
	if a, b := wire.Bool(true), wire.Bool(false); a != "\x01" || b != "\x00" {
		t.Errorf("%q %q", a, b)
	}
}

// P5.1, R5: the lists that are handed in are as they were.
func TestListsAreAsTheyWere(t *testing.T) {
	numbers, words := []uint64{300, 2, 1}, []string{"b", "", "a"}
	wire.Nums(numbers...)
	wire.Texts(words...)
	if numbers[0] != 300 || numbers[1] != 2 || numbers[2] != 1 || strings.Join(words, ",") != "b,,a" {
		t.Error(numbers, words)
	}
}

// P5.1, P5.3: a reader of which nothing is asked has no error, whatever its bytes are; each reader is one of its own.
func TestNew(t *testing.T) {
	for _, s := range []string{"", "\x00", "\xff", "\x80\x80", "abc"} {
		if r := wire.New(s); r == nil || r.Err() != api.OK || r.Err() != api.OK {
			t.Errorf("%q: an error at first", s)
		}
	}
	a, b := wire.New("\x01"), wire.New("\x01")
	want(t, a, "one", a.Num(1), 1, api.OK)
	want(t, b, "the other", b.Num(1), 1, api.OK)
	if a.End() != api.OK || b.End() != api.OK {
		t.Error(a.Err(), b.Err())
	}
}

// P5.2: a number just at most is answered, and its bytes are taken; one above most is ErrOver.
func TestNumMost(t *testing.T) {
	for _, n := range ends() {
		for _, behind := range []string{"", "\x07", "\xff\x01"} {
			s := number(n) + behind
			r := wire.New(s)
			want(t, r, "at most", r.Num(n), n, api.OK)
			left(t, r, behind)
			r = wire.New(s)
			want(t, r, "below the greatest", r.Num(math.MaxUint64), n, api.OK)
			left(t, r, behind)
			if n > 0 {
				r = wire.New(s)
				want(t, r, "one above", r.Num(n-1), 0, api.ErrOver)
				r = wire.New(s)
				want(t, r, "above 0", r.Num(0), 0, api.ErrOver)
			}
		}
	}
}

// P5.2: Int is as Num, of each most up to the greatest int; of a most below 0, ErrOver.
func TestIntMost(t *testing.T) {
	for _, n := range ends() {
		s := number(n) + "\x07"
		for _, most := range []int{math.MinInt, -129, -1} {
			r := wire.New(s)
			want(t, r, "most below 0", r.Int(most), 0, api.ErrOver)
		}
		r := wire.New(s)
		if n > math.MaxInt {
			want(t, r, "no int", r.Int(math.MaxInt), 0, api.ErrOver)
			continue
		}
		want(t, r, "the greatest most", r.Int(math.MaxInt), int(n), api.OK)
		left(t, r, "\x07")
		r = wire.New(s)
		want(t, r, "at most", r.Int(int(n)), int(n), api.OK)
		left(t, r, "\x07")
		if n > 0 {
			r = wire.New(s)
			want(t, r, "one above", r.Int(int(n-1)), 0, api.ErrOver)
			r = wire.New(s)
			want(t, r, "above 0", r.Int(0), 0, api.ErrOver)
		}
	}
}

// wrong are bytes at whose front no number stands, with layer 2's error.
var wrong = map[string]api.Errno{
	"":                         api.ErrShort,
	"\x80":                     api.ErrShort,
	"\xff\xff\xff":             api.ErrShort,
	strings.Repeat("\x80", 9):  api.ErrShort,
	strings.Repeat("\xff", 9):  api.ErrShort,
	strings.Repeat("\x80", 10): api.ErrOver,
	strings.Repeat("\xff", 11): api.ErrOver,
	"\xff\xff\xff\xff\xff\xff\xff\xff\xff\x02":     api.ErrOver,
	"\x80\x80\x80\x80\x80\x80\x80\x80\x80\x7f":     api.ErrOver,
	"\x80\x80\x80\x80\x80\x80\x80\x80\x80\x80\x01": api.ErrOver,
	"\x80\x00":                         api.ErrForm,
	"\xff\x00\x01":                     api.ErrForm,
	"\x81\x80\x00abcdefgh":             api.ErrForm,
	strings.Repeat("\x80", 9) + "\x00": api.ErrForm,
}

// P5.2, R2: of bytes that are no number Num, Int and Text tell layer 2's error, ahead of what most has to say.
func TestNoNumber(t *testing.T) {
	for s, e := range wrong {
		for _, most := range []uint64{0, 1, 300, math.MaxUint64} {
			r := wire.New(s)
			want(t, r, "Num", r.Num(most), 0, e)
		}
		for _, most := range []int{math.MinInt, -1, 0, 1, 300, math.MaxInt} {
			r := wire.New(s)
			want(t, r, "Int", r.Int(most), 0, e)
			r = wire.New(s)
			want(t, r, "Text", r.Text(most), "", e)
		}
	}
}

// P5.2: a text just as long as may be is answered, and taken; a longer one is ErrLong; one that is not all there is ErrShort.
func TestTextMost(t *testing.T) {
	for _, s := range texts() {
		bytes := number(uint64(len(s))) + s
		for _, most := range []int{len(s), len(s) + 1, math.MaxInt} {
			r := wire.New(bytes + "\x07")
			want(t, r, "a text", r.Text(most), s, api.OK)
			left(t, r, "\x07")
		}
		for _, most := range []int{len(s) - 1, -1, math.MinInt} {
			r := wire.New(bytes + "\x07")
			want(t, r, "a longer text", r.Text(most), "", api.ErrLong)
		}
		for cut := range min(len(s), 200) {
			r := wire.New(bytes[:len(bytes)-1-cut])
			want(t, r, "a text that is not all there", r.Text(len(s)), "", api.ErrShort)
		}
	}
}

// P5.2, R2: a text that is too long, and not all there either, is ErrLong; counts of bytes that nobody has are ErrShort where they may be, ErrLong else.
func TestTextOfSeveralErrors(t *testing.T) {
	for _, n := range ends() {
		if n == 0 {
			continue
		}
		for _, behind := range []string{"", "a"} {
			if uint64(len(behind)) >= n {
				continue
			}
			s := number(n) + behind
			for _, most := range []int{0, -1, math.MinInt} {
				r := wire.New(s)
				want(t, r, "too long, and short", r.Text(most), "", api.ErrLong)
			}
			r := wire.New(s)
			if n > math.MaxInt {
				want(t, r, "above each most", r.Text(math.MaxInt), "", api.ErrLong)
				continue
			}
			want(t, r, "short", r.Text(int(n)), "", api.ErrShort)
			r = wire.New(s)
			want(t, r, "one too long, and short", r.Text(int(n)-1), "", api.ErrLong)
			r = wire.New(s)
			want(t, r, "far below the greatest most", r.Text(math.MaxInt), "", api.ErrShort)
		}
	}
}

// P5.2: a truth's byte is 0 or 1, each other one is ErrForm; no byte is ErrShort.
func TestTruth(t *testing.T) {
	for b := range 256 {
		r := wire.New(string([]byte{byte(b)}) + "\x07")
		if b > 1 {
			want(t, r, "no truth", r.Bool(), false, api.ErrForm)
			continue
		}
		want(t, r, "a truth", r.Bool(), b == 1, api.OK)
		left(t, r, "\x07")
	}
	r := wire.New("")
	want(t, r, "no byte", r.Bool(), false, api.ErrShort)
}

// asks are the calls of a reader, each of which answers whether it told zero (or, of Err and End, e).
func asks(r *wire.Reader, e api.Errno) []func() bool {
	return []func() bool{
		func() bool { return r.Num(math.MaxUint64) == 0 },
		func() bool { return r.Num(0) == 0 },
		func() bool { return r.Int(math.MaxInt) == 0 },
		func() bool { return r.Int(-1) == 0 },
		func() bool { return r.Text(math.MaxInt) == "" },
		func() bool { return r.Text(-1) == "" },
		func() bool { return !r.Bool() },
		func() bool { r.Fail(api.ErrFull); return true },
		func() bool { r.Fail(api.OK); return true },
		func() bool { return r.Err() == e },
		func() bool { return r.End() == e },
	}
}

// P5.2, P5.3: once there is an error, it stays, whatever is called, twice and in whatever order; zero is answered, though there is a number, a text, a truth at the front.
func TestErrorStays(t *testing.T) {
	const behind = "\x01a\x01b"
	fall := map[api.Errno]func() *wire.Reader{
		api.ErrShort: func() *wire.Reader { r := wire.New("\x01\x05a"); r.Num(1); r.Text(5); return r },
		api.ErrOver:  func() *wire.Reader { r := wire.New("\x01" + behind); r.Num(0); return r },
		api.ErrLong:  func() *wire.Reader { r := wire.New("\x01" + behind); r.Text(0); return r },
		api.ErrForm:  func() *wire.Reader { r := wire.New("\x01" + behind); r.End(); return r },
		api.ErrPath:  func() *wire.Reader { r := wire.New(behind); r.Fail(api.ErrPath); return r },
		api.ErrNone:  func() *wire.Reader { r := wire.New(""); r.Fail(api.ErrNone); return r },
		-7:           func() *wire.Reader { r := wire.New(behind); r.Fail(-7); return r },
	}
	for e, make := range fall {
		for i := range asks(make(), e) {
			for j := range asks(make(), e) {
				r := make()
				l := asks(r, e)
				for _, k := range []int{i, j, i} {
					if !l[k]() || r.Err() != e {
						t.Fatalf("error %d, calls %d, %d: error %d, or no zero", e, i, j, r.Err())
					}
				}
			}
		}
	}
}

// P5.3: Fail of OK does nothing; of an error it gives that one, and only the first.
func TestFail(t *testing.T) {
	r := wire.New("\x03\x01")
	r.Fail(api.OK)
	want(t, r, "Fail of OK", r.Num(9), 3, api.OK)
	r.Fail(api.ErrMember)
	want(t, r, "Fail of an error", r.Num(9), 0, api.ErrMember)
	r.Fail(api.ErrArg)
	want(t, r, "Fail behind another error", r.Bool(), false, api.ErrMember)
	r.Fail(api.OK)
	want(t, r, "Fail of OK behind an error", r.End(), api.ErrMember, api.ErrMember)
	for _, e := range []api.Errno{api.ErrNil, api.ErrOver, -1, math.MaxInt, math.MinInt} {
		r := wire.New("")
		r.Fail(e)
		want(t, r, "Fail", r.End(), e, e)
	}
}

// P5.3: End is OK where nothing is left, again and again; where bytes are left it is ErrForm, which the reader has then.
func TestEnd(t *testing.T) {
	r := wire.New("\x01")
	want(t, r, "a truth", r.Bool(), true, api.OK)
	for range 3 {
		want(t, r, "the end", r.End(), api.OK, api.OK)
	}
	want(t, r, "behind the end", r.Num(9), 0, api.ErrShort)
	for _, s := range []string{"\x01", "\x00", "\xff", "\x80\x80", "ab"} {
		r := wire.New(s)
		want(t, r, "before the end", r.End(), api.ErrForm, api.ErrForm)
		want(t, r, "behind that", r.Num(math.MaxUint64), 0, api.ErrForm)
		want(t, r, "again", r.End(), api.ErrForm, api.ErrForm)
	}
}

// P5.3, R3: nil, and a reader that New did not make, answer ErrNil, else zero, and do nothing.
func TestNoReader(t *testing.T) {
	for _, r := range []*wire.Reader{nil, {}, new(wire.Reader)} {
		for range 2 {
			for i, ask := range asks(r, api.ErrNil) {
				if !ask() || r.Err() != api.ErrNil {
					t.Fatalf("call %d: error %d, or no zero", i, r.Err())
				}
			}
		}
		var e error = r.Err()
		if !errors.Is(e, api.ErrNil) {
			t.Error(e)
		}
	}
}

// brick is something that is written, and how it is read.
type brick struct {
	bytes string
	read  func(r *wire.Reader) bool
}

// bricks answers n bricks, of whatever kinds.
func bricks(c *chance, n int) []brick {
	var l []brick
	for range n {
		x := ends()[c.next(len(ends()))]
		s := texts()[c.next(10)]
		switch c.next(4) {
		case 0:
			l = append(l, brick{wire.Nums(x), func(r *wire.Reader) bool { return r.Num(x) == x }})
		case 1:
			x /= 2
			l = append(l, brick{wire.Nums(x), func(r *wire.Reader) bool { return r.Int(int(x)) == int(x) }})
		case 2:
			l = append(l, brick{wire.Texts(s), func(r *wire.Reader) bool { return r.Text(len(s)) == s }})
		case 3:
			b := x%2 == 1
			l = append(l, brick{wire.Bool(b), func(r *wire.Reader) bool { return r.Bool() == b }})
		}
	}
	return l
}

// P5.4: what was written is read, in order, whatever stands behind; of what is cut off it is told by ErrShort, just there.
func TestWrittenIsRead(t *testing.T) {
	c := chance(5)
	for range 300 {
		l := bricks(&c, c.next(9))
		all := ""
		for _, b := range l {
			all += b.bytes
		}
		for _, behind := range []string{"", "\x00", "\xff\xff", "\x80\x00", strings.Repeat("\xff", 12)} {
			r := wire.New(all + behind)
			for i, b := range l {
				if !b.read(r) || r.Err() != api.OK {
					t.Fatalf("brick %d of %q: error %d", i, all, r.Err())
				}
			}
			if e := r.End(); (e == api.OK) != (behind == "") || e != api.OK && e != api.ErrForm {
				t.Fatalf("%q behind: error %d", behind, e)
			}
		}
		for cut := range len(all) {
			r, size := wire.New(all[:cut]), 0
			for i, b := range l {
				size += len(b.bytes)
				right := b.read(r)
				if size <= cut && (!right || r.Err() != api.OK) || size > cut && r.Err() != api.ErrShort {
					t.Fatalf("%q cut at %d: brick %d: error %d", all, cut, i, r.Err())
				}
			}
		}
	}
}

// P5.4: what is read is just what its bytes say: written again, it is what stands at the front.
func TestReadIsJustWhatBytesSay(t *testing.T) {
	c := chance(77)
	for range 20000 {
		s := junk(&c)
		r := wire.New(s)
		if n := r.Num(math.MaxUint64); r.Err() == api.OK && !strings.HasPrefix(s, wire.Nums(n)) {
			t.Fatalf("%q: number %d", s, n)
		}
		r = wire.New(s)
		if x := r.Text(math.MaxInt); r.Err() == api.OK && !strings.HasPrefix(s, wire.Texts(x)) {
			t.Fatalf("%q: text %q", s, x)
		}
		r = wire.New(s)
		if b := r.Bool(); r.Err() == api.OK && !strings.HasPrefix(s, wire.Bool(b)) {
			t.Fatalf("%q: truth %v", s, b)
		}
	}
}

// junk answers bytes among which numbers, texts, truths and their beginnings are often.
func junk(c *chance) string {
	const signs = "\x00\x00\x01\x01\x02\x03\x05\x7f\x80\x80\x81\xff\xffab"
	l := make([]byte, c.next(14))
	for i := range l {
		l[i] = signs[c.next(len(signs))]
	}
	return string(l)
}

// W6, P5.2 to P5.4: of any bytes whatever, whatever is asked, a reader tells what the chapter's words have.
func TestWhateverIsAsked(t *testing.T) {
	c := chance(1)
	mosts := []int{math.MinInt, -1, 0, 1, 2, 3, 127, 128, math.MaxInt}
	codes := []api.Errno{api.OK, api.OK, api.OK, api.ErrArg}
	for range 40000 {
		s := junk(&c)
		r, m := wire.New(s), &model{left: s}
		for range c.next(8) {
			most := mosts[c.next(len(mosts))]
			switch c.next(7) {
			case 0, 1:
				bound := uint64(most)
				right := m.num(new(big.Int).SetUint64(bound))
				want(t, r, "Num", r.Num(bound), right, m.err)
			case 2:
				right := int(m.num(big.NewInt(int64(most))))
				want(t, r, "Int", r.Int(most), right, m.err)
			case 3:
				right := m.text(most)
				want(t, r, "Text", r.Text(most), right, m.err)
			case 4, 5:
				right := m.truth()
				want(t, r, "Bool", r.Bool(), right, m.err)
			case 6:
				e := codes[c.next(len(codes))]
				m.fail(e)
				r.Fail(e)
				want(t, r, "Fail", 0, 0, m.err)
			}
		}
		right := m.end()
		want(t, r, "End", r.End(), right, m.err)
	}
}

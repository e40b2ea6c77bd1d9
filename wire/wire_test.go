package wire

import (
	"bytes"
	"encoding/binary"
	"fmt"
	"math"
	"regexp"
	"slices"
	"strings"
	"testing"

	"handcart/api"
	"handcart/pack"
)

// form is chapter 6's definition of a name, as an expression.
var form = regexp.MustCompile(`\A[a-z][a-z0-9-]{0,7}\z`)

// numbers are those around every power of two, the small ones, and some without a pattern.
func numbers() []uint64 {
	var l []uint64
	for x := range uint64(1000) {
		l = append(l, x)
	}
	for i := range 64 {
		l = append(l, 1<<i-1, 1<<i, 1<<i+1, -(1 << i))
	}
	next := dice(1)
	for i := range 500 {
		l = append(l, next()>>(i%64))
	}
	return append(l, math.MaxUint64)
}

// dice returns a function whose results have no pattern, but are the same in each run.
func dice(seed uint64) func() uint64 {
	x := 88172645463325252 + seed
	return func() uint64 {
		x ^= x << 13
		x ^= x >> 7
		x ^= x << 17
		return x
	}
}

// names are texts that are names, of each length.
func names() []string {
	return []string{"a", "z", "ab", "a-", "a9", "cup", "tea-", "cart7", "m-9-z0", "abcdefg", "abcdefgh", "zzzzzzzz", "z-------", "z9999999"}
}

// padded returns s in an api.Name.
func padded(s string) api.Name {
	var n api.Name
	copy(n[:], s)
	return n
}

// lengths are those of byte strings around each number of bytes that a length takes, and the limit of what a frame has.
func lengths() []int {
	return []int{0, 1, 2, 3, 7, 8, 9, 126, 127, 128, 129, 255, 256, 257, 300, 16382, 16383, 16384, 16385, api.MaxData - 1, api.MaxData, api.MaxData + 1, 1<<21 - 1, 1 << 21}
}

// pattern returns n bytes, of which none is like its neighbors.
func pattern(n int) []byte {
	b := make([]byte, n)
	for i := range b {
		b[i] = byte(7*i + i>>8 + 1)
	}
	return b
}

// long returns b behind its length, as another library writes it.
func long(b []byte) []byte {
	return append(binary.AppendUvarint(nil, uint64(len(b))), b...)
}

// few returns the first bytes of b as text, so that a message about a long slice can be read.
func few(b []byte) string {
	if len(b) > 24 {
		return fmt.Sprintf("%v.. (%d bytes)", b[:24], len(b))
	}
	return fmt.Sprint(b)
}

// checkOut holds what a writer returns after writing against want.
func checkOut(t *testing.T, what string, write func(w *Writer), want []byte) {
	t.Helper()
	w := New()
	write(w)
	if got := w.Out(); !bytes.Equal(got, want) {
		t.Errorf("%s: %v, not %v", what, few(got), few(want))
	}
}

func TestP701Example(t *testing.T) {
	checkOut(t, "Num(300), Name(ab)", func(w *Writer) {
		w.Num(300)
		w.Name(api.Name{'a', 'b'})
	}, []byte{172, 2, 2, 97, 98})
}

func TestP701Num(t *testing.T) {
	for _, c := range []struct {
		x    uint64
		want []byte
	}{
		{0, []byte{0}},
		{1, []byte{1}},
		{127, []byte{127}},
		{128, []byte{128, 1}},
		{300, []byte{172, 2}},
		{16383, []byte{255, 127}},
		{16384, []byte{128, 128, 1}},
		{1<<32 - 1, []byte{255, 255, 255, 255, 15}},
		{1 << 63, []byte{128, 128, 128, 128, 128, 128, 128, 128, 128, 1}},
		{math.MaxUint64, []byte{255, 255, 255, 255, 255, 255, 255, 255, 255, 1}},
	} {
		checkOut(t, fmt.Sprint("Num ", c.x), func(w *Writer) { w.Num(c.x) }, c.want)
	}
	for _, x := range numbers() {
		checkOut(t, fmt.Sprint("Num ", x), func(w *Writer) { w.Num(x) }, binary.AppendUvarint(nil, x))
		checkOut(t, fmt.Sprint("Num ", x), func(w *Writer) { w.Num(x) }, pack.Var(x))
	}
}

func TestP701Byte(t *testing.T) {
	for c := range 256 {
		checkOut(t, fmt.Sprint("Byte ", c), func(w *Writer) { w.Byte(byte(c)) }, []byte{byte(c)})
	}
}

func TestP701Name(t *testing.T) {
	for _, s := range names() {
		checkOut(t, "Name "+s, func(w *Writer) { w.Name(padded(s)) }, append([]byte{byte(len(s))}, s...))
	}
	// Arrays that are not names have a text as well: it ends at the first zero byte.
	for _, c := range []struct {
		n    api.Name
		want []byte
	}{
		{api.Name{}, []byte{0}},
		{api.Name{0, 'a'}, []byte{0}},
		{api.Name{0, 0, 0, 0, 0, 0, 0, 'a'}, []byte{0}},
		{api.Name{'a', 0, 'b'}, []byte{1, 'a'}},
		{api.Name{'a', 'b', 0, 0, 0, 0, 0, 'c'}, []byte{2, 'a', 'b'}},
		{api.Name{'9', 'A', ' '}, []byte{3, '9', 'A', ' '}},
		{api.Name{255, 128, 1}, []byte{3, 255, 128, 1}},
		{api.Name{255, 255, 255, 255, 255, 255, 255, 255}, []byte{8, 255, 255, 255, 255, 255, 255, 255, 255}},
	} {
		checkOut(t, fmt.Sprint("Name ", c.n), func(w *Writer) { w.Name(c.n) }, c.want)
	}
}

func TestP701Bytes(t *testing.T) {
	for _, c := range []struct{ b, want []byte }{
		{nil, []byte{0}},
		{[]byte{}, []byte{0}},
		{[]byte{0}, []byte{1, 0}},
		{[]byte{1, 2}, []byte{2, 1, 2}},
		{[]byte{255, 0, 128}, []byte{3, 255, 0, 128}},
	} {
		checkOut(t, fmt.Sprint("Bytes ", c.b), func(w *Writer) { w.Bytes(c.b) }, c.want)
	}
	for _, n := range lengths() {
		checkOut(t, fmt.Sprint("Bytes of ", n), func(w *Writer) { w.Bytes(pattern(n)) }, long(pattern(n)))
	}
}

// TestP701Out: Out returns all writes in their order, each time, and what it returned stays as it was.
func TestP701Out(t *testing.T) {
	w, other := New(), New()
	if len(w.Out()) != 0 {
		t.Errorf("Out of a new writer: %v", w.Out())
	}
	var want []byte
	var outs, copies [][]byte
	for i := range 200 {
		switch i % 4 {
		case 0:
			w.Num(uint64(i * i * i))
			want = binary.AppendUvarint(want, uint64(i*i*i))
		case 1:
			w.Byte(byte(i))
			want = append(want, byte(i))
		case 2:
			s := names()[i%len(names())]
			w.Name(padded(s))
			want = append(append(want, byte(len(s))), s...)
		case 3:
			w.Bytes(pattern(i))
			want = append(want, long(pattern(i))...)
		}
		out := w.Out()
		outs, copies = append(outs, out), append(copies, bytes.Clone(out))
		if !bytes.Equal(out, want) || !bytes.Equal(w.Out(), want) {
			t.Fatalf("Out after %d writes: %v, not %v", i+1, out, want)
		}
	}
	for i, out := range outs {
		if !bytes.Equal(out, copies[i]) {
			t.Errorf("Out after %d writes has changed", i+1)
		}
	}
	if len(other.Out()) != 0 {
		t.Errorf("another writer has %v", other.Out())
	}
}

// TestP701OutAppended: bytes that a caller appends to a result are neither written nor changed by writes.
func TestP701OutAppended(t *testing.T) {
	w := New()
	for i := range 100 {
		w.Byte(byte(i))
		longer := append(w.Out(), 200)
		w.Byte(100)
		if longer[len(longer)-1] != 200 {
			t.Fatalf("a write changed what was appended to Out: %v", longer)
		}
		if out := w.Out(); out[len(out)-1] != 100 {
			t.Fatalf("what was appended to Out is written: %v", out)
		}
	}
}

// TestP701BytesArgument: neither b nor the capacity behind it is modified, and b is not kept.
func TestP701BytesArgument(t *testing.T) {
	room := []byte{1, 2, 3, 4, 5, 6}
	b := room[1:3]
	w := New()
	w.Bytes(b)
	w.Byte(9)
	if !bytes.Equal(room, []byte{1, 2, 3, 4, 5, 6}) {
		t.Errorf("the argument is modified: %v", room)
	}
	room[1] = 77
	if got := w.Out(); !bytes.Equal(got, []byte{2, 2, 3, 9}) {
		t.Errorf("Out: %v", got)
	}
}

// step is one read.
type step struct {
	kind string
	most uint64
	room int
}

func (s step) String() string {
	switch s.kind {
	case "num":
		return fmt.Sprintf("Num(%d)", s.most)
	case "bytes":
		return fmt.Sprintf("Bytes(%d)", s.room)
	}
	return s.kind
}

// run performs the read with c and returns the value as text, an empty slice like a nil one.
func (s step) run(c *Cursor) string {
	switch s.kind {
	case "num":
		return fmt.Sprint(c.Num(s.most))
	case "byte":
		return fmt.Sprint(c.Byte())
	case "name":
		return fmt.Sprint(c.Name())
	}
	return fmt.Sprint(c.Bytes(s.room))
}

// expect is the chapter once more: the value of the read as text, what remains, and the error.
func (s step) expect(b []byte) (string, []byte, api.Errno) {
	switch s.kind {
	case "num":
		x, n, err := pack.Unvar(b)
		if err != api.OK {
			return "0", b, err
		}
		if x > s.most {
			return "0", b, api.ErrRange
		}
		return fmt.Sprint(x), b[n:], api.OK
	case "byte":
		if len(b) == 0 {
			return "0", b, api.ErrShort
		}
		return fmt.Sprint(b[0]), b[1:], api.OK
	case "name":
		return expectName(b)
	}
	return expectBytes(b, s.room)
}

func expectName(b []byte) (string, []byte, api.Errno) {
	zero := fmt.Sprint(api.Name{})
	if len(b) == 0 {
		return zero, b, api.ErrShort
	}
	n := int(b[0])
	if n > 8 {
		return zero, b, api.ErrForm
	}
	if len(b)-1 < n {
		return zero, b, api.ErrShort
	}
	text := string(b[1 : 1+n])
	if text != "" && !form.MatchString(text) {
		return zero, b, api.ErrForm
	}
	return fmt.Sprint(padded(text)), b[1+n:], api.OK
}

func expectBytes(b []byte, most int) (string, []byte, api.Errno) {
	if most < 0 {
		most = 0
	}
	n, size, err := pack.Unvar(b)
	if err != api.OK {
		return "[]", b, err
	}
	if n > uint64(most) {
		return "[]", b, api.ErrRange
	}
	if n > uint64(len(b)-size) {
		return "[]", b, api.ErrShort
	}
	end := size + int(n)
	return fmt.Sprint(b[size:end]), b[end:], api.OK
}

// checkSteps performs the reads on b and holds each value, and what Left, Err and Done return, against the chapter.
func checkSteps(t *testing.T, b []byte, steps ...step) {
	t.Helper()
	c, rest, kept := From(b), b, api.OK
	for i, s := range steps {
		want, after, err := s.expect(rest)
		if kept != api.OK {
			want = s.zero()
		} else {
			rest, kept = after, err
		}
		left, done := len(rest), kept
		if kept != api.OK {
			left = 0
		} else if left > 0 {
			done = api.ErrForm
		}
		if got := s.run(c); got != want || c.Left() != left || c.Err() != kept || c.Done() != done {
			t.Fatalf("%v of %v: read %d: %s, %d left, Err %v, Done %v, not %s, %d, %v, %v", steps, b, i, got, c.Left(), c.Err(), c.Done(), want, left, kept, done)
		}
	}
}

// zero is the value of a read that fails, as text.
func (s step) zero() string {
	value, _, _ := s.expect(nil)
	return value
}

func num(most uint64) step { return step{kind: "num", most: most} }
func one() step            { return step{kind: "byte"} }
func short() step          { return step{kind: "name"} }
func some(room int) step   { return step{kind: "bytes", room: room} }

// allSteps are reads of each kind, with limits at both ends and around small values.
func allSteps() []step {
	return []step{
		num(0), num(1), num(2), num(128), num(math.MaxUint64),
		one(), short(),
		some(math.MinInt), some(-1), some(0), some(1), some(2), some(math.MaxInt),
	}
}

// texts calls yield with each string of at most most bytes that are in alphabet.
func texts(alphabet []byte, most int, yield func(b []byte)) {
	level := [][]byte{{}}
	for n := 0; ; n++ {
		for _, b := range level {
			yield(b)
		}
		if n == most {
			return
		}
		var next [][]byte
		for _, b := range level {
			for _, c := range alphabet {
				next = append(next, append(slices.Clone(b), c))
			}
		}
		level = next
	}
}

// checkFails: the first read of b returns zero and fails with want; so do all later reads, without another error.
func checkFails(t *testing.T, b []byte, s step, want api.Errno) {
	t.Helper()
	c := From(b)
	if got := s.run(c); got != s.zero() || c.Err() != want || c.Done() != want || c.Left() != 0 {
		t.Errorf("%v of %v: %s, Err %v, Done %v, %d left; not %v", s, few(b), got, c.Err(), c.Done(), c.Left(), want)
	}
	if len(c.rest) != len(b) {
		t.Errorf("%v of %v: the failed read consumed %d bytes", s, few(b), len(b)-len(c.rest))
	}
	for _, later := range allSteps() {
		if got := later.run(c); got != later.zero() || c.Err() != want || c.Left() != 0 || len(c.rest) != len(b) {
			t.Errorf("%v of %v, then %v: %s, %v, not %v", s, few(b), later, got, c.Err(), want)
		}
	}
}

// checkReads: the first read of b returns want and leaves left bytes.
func checkReads(t *testing.T, b []byte, s step, want string, left int) {
	t.Helper()
	c := From(b)
	if got := s.run(c); got != want || c.Err() != api.OK || c.Left() != left {
		t.Errorf("%v of %v: %s, Err %v, %d left; not %s, %d left", s, few(b), got, c.Err(), c.Left(), want, left)
	}
}

func TestP702Num(t *testing.T) {
	checkReads(t, []byte{172, 2, 2, 97, 98}, num(300), "300", 3)
	checkReads(t, []byte{172, 2}, num(301), "300", 0)
	checkFails(t, []byte{172, 2, 2, 97, 98}, num(299), api.ErrRange)
	checkReads(t, []byte{0}, num(0), "0", 0)
	checkFails(t, []byte{1}, num(0), api.ErrRange)
	checkFails(t, []byte{7, 1}, num(6), api.ErrRange)
	checkFails(t, nil, num(math.MaxUint64), api.ErrShort)
	checkFails(t, []byte{}, num(0), api.ErrShort)
	checkFails(t, []byte{128}, num(math.MaxUint64), api.ErrShort)
	checkFails(t, []byte{255, 255, 255}, num(0), api.ErrShort)
	checkFails(t, []byte{128, 0}, num(math.MaxUint64), api.ErrForm)
	// The error of the varint comes ahead of that of the limit.
	checkFails(t, []byte{255, 128, 0, 5}, num(0), api.ErrForm)
	checkFails(t, []byte{255, 255, 255, 255, 255, 255, 255, 255, 255, 2}, num(0), api.ErrBig)
	checkFails(t, bytes.Repeat([]byte{128}, 10), num(0), api.ErrBig)
	checkFails(t, bytes.Repeat([]byte{128}, 9), num(0), api.ErrShort)
	checkFails(t, bytes.Repeat([]byte{128}, 1000), num(math.MaxUint64), api.ErrBig)
	checkReads(t, []byte{255, 255, 255, 255, 255, 255, 255, 255, 255, 1, 0}, num(math.MaxUint64), "18446744073709551615", 1)
	checkFails(t, []byte{255, 255, 255, 255, 255, 255, 255, 255, 255, 1}, num(math.MaxUint64-1), api.ErrRange)
	for _, x := range numbers() {
		b := append(binary.AppendUvarint(nil, x), 200, 0)
		checkReads(t, b, num(x), fmt.Sprint(x), 2)
		checkReads(t, b, num(math.MaxUint64), fmt.Sprint(x), 2)
		if x > 0 {
			checkFails(t, b, num(x-1), api.ErrRange)
			checkFails(t, b, num(0), api.ErrRange)
		}
	}
}

func TestP702Byte(t *testing.T) {
	checkFails(t, nil, one(), api.ErrShort)
	checkFails(t, []byte{}, one(), api.ErrShort)
	for c := range 256 {
		checkReads(t, []byte{byte(c)}, one(), fmt.Sprint(c), 0)
		checkReads(t, []byte{byte(c), 7, 8}, one(), fmt.Sprint(c), 2)
	}
}

func TestP702Name(t *testing.T) {
	checkFails(t, nil, short(), api.ErrShort)
	checkReads(t, []byte{0}, short(), fmt.Sprint(api.Name{}), 0)
	checkReads(t, []byte{0, 'a'}, short(), fmt.Sprint(api.Name{}), 1)
	for _, s := range names() {
		b := append([]byte{byte(len(s))}, s...)
		checkReads(t, b, short(), fmt.Sprint(padded(s)), 0)
		checkReads(t, append(slices.Clone(b), 'a', 0), short(), fmt.Sprint(padded(s)), 2)
		for n := range len(s) {
			checkFails(t, b[:1+n], short(), api.ErrShort)
		}
	}
	// The length is checked ahead of what follows it, and is a byte rather than a varint.
	for n := api.MaxName + 1; n < 256; n++ {
		checkFails(t, []byte{byte(n)}, short(), api.ErrForm)
		checkFails(t, append([]byte{byte(n)}, strings.Repeat("a", 300)...), short(), api.ErrForm)
	}
	checkFails(t, []byte{129, 0, 'a'}, short(), api.ErrForm)
	// That bytes are missing is said ahead of what the others are.
	checkFails(t, []byte{8, '9'}, short(), api.ErrShort)
	checkFails(t, []byte{2, 0}, short(), api.ErrShort)
	for _, s := range []string{"9", "-", "A", " ", "\x00", "\xff", "9a", "-a", "aB", "a ", "a\x00", "\x00a", "a\x00b", "a_", "\x00\x00", "abcdefgH", "abcdefg\x00", "a\x00\x00\x00\x00\x00\x00\x00", "abcd\x00fgh", "é"} {
		checkFails(t, append([]byte{byte(len(s))}, s...), short(), api.ErrForm)
		checkFails(t, append([]byte{byte(len(s))}, s+"a"...), short(), api.ErrForm)
	}
}

// TestP702NameBytes: each byte at each place of names of each length.
func TestP702NameBytes(t *testing.T) {
	for n := 1; n <= api.MaxName; n++ {
		for place := range n {
			for c := range 256 {
				b := append([]byte{byte(n)}, "k-9zq0-a"[:n]...)
				b[1+place] = byte(c)
				checkSteps(t, append(b, 1, 'a'), short(), short())
			}
		}
	}
}

func TestP702Bytes(t *testing.T) {
	checkReads(t, []byte{0}, some(0), "[]", 0)
	checkReads(t, []byte{0, 9}, some(5), "[]", 1)
	checkReads(t, []byte{2, 1, 2}, some(2), "[1 2]", 0)
	checkReads(t, []byte{2, 1, 2, 3}, some(9), "[1 2]", 1)
	checkFails(t, []byte{2, 1, 2}, some(1), api.ErrRange)
	checkFails(t, []byte{2, 1, 2}, some(0), api.ErrRange)
	checkFails(t, []byte{2, 1}, some(2), api.ErrShort)
	checkFails(t, []byte{2}, some(math.MaxInt), api.ErrShort)
	// The limit of the length comes ahead of the bytes that are missing.
	checkFails(t, []byte{3, 1}, some(2), api.ErrRange)
	checkFails(t, nil, some(9), api.ErrShort)
	checkFails(t, []byte{129}, some(9), api.ErrShort)
	checkFails(t, []byte{129, 0, 1}, some(9), api.ErrForm)
	checkFails(t, bytes.Repeat([]byte{255}, 12), some(9), api.ErrBig)
	for _, most := range []int{-1, -2, -256, math.MinInt, math.MinInt + 1} {
		checkReads(t, []byte{0, 7}, some(most), "[]", 1)
		checkFails(t, []byte{1, 7}, some(most), api.ErrRange)
		checkFails(t, nil, some(most), api.ErrShort)
		checkFails(t, append(binary.AppendUvarint(nil, math.MaxUint64), 7), some(most), api.ErrRange)
		checkFails(t, append(binary.AppendUvarint(nil, 1<<63), 7), some(most), api.ErrRange)
	}
	// Lengths beyond every slice, and beyond every int.
	checkFails(t, append(binary.AppendUvarint(nil, math.MaxInt), 7), some(math.MaxInt), api.ErrShort)
	checkFails(t, append(binary.AppendUvarint(nil, math.MaxInt), 7), some(math.MaxInt-1), api.ErrRange)
	checkFails(t, append(binary.AppendUvarint(nil, 1<<32+1), 7), some(math.MaxInt), api.ErrShort)
	checkFails(t, append(binary.AppendUvarint(nil, 1<<63), 7), some(math.MaxInt), api.ErrRange)
	checkFails(t, append(binary.AppendUvarint(nil, math.MaxUint64), 7), some(math.MaxInt), api.ErrRange)
}

func TestP702BytesLengths(t *testing.T) {
	for _, n := range lengths() {
		b := append(long(pattern(n)), 7)
		for _, most := range []int{n, n + 1, math.MaxInt} {
			c := From(b)
			if got := c.Bytes(most); !bytes.Equal(got, pattern(n)) || c.Left() != 1 || c.Byte() != 7 || c.Done() != api.OK {
				t.Errorf("Bytes(%d) of %d: %d bytes, %d left, %v", most, n, len(got), c.Left(), c.Done())
			}
		}
		if n > 0 {
			checkFails(t, b, some(n-1), api.ErrRange)
			checkFails(t, b[:len(b)-2], some(n), api.ErrShort)
		}
	}
}

// TestP702ShortTexts: all pairs of reads of all short byte strings.
func TestP702ShortTexts(t *testing.T) {
	texts([]byte{0, 1, 2, 9, 'a', '-', 128, 255}, 3, func(b []byte) {
		for _, first := range allSteps() {
			for _, second := range allSteps() {
				checkSteps(t, b, first, second)
			}
		}
	})
	texts([]byte{0, 1, 3, 'a', '0', 129}, 5, func(b []byte) {
		for _, first := range allSteps() {
			checkSteps(t, b, first, short(), some(math.MaxInt), num(math.MaxUint64), one(), one())
		}
	})
}

// TestP702LongTexts: many reads of longer byte strings, most of which are not what the reads look for.
func TestP702LongTexts(t *testing.T) {
	next := dice(2)
	all := allSteps()
	for range 20000 {
		b := make([]byte, next()%40)
		for i := range b {
			b[i] = byte(next() >> (next() % 60))
			if next()%2 == 0 {
				b[i] %= 5
			}
			if next()%3 == 0 {
				b[i] = 'a' + b[i]%26
			}
		}
		steps := make([]step, 12)
		for i := range steps {
			steps[i] = all[next()%uint64(len(all))]
		}
		checkSteps(t, b, steps...)
	}
}

// TestP702Argument: the bytes of a cursor, and those behind them, are not modified, and the cursor does not read what they become.
func TestP702Argument(t *testing.T) {
	room := []byte{9, 2, 1, 2, 1, 'a', 5, 9}
	c := From(room[1:7])
	first := c.Bytes(9)
	grown := append(first, 250)
	if got := c.Name(); got != (api.Name{'a'}) {
		t.Errorf("Name behind appended bytes: %v, %v", got, c.Err())
	}
	if !bytes.Equal(grown, []byte{1, 2, 250}) || !bytes.Equal(room, []byte{9, 2, 1, 2, 1, 'a', 5, 9}) {
		t.Errorf("appended: %v, argument: %v", grown, room)
	}
	room[2], room[6] = 70, 71
	if got := c.Byte(); got != 5 || !bytes.Equal(first, []byte{1, 2}) {
		t.Errorf("after the argument was changed: %v, %v", got, first)
	}
	// What lies behind the bytes that were given belongs to nobody.
	if c.Left() != 0 || c.Byte() != 0 || c.Err() != api.ErrShort {
		t.Errorf("read beyond the end: %v", c.Err())
	}
	d := From(room[:1])
	if got := d.Bytes(9); len(got) != 0 || d.Err() != api.ErrShort {
		t.Errorf("Bytes beyond the end: %v, %v", got, d.Err())
	}
}

// TestP702Apart: cursors of the same bytes do not know each other.
func TestP702Apart(t *testing.T) {
	b := []byte{1, 2, 3}
	c, d := From(b), From(b)
	c.Byte()
	c.Fail(api.ErrFull)
	if d.Left() != 3 || d.Err() != api.OK || d.Byte() != 1 {
		t.Errorf("another cursor: %d left, %v", d.Left(), d.Err())
	}
}

// errnos are all errors, and numbers that none of them has.
func errnos() []api.Errno {
	l := []api.Errno{-1, 16, math.MinInt, math.MaxInt}
	for e := api.ErrArg; e <= api.ErrBig; e++ {
		l = append(l, e)
	}
	return l
}

func TestP703Fail(t *testing.T) {
	for _, e := range errnos() {
		c := From([]byte{1, 2, 3})
		c.Byte()
		c.Fail(api.OK)
		if c.Err() != api.OK || c.Left() != 2 || c.Byte() != 2 {
			t.Errorf("after Fail(OK): %v, %d left", c.Err(), c.Left())
		}
		c.Fail(e)
		if c.Err() != e || c.Done() != e || c.Left() != 0 {
			t.Errorf("after Fail(%v): Err %v, Done %v, %d left", e, c.Err(), c.Done(), c.Left())
		}
		for _, s := range allSteps() {
			if got := s.run(c); got != s.zero() || c.Err() != e || c.Left() != 0 {
				t.Errorf("%v after Fail(%v): %s, %v", s, e, got, c.Err())
			}
		}
		for _, other := range append(errnos(), api.OK) {
			c.Fail(other)
			if c.Err() != e || c.Done() != e {
				t.Errorf("Fail(%v), Fail(%v): Err %v, Done %v", e, other, c.Err(), c.Done())
			}
		}
	}
}

// TestP703FailAfterRead: the error of a read that failed stays, and Fail at the end of the bytes counts as well.
func TestP703FailAfterRead(t *testing.T) {
	c := From([]byte{7})
	c.Num(6)
	c.Fail(api.ErrBusy)
	c.Fail(api.OK)
	if c.Err() != api.ErrRange || c.Done() != api.ErrRange {
		t.Errorf("Num beyond its limit, then Fail: %v, %v", c.Err(), c.Done())
	}
	d := From(nil)
	d.Fail(api.ErrStale)
	if d.Err() != api.ErrStale || d.Done() != api.ErrStale || d.Left() != 0 {
		t.Errorf("Fail at the end: %v, %v", d.Err(), d.Done())
	}
}

// TestP703LeftErrDone: what Done returns is not kept, so that the bytes that remain can still be read.
func TestP703LeftErrDone(t *testing.T) {
	for n := range 300 {
		c := From(make([]byte, n))
		for left := n; left > 0; left-- {
			if c.Left() != left || c.Err() != api.OK || c.Done() != api.ErrForm {
				t.Fatalf("%d of %d: %d left, Err %v, Done %v", left, n, c.Left(), c.Err(), c.Done())
			}
			c.Byte()
		}
		if c.Left() != 0 || c.Err() != api.OK || c.Done() != api.OK {
			t.Errorf("at the end of %d: %d left, Err %v, Done %v", n, c.Left(), c.Err(), c.Done())
		}
		c.Byte()
		if c.Left() != 0 || c.Err() != api.ErrShort || c.Done() != api.ErrShort {
			t.Errorf("beyond the end of %d: %d left, Err %v, Done %v", n, c.Left(), c.Err(), c.Done())
		}
	}
}

func TestP704NilWriter(t *testing.T) {
	var w *Writer
	w.Num(300)
	w.Byte(1)
	w.Name(api.Name{'a'})
	w.Name(api.Name{})
	w.Bytes([]byte{1, 2})
	w.Bytes(nil)
	if out := w.Out(); len(out) != 0 {
		t.Errorf("Out of a nil writer: %v", out)
	}
}

func TestP704NilCursor(t *testing.T) {
	var c *Cursor
	check := func() {
		t.Helper()
		if c.Left() != 0 || c.Err() != api.ErrArg || c.Done() != api.ErrArg {
			t.Errorf("a nil cursor: %d left, Err %v, Done %v", c.Left(), c.Err(), c.Done())
		}
	}
	check()
	for _, s := range allSteps() {
		if got := s.run(c); got != s.zero() {
			t.Errorf("%v of a nil cursor: %s", s, got)
		}
		check()
	}
	for _, e := range append(errnos(), api.OK) {
		c.Fail(e)
		check()
	}
}

// written is a value that was written, and the read that returns it.
type written struct {
	value string
	step  step
}

// writeSome writes a value that next selects.
func writeSome(w *Writer, next func() uint64) written {
	switch next() % 4 {
	case 0:
		x := next() >> (next() % 64)
		w.Num(x)
		return written{fmt.Sprint(x), num(x + next()%2*(math.MaxUint64-x))}
	case 1:
		c := byte(next())
		w.Byte(c)
		return written{fmt.Sprint(c), one()}
	case 2:
		n := padded(append(names(), "")[next()%uint64(len(names())+1)])
		w.Name(n)
		return written{fmt.Sprint(n), short()}
	}
	b := pattern(int(next() % 200))
	w.Bytes(b)
	return written{fmt.Sprint(b), some(len(b) + int(next()%2))}
}

// TestP704Inverse: reading returns the values that were written; from fewer bytes it does not.
func TestP704Inverse(t *testing.T) {
	next := dice(3)
	for range 3000 {
		w := New()
		var all []written
		for range next() % 20 {
			all = append(all, writeSome(w, next))
		}
		c := From(w.Out())
		for i, v := range all {
			if got := v.step.run(c); got != v.value || c.Err() != api.OK {
				t.Fatalf("value %d of %d: %v: %s, %v, not %s", i, len(all), v.step, got, c.Err(), v.value)
			}
		}
		if c.Done() != api.OK {
			t.Fatalf("Done after %d values: %v", len(all), c.Done())
		}
		if out := w.Out(); len(out) > 0 {
			d := From(out[:len(out)-1])
			for _, v := range all {
				v.step.run(d)
			}
			if d.Err() != api.ErrShort {
				t.Fatalf("without the last byte: %v", d.Err())
			}
		}
	}
}

// TestP704Names: of arrays that are not names, those come back whose text is one or is empty, as their text.
func TestP704Names(t *testing.T) {
	for place := range api.MaxName {
		for c := range 256 {
			n := padded("k-9zq0-a")
			n[place] = byte(c)
			w := New()
			w.Name(n)
			text, _, _ := strings.Cut(string(n[:]), "\x00")
			want, wantErr := padded(text), api.OK
			if text != "" && !form.MatchString(text) {
				want, wantErr = api.Name{}, api.ErrForm
			}
			r := From(w.Out())
			if got := r.Name(); got != want || r.Done() != wantErr {
				t.Errorf("%v came back as %v, %v", n, got, r.Done())
			}
		}
	}
}

func TestP704Numbers(t *testing.T) {
	w := New()
	for _, x := range numbers() {
		w.Num(x)
	}
	for _, n := range lengths() {
		w.Bytes(pattern(n))
	}
	c := From(w.Out())
	for _, x := range numbers() {
		if got := c.Num(x); got != x {
			t.Fatalf("Num: %d, not %d, %v", got, x, c.Err())
		}
	}
	for _, n := range lengths() {
		if got := c.Bytes(n); !bytes.Equal(got, pattern(n)) {
			t.Fatalf("Bytes: %d, not %d, %v", len(got), n, c.Err())
		}
	}
	if c.Done() != api.OK {
		t.Errorf("Done: %v", c.Done())
	}
}

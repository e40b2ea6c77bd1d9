package atom

import (
	"bytes"
	"encoding/binary"
	"math"
	"math/big"
	"regexp"
	"slices"
	"testing"

	"handcart/api"
	"handcart/key"
	"handcart/mix"
	"handcart/pack"
	"handcart/wire"
)

// form is chapter 6's definition of a name, padded with zero bytes, as an expression.
var form = regexp.MustCompile(`\A[a-z][a-z0-9-]{0,7}\x00*\z`)

// dice returns a function whose results have no pattern, but are the same in each run.
func dice(seed uint64) func() uint64 {
	x := 88172645463325252 + seed
	return func() uint64 {
		x ^= x << 13
		x ^= x >> 7
		x ^= x << 17
		return x
	}
}

// padded returns s in an api.Name.
func padded(s string) api.Name {
	var n api.Name
	copy(n[:], s)
	return n
}

func tag(cart uint16, item string, rep uint8, seq uint32) api.Key {
	return api.Key{Sort: api.Tag, Cart: cart, Item: padded(item), Rep: rep, Seq: seq}
}

func half(sort uint8, cart uint16, item string, rep uint8) api.Key {
	return api.Key{Sort: sort, Cart: cart, Item: padded(item), Rep: rep}
}

func note(cart uint16) api.Key {
	return api.Key{Sort: api.Note, Cart: cart}
}

func val(n uint64, text string) api.Val {
	return api.Val{N: n, Text: padded(text)}
}

// texts are names of several lengths, the empty one, and arrays that are not names.
func texts() []api.Name {
	var l []api.Name
	for _, s := range []string{"", "a", "z", "a-", "a9", "hi", "abcdefgh", "zzzzzzzz", "9", "-a", "A", "a ", "\x00a", "a\x00b", "\x00\x00\x00\x00\x00\x00\x00\x01", "abcdefgH", "\xff\xff\xff\xff\xff\xff\xff\xff"} {
		l = append(l, padded(s))
	}
	return l
}

// vals have numbers at and around each bound of each sort, with each of the texts.
func vals() []api.Val {
	numbers := []uint64{
		0, 1, 2, 3, 15, 16, 17, 127, 128, 255,
		256, 257, 271, 272, 511, 512, 5<<8 + 3, 1283 + 128,
		1<<31 - 1, 1 << 31, 1<<32 - 2, 1<<32 - 1, 1 << 32, 1<<32 + 1, 1<<32 + 256,
		1<<40 - 256, 1<<40 - 241, 1<<40 - 240, 1<<40 - 1, 1 << 40, 1<<40 + 1, 1<<40 + 256, 1<<40 + 1<<32,
		1 << 63, 1<<63 + 1, 1<<63 + 256, math.MaxUint64 - 1, math.MaxUint64,
	}
	var l []api.Val
	for _, n := range numbers {
		for _, text := range texts() {
			l = append(l, api.Val{N: n, Text: text})
		}
	}
	return l
}

// keys are some of each sort, valid and not.
func keys() []api.Key {
	return []api.Key{
		tag(1, "a", 2, 3), tag(0, "a", 0, 1), tag(65535, "abcdefgh", 15, math.MaxUint32),
		half(api.Plus, 1, "a", 2), half(api.Plus, 0, "zzzzzzzz", 15), half(api.Plus, 300, "a-9", 0),
		half(api.Minus, 1, "a", 2), half(api.Minus, 65535, "z", 0), half(api.Minus, 127, "cup", 15),
		note(0), note(9), note(128), note(65535),
		{}, {Sort: 5}, {Sort: 5, Cart: 1, Item: padded("a"), Seq: 1}, {Sort: 255}, {Sort: 128, Item: padded("a")},
		tag(1, "a", 2, 0), tag(1, "a", 16, 3), tag(1, "", 2, 3), tag(1, "A", 2, 3),
		half(api.Plus, 1, "", 2), half(api.Plus, 1, "a", 16), {Sort: api.Plus, Item: padded("a"), Seq: 1},
		half(api.Minus, 1, "9", 2), half(api.Minus, 1, "a", 255), {Sort: api.Minus, Item: padded("a"), Seq: 1},
		{Sort: api.Note, Item: padded("a")}, {Sort: api.Note, Rep: 1}, {Sort: api.Note, Seq: 1},
	}
}

// atoms are all keys with all values.
func atoms() []api.Atom {
	var l []api.Atom
	for _, k := range keys() {
		for _, v := range vals() {
			l = append(l, api.Atom{K: k, V: v})
		}
	}
	return l
}

// isVal is the chapter's definition of a value of a sort once more.
func isVal(sort uint8, v api.Val) bool {
	empty := v.Text == api.Name{}
	switch sort {
	case 1:
		return (v.N == 1 || v.N == 2) && empty
	case 2, 3:
		return v.N >= 1 && v.N <= 4294967295 && empty
	case 4:
		s, r := v.N/256, v.N%256
		return s >= 1 && s <= 4294967295 && r < 16 && (empty || form.Match(v.Text[:]))
	}
	return false
}

// isAtom is the chapter's definition of a valid atom once more.
func isAtom(a api.Atom) bool {
	return key.Right(a.K) && isVal(a.K.Sort, a.V)
}

// validAtoms are the valid ones of atoms.
func validAtoms() []api.Atom {
	return slices.DeleteFunc(atoms(), func(a api.Atom) bool { return !isAtom(a) })
}

func TestP901Right(t *testing.T) {
	for _, c := range []struct {
		k    api.Key
		v    api.Val
		want bool
	}{
		{tag(1, "a", 2, 3), val(1, ""), true},
		{tag(1, "a", 2, 3), val(2, ""), true},
		{tag(1, "a", 2, 3), val(0, ""), false},
		{tag(1, "a", 2, 3), val(3, ""), false},
		{tag(1, "a", 2, 3), val(257, ""), false},
		{tag(1, "a", 2, 3), val(1<<32+1, ""), false},
		{tag(1, "a", 2, 3), val(math.MaxUint64, ""), false},
		{tag(1, "a", 2, 3), val(1, "a"), false},
		{tag(1, "a", 2, 3), val(2, "\x00\x00\x00\x00\x00\x00\x00\x01"), false},
		{half(api.Plus, 1, "a", 2), val(1, ""), true},
		{half(api.Minus, 1, "a", 2), val(1, ""), true},
		{half(api.Plus, 1, "a", 2), val(3, ""), true},
		{half(api.Minus, 1, "a", 2), val(3, ""), true},
		{half(api.Plus, 1, "a", 2), val(1<<32-1, ""), true},
		{half(api.Minus, 1, "a", 2), val(1<<32-1, ""), true},
		{half(api.Plus, 1, "a", 2), val(0, ""), false},
		{half(api.Minus, 1, "a", 2), val(0, ""), false},
		{half(api.Plus, 1, "a", 2), val(1<<32, ""), false},
		{half(api.Minus, 1, "a", 2), val(1<<32, ""), false},
		{half(api.Plus, 1, "a", 2), val(1, "a"), false},
		{half(api.Minus, 1, "a", 2), val(1, "a"), false},
		{half(api.Plus, 1, "a", 2), val(1, "\x00a"), false},
		{half(api.Minus, 1, "a", 2), val(1, "\x00a"), false},
		{note(9), val(256, ""), true},
		{note(9), val(256, "a"), true},
		{note(9), val(271, "abcdefgh"), true},
		{note(9), val(1<<40-241, "hi"), true},
		{note(9), val(1<<40-241, ""), true},
		{note(9), val(0, ""), false},
		{note(9), val(1, ""), false},
		{note(9), val(15, "a"), false},
		{note(9), val(255, ""), false},
		{note(9), val(272, ""), false},
		{note(9), val(511, "a"), false},
		{note(9), val(1<<40-240, ""), false},
		{note(9), val(1<<40-1, ""), false},
		{note(9), val(1<<40, ""), false},
		{note(9), val(1<<40+256, ""), false},
		{note(9), val(1<<63+256, "a"), false},
		{note(9), val(256, "A"), false},
		{note(9), val(256, "9"), false},
		{note(9), val(256, "\x00a"), false},
		{note(9), val(256, "a\x00b"), false},
		{note(9), val(256, "abcdefgH"), false},
		{tag(1, "a", 2, 0), val(1, ""), false},
		{tag(1, "", 2, 3), val(1, ""), false},
		{tag(1, "a", 16, 3), val(1, ""), false},
		{half(api.Plus, 1, "", 2), val(1, ""), false},
		{half(api.Minus, 1, "a", 16), val(1, ""), false},
		{api.Key{Sort: api.Note, Rep: 1}, val(256, ""), false},
		{api.Key{}, val(1, ""), false},
		{api.Key{}, api.Val{}, false},
		{api.Key{Sort: 5}, val(1, ""), false},
		{api.Key{Sort: 255}, val(256, ""), false},
	} {
		if got := Right(api.Atom{K: c.k, V: c.v}); got != c.want {
			t.Errorf("Right %v, %v: %v", c.k, c.v, got)
		}
	}
	for _, a := range atoms() {
		if got := Right(a); got != isAtom(a) {
			t.Errorf("Right %v: %v", a, got)
		}
	}
}

// TestP901RightEach: all sorts, all small numbers, and each byte at each place of a text.
func TestP901RightEach(t *testing.T) {
	for sort := range 256 {
		for _, k := range []api.Key{{Sort: uint8(sort)}, {Sort: uint8(sort), Item: padded("a")}, {Sort: uint8(sort), Item: padded("a"), Seq: 1}} {
			for n := range uint64(1100) {
				a := api.Atom{K: k, V: api.Val{N: n}}
				if got := Right(a); got != isAtom(a) {
					t.Errorf("Right %v: %v", a, got)
				}
			}
		}
	}
	for _, k := range []api.Key{tag(1, "a", 2, 3), half(api.Plus, 1, "a", 2), half(api.Minus, 1, "a", 2), note(1)} {
		for _, text := range []string{"", "a", "a-b9", "abcdefgh"} {
			for place := range api.MaxName {
				for c := range 256 {
					for _, n := range []uint64{1, 256} {
						a := api.Atom{K: k, V: val(n, text)}
						a.V.Text[place] = byte(c)
						if got := Right(a); got != isAtom(a) {
							t.Errorf("Right %v: %v", a, got)
						}
					}
				}
			}
		}
	}
}

// TestP901RightBits: the numbers of one and of two bits, as values of each sort.
func TestP901RightBits(t *testing.T) {
	for _, k := range []api.Key{tag(1, "a", 2, 3), half(api.Plus, 1, "a", 2), half(api.Minus, 1, "a", 2), note(1)} {
		for i := range 64 {
			for j := range 64 {
				for _, n := range []uint64{1<<i | 1<<j, 1<<i - 1<<j, 1<<i + 256, 1<<i + 1} {
					a := api.Atom{K: k, V: api.Val{N: n}}
					if got := Right(a); got != isAtom(a) {
						t.Errorf("Right %v: %v", a, got)
					}
				}
			}
		}
	}
}

// rank is the place of a value in the order: its number, then that of its text, as one number of any size.
func rank(v api.Val) *big.Int {
	r := new(big.Int).SetUint64(v.N)
	r.Lsh(r, 64)
	return r.Add(r, new(big.Int).SetBytes(v.Text[:]))
}

func TestP901Over(t *testing.T) {
	// Each value is over those ahead of it, and over itself, only.
	order := []api.Val{
		{},
		val(0, "\x00\x00\x00\x00\x00\x00\x00\x01"),
		val(0, "a"),
		val(0, "\xff\xff\xff\xff\xff\xff\xff\xff"),
		val(1, ""),
		val(1, "\x00a"),
		val(1, "9"),
		val(1, "a"),
		val(1, "a\x00b"),
		val(1, "a-"),
		val(1, "aa"),
		val(1, "b"),
		val(1, "zzzzzzzz"),
		val(2, ""),
		val(255, "z"),
		val(256, "a"),
		val(257, ""),
		val(1<<32-1, "b"),
		val(1<<32, "a"),
		val(1<<40-1, ""),
		val(1<<63-1, "z"),
		val(1<<63, ""),
		val(math.MaxUint64, ""),
		val(math.MaxUint64, "\xff\xff\xff\xff\xff\xff\xff\xff"),
	}
	for i, x := range order {
		for j, y := range order {
			if got := Over(x, y); got != (i >= j) {
				t.Errorf("Over %v, %v: %v", x, y, got)
			}
			if got := More(x, y); got != order[max(i, j)] {
				t.Errorf("More %v, %v: %v", x, y, got)
			}
		}
	}
}

func TestP901More(t *testing.T) {
	for _, c := range []struct{ x, y, want api.Val }{
		{val(1, ""), val(3, ""), val(3, "")},
		{val(3, ""), val(1, "z"), val(3, "")},
		{val(1, "a"), val(1, "b"), val(1, "b")},
		{val(1, "b"), val(1, "a"), val(1, "b")},
		{val(1, "a"), val(1, ""), val(1, "a")},
		{val(7, "a"), val(7, "a"), val(7, "a")},
		{api.Val{}, api.Val{}, api.Val{}},
	} {
		if got := More(c.x, c.y); got != c.want {
			t.Errorf("More %v, %v: %v, not %v", c.x, c.y, got, c.want)
		}
	}
	for _, x := range vals() {
		for _, y := range vals() {
			over, more := rank(x).Cmp(rank(y)) >= 0, y
			if over {
				more = x
			}
			if got := Over(x, y); got != over {
				t.Fatalf("Over %v, %v: %v", x, y, got)
			}
			if got := More(x, y); got != more {
				t.Fatalf("More %v, %v: %v", x, y, got)
			}
		}
	}
}

func TestP902Stamp(t *testing.T) {
	for _, c := range []struct {
		n    uint32
		rep  uint8
		want uint64
	}{
		{0, 0, 0},
		{5, 3, 1283},
		{0, 15, 15},
		{0, 255, 255},
		{1, 0, 256},
		{1, 16, 272},
		{1 << 24, 0, 1 << 32},
		{1 << 31, 1, 1<<39 + 1},
		{math.MaxUint32, 15, 1<<40 - 241},
		{math.MaxUint32, 255, 1<<40 - 1},
	} {
		if got := Stamp(c.n, c.rep); got != c.want {
			t.Errorf("Stamp %d, %d: %d, not %d", c.n, c.rep, got, c.want)
		}
	}
	for i := range 32 {
		for _, n := range []uint32{1 << i, 1<<i - 1, -(1 << i)} {
			for rep := range 256 {
				if got := Stamp(n, uint8(rep)); got != uint64(n)*256+uint64(rep) {
					t.Errorf("Stamp %d, %d: %d", n, rep, got)
				}
			}
		}
	}
}

func TestP902Unstamp(t *testing.T) {
	for _, c := range []struct {
		x   uint64
		n   uint32
		rep uint8
	}{
		{0, 0, 0},
		{1283, 5, 3},
		{255, 0, 255},
		{256, 1, 0},
		{1<<39 + 1, 1 << 31, 1},
		{1<<40 - 1, math.MaxUint32, 255},
		{1 << 40, 0, 0},
		{1<<40 + 1<<8 + 16, 1, 16},
		{1 << 63, 0, 0},
		{math.MaxUint64, math.MaxUint32, 255},
	} {
		if n, rep := Unstamp(c.x); n != c.n || rep != c.rep {
			t.Errorf("Unstamp %d: %d, %d, not %d, %d", c.x, n, rep, c.n, c.rep)
		}
	}
	next := dice(9)
	for i := range 64 {
		for _, x := range []uint64{1 << i, 1<<i - 1, -(1 << i), next(), next() >> i, next() << i} {
			n, rep := Unstamp(x)
			if uint64(n) != x/256%4294967296 || uint64(rep) != x%256 {
				t.Errorf("Unstamp %d: %d, %d", x, n, rep)
			}
			if again, same := Unstamp(Stamp(n, rep)); again != n || same != rep {
				t.Errorf("Unstamp of Stamp %d, %d: %d, %d", n, rep, again, same)
			}
		}
	}
}

// keyBytes returns what key's Write writes.
func keyBytes(k api.Key) []byte {
	w := wire.New()
	key.Write(w, k)
	return w.Out()
}

// encoded is the chapter's encoding of a valid atom once more.
func encoded(a api.Atom) []byte {
	b := keyBytes(a.K)
	if a.K.Sort == 1 {
		return append(b, byte(a.V.N))
	}
	b = binary.AppendUvarint(b, a.V.N)
	if a.K.Sort == 4 {
		text := bytes.TrimRight(a.V.Text[:], "\x00")
		b = append(append(b, byte(len(text))), text...)
	}
	return b
}

// written returns what Write writes.
func written(a api.Atom) []byte {
	w := wire.New()
	Write(w, a)
	return w.Out()
}

// encodings are those of some atoms, written out.
func encodings() []struct {
	a api.Atom
	b []byte
} {
	return []struct {
		a api.Atom
		b []byte
	}{
		{api.Atom{K: tag(1, "a", 2, 3), V: val(1, "")}, []byte{1, 1, 1, 97, 2, 3, 1}},
		{api.Atom{K: tag(2, "a", 3, 300), V: val(2, "")}, []byte{1, 2, 1, 97, 3, 172, 2, 2}},
		{
			api.Atom{K: tag(65535, "abcdefgh", 15, math.MaxUint32), V: val(1, "")},
			[]byte{1, 255, 255, 3, 8, 97, 98, 99, 100, 101, 102, 103, 104, 15, 255, 255, 255, 255, 15, 1},
		},
		{api.Atom{K: half(api.Plus, 1, "a", 2), V: val(1, "")}, []byte{2, 1, 1, 97, 2, 1}},
		{api.Atom{K: half(api.Plus, 1, "a", 2), V: val(300, "")}, []byte{2, 1, 1, 97, 2, 172, 2}},
		{api.Atom{K: half(api.Plus, 0, "a-9", 0), V: val(1<<32-1, "")}, []byte{2, 0, 3, 97, 45, 57, 0, 255, 255, 255, 255, 15}},
		{api.Atom{K: half(api.Minus, 1, "a", 15), V: val(1, "")}, []byte{3, 1, 1, 97, 15, 1}},
		{api.Atom{K: half(api.Minus, 128, "z", 0), V: val(1<<32-1, "")}, []byte{3, 128, 1, 1, 122, 0, 255, 255, 255, 255, 15}},
		{api.Atom{K: note(9), V: val(5<<8+3, "hi")}, []byte{4, 9, 131, 10, 2, 104, 105}},
		{api.Atom{K: note(0), V: val(256, "")}, []byte{4, 0, 128, 2, 0}},
		{
			api.Atom{K: note(65535), V: val(1<<40-241, "abcdefgh")},
			[]byte{4, 255, 255, 3, 143, 254, 255, 255, 255, 31, 8, 97, 98, 99, 100, 101, 102, 103, 104},
		},
	}
}

func TestP903Write(t *testing.T) {
	for _, c := range encodings() {
		if got := written(c.a); !bytes.Equal(got, c.b) {
			t.Errorf("Write %v: %v, not %v", c.a, got, c.b)
		}
	}
	for _, a := range validAtoms() {
		if got := written(a); !bytes.Equal(got, encoded(a)) {
			t.Errorf("Write %v: %v, not %v", a, got, encoded(a))
		}
	}
}

// TestP903WriteAppends: Write appends to what was written, and ends without a panic for invalid atoms and a nil writer.
func TestP903WriteAppends(t *testing.T) {
	w := wire.New()
	w.Byte(9)
	want := []byte{9}
	for _, c := range encodings() {
		Write(w, c.a)
		want = append(want, c.b...)
	}
	if got := w.Out(); !bytes.Equal(got, want) {
		t.Errorf("Out: %v, not %v", got, want)
	}
	for _, a := range atoms() {
		Write(nil, a)
		Write(wire.New(), a)
	}
}

// expect is the chapter's reading once more: the atom and what remains, or the zero atom and the first error. How keys are read is left to key.
func expect(b []byte) (api.Atom, []byte, api.Errno) {
	c := wire.From(b)
	a := api.Atom{K: key.Read(c)}
	if c.Err() != api.OK {
		return api.Atom{}, nil, c.Err()
	}
	b = b[len(b)-c.Left():]
	if a.K.Sort == 1 {
		if len(b) == 0 {
			return api.Atom{}, nil, api.ErrShort
		}
		if b[0] < 1 || b[0] > 2 {
			return api.Atom{}, nil, api.ErrForm
		}
		a.V.N = uint64(b[0])
		return a, b[1:], api.OK
	}
	n, size, err := pack.Unvar(b)
	if err != api.OK {
		return api.Atom{}, nil, err
	}
	a.V.N, b = n, b[size:]
	if a.K.Sort == 4 {
		return expectLine(a, b)
	}
	if n > 4294967295 {
		return api.Atom{}, nil, api.ErrRange
	}
	if n == 0 {
		return api.Atom{}, nil, api.ErrForm
	}
	return a, b, api.OK
}

// expectLine goes on with the checks of a stamp, and with the text of a note.
func expectLine(a api.Atom, b []byte) (api.Atom, []byte, api.Errno) {
	if a.V.N > 1099511627775 {
		return api.Atom{}, nil, api.ErrRange
	}
	if a.V.N%256 >= 16 {
		return api.Atom{}, nil, api.ErrRange
	}
	if a.V.N/256 == 0 {
		return api.Atom{}, nil, api.ErrForm
	}
	if len(b) == 0 {
		return api.Atom{}, nil, api.ErrShort
	}
	n := int(b[0])
	if n > 8 {
		return api.Atom{}, nil, api.ErrForm
	}
	if len(b)-1 < n {
		return api.Atom{}, nil, api.ErrShort
	}
	text := b[1 : 1+n]
	a.V.Text = padded(string(text))
	// Zero bytes within the text would be hidden by the padding.
	if n > 0 && (!form.Match(a.V.Text[:]) || bytes.IndexByte(text, 0) >= 0) {
		return api.Atom{}, nil, api.ErrForm
	}
	return a, b[1+n:], api.OK
}

// checkRead holds a read of b against want, rest and err, and what the cursor says later.
func checkRead(t *testing.T, b []byte, want api.Atom, rest []byte, err api.Errno) {
	t.Helper()
	given := bytes.Clone(b)
	c := wire.From(b)
	if got := Read(c); got != want || c.Err() != err || c.Left() != len(rest) {
		t.Fatalf("Read %v: %v, %v, %d left, not %v, %v, %d left", b, got, c.Err(), c.Left(), want, err, len(rest))
	}
	if !bytes.Equal(b, given) {
		t.Fatalf("Read %v modified its bytes: %v", given, b)
	}
	if err == api.OK {
		for i, x := range rest {
			if got := c.Byte(); got != x {
				t.Fatalf("Read %v: byte %d behind it is %d, not %d", b, i, got, x)
			}
		}
		return
	}
	if got := Read(c); got != (api.Atom{}) || c.Byte() != 0 || c.Err() != err || c.Done() != err {
		t.Fatalf("Read %v again: %v, %v, not %v", b, got, c.Err(), err)
	}
}

// checkExpected holds a read of b against the second reading of the chapter.
func checkExpected(t *testing.T, b []byte) {
	t.Helper()
	a, rest, err := expect(b)
	checkRead(t, b, a, rest, err)
}

func TestP903Read(t *testing.T) {
	for _, c := range encodings() {
		checkRead(t, c.b, c.a, nil, api.OK)
		checkRead(t, append(slices.Clone(c.b), 1, 97, 255), c.a, []byte{1, 97, 255}, api.OK)
		for n := range c.b {
			checkRead(t, c.b[:n], api.Atom{}, nil, api.ErrShort)
		}
	}
}

// TestP903ReadErrors: each check fails by itself, and ahead of all that come after it.
func TestP903ReadErrors(t *testing.T) {
	for _, c := range []struct {
		b    []byte
		want api.Errno
	}{
		// The key has an error, which counts ahead of a wrong or missing value.
		{nil, api.ErrShort},
		{[]byte{0}, api.ErrForm},
		{[]byte{5, 1}, api.ErrForm},
		{[]byte{3}, api.ErrShort},
		{[]byte{4, 128, 128, 4, 16}, api.ErrRange},
		{[]byte{4, 128, 0, 16}, api.ErrForm},
		{[]byte{1, 1, 0, 2, 3, 1}, api.ErrForm},
		{[]byte{1, 1, 1, 97, 16, 3, 3}, api.ErrRange},
		{[]byte{2, 1, 1, 97, 16, 0}, api.ErrRange},
		{[]byte{3, 1, 1, 97, 16, 0}, api.ErrRange},
		{[]byte{1, 1, 1, 97, 2, 0, 1}, api.ErrForm},
		// The value of a tag is missing, or neither There nor Gone.
		{[]byte{1, 1, 1, 97, 2, 3}, api.ErrShort},
		{[]byte{1, 1, 1, 97, 2, 3, 0}, api.ErrForm},
		{[]byte{1, 1, 1, 97, 2, 3, 3}, api.ErrForm},
		{[]byte{1, 1, 1, 97, 2, 3, 129}, api.ErrForm},
		{[]byte{1, 1, 1, 97, 2, 3, 129, 0}, api.ErrForm},
		{[]byte{1, 1, 1, 97, 2, 3, 255}, api.ErrForm},
		// The number of a half is cut off, written in a longer way, above its limit, or 0.
		{[]byte{2, 1, 1, 97, 2}, api.ErrShort},
		{[]byte{3, 1, 1, 97, 2}, api.ErrShort},
		{[]byte{2, 1, 1, 97, 2, 128}, api.ErrShort},
		{[]byte{3, 1, 1, 97, 2, 128}, api.ErrShort},
		{[]byte{2, 1, 1, 97, 2, 129, 0}, api.ErrForm},
		{[]byte{3, 1, 1, 97, 2, 129, 0}, api.ErrForm},
		{[]byte{2, 1, 1, 97, 2, 128, 128, 128, 128, 16}, api.ErrRange},
		{[]byte{3, 1, 1, 97, 2, 128, 128, 128, 128, 16}, api.ErrRange},
		{[]byte{2, 1, 1, 97, 2, 255, 255, 255, 255, 255, 255, 255, 255, 255, 1}, api.ErrRange},
		{[]byte{2, 1, 1, 97, 2, 255, 255, 255, 255, 255, 255, 255, 255, 255, 2}, api.ErrBig},
		{[]byte{3, 1, 1, 97, 2, 255, 255, 255, 255, 255, 255, 255, 255, 255, 2}, api.ErrBig},
		{[]byte{2, 1, 1, 97, 2, 0}, api.ErrForm},
		{[]byte{3, 1, 1, 97, 2, 0}, api.ErrForm},
		{[]byte{2, 1, 1, 97, 2, 0, 1}, api.ErrForm},
		// The stamp of a note is cut off, written in a longer way, or above its limit.
		{[]byte{4, 9}, api.ErrShort},
		{[]byte{4, 9, 128}, api.ErrShort},
		{[]byte{4, 9, 128, 128, 0}, api.ErrForm},
		{[]byte{4, 9, 128, 128, 128, 128, 128, 32}, api.ErrRange},
		{[]byte{4, 9, 128, 130, 128, 128, 128, 32, 1, 97}, api.ErrRange},
		{[]byte{4, 9, 255, 255, 255, 255, 255, 255, 255, 255, 255, 1}, api.ErrRange},
		{[]byte{4, 9, 255, 255, 255, 255, 255, 255, 255, 255, 255, 2}, api.ErrBig},
		// Its replica is not below the limit, which counts ahead of a number of 0, and of the text.
		{[]byte{4, 9, 16}, api.ErrRange},
		{[]byte{4, 9, 255, 1}, api.ErrRange},
		{[]byte{4, 9, 144, 2}, api.ErrRange},
		{[]byte{4, 9, 144, 2, 1, 97}, api.ErrRange},
		{[]byte{4, 9, 144, 2, 9}, api.ErrRange},
		{[]byte{4, 9, 255, 255, 255, 255, 255, 31}, api.ErrRange},
		{[]byte{4, 9, 144, 254, 255, 255, 255, 31, 0}, api.ErrRange},
		// Its number is 0, which counts ahead of the text.
		{[]byte{4, 9, 0}, api.ErrForm},
		{[]byte{4, 9, 3}, api.ErrForm},
		{[]byte{4, 9, 15, 1, 97}, api.ErrForm},
		// The text of a note is cut off or too long, or no name.
		{[]byte{4, 9, 131, 2}, api.ErrShort},
		{[]byte{4, 9, 131, 2, 1}, api.ErrShort},
		{[]byte{4, 9, 131, 2, 8, 97, 97, 97, 97, 97, 97, 97}, api.ErrShort},
		{[]byte{4, 9, 131, 2, 9}, api.ErrForm},
		{[]byte{4, 9, 131, 2, 9, 97, 97, 97, 97, 97, 97, 97, 97, 97}, api.ErrForm},
		{[]byte{4, 9, 131, 2, 1, 57}, api.ErrForm},
		{[]byte{4, 9, 131, 2, 1, 0}, api.ErrForm},
		{[]byte{4, 9, 131, 2, 2, 97, 0}, api.ErrForm},
		{[]byte{4, 9, 131, 2, 2, 97, 65}, api.ErrForm},
	} {
		checkRead(t, c.b, api.Atom{}, nil, c.want)
	}
}

// TestP903ReadShort: all byte strings of up to 5 bytes, of those that tell most, behind a key of each sort and behind none.
func TestP903ReadShort(t *testing.T) {
	alphabet := []byte{0, 1, 2, 3, 4, 15, 16, 'a', 128, 143, 144}
	heads := [][]byte{nil, keyBytes(tag(1, "a", 2, 3)), keyBytes(half(api.Plus, 1, "a", 2)), keyBytes(half(api.Minus, 1, "a", 2)), keyBytes(note(9))}
	level := [][]byte{{}}
	for n := range 6 {
		for _, b := range level {
			for _, head := range heads {
				checkExpected(t, slices.Concat(head, b))
			}
		}
		if n == 5 {
			return
		}
		var next [][]byte
		for _, b := range level {
			for _, c := range alphabet {
				next = append(next, append(slices.Clone(b), c))
			}
		}
		level = next
	}
}

// TestP903ReadNumbers: the numbers at and around each bound, behind a key of each sort.
func TestP903ReadNumbers(t *testing.T) {
	for _, k := range []api.Key{tag(1, "a", 2, 3), half(api.Plus, 1, "a", 2), half(api.Minus, 1, "a", 2), note(9)} {
		head := keyBytes(k)
		for _, v := range vals() {
			b := slices.Concat(head, pack.Var(v.N))
			for _, text := range [][]byte{nil, {0}, {1, 'a'}, {9}} {
				checkExpected(t, slices.Concat(b, text))
			}
		}
		for n := range uint64(70000) {
			checkExpected(t, append(slices.Concat(head, pack.Var(n)), 1, 'a'))
		}
	}
}

// TestP903ReadChanged: all ends and all changes of one byte of encoded atoms.
func TestP903ReadChanged(t *testing.T) {
	for i, a := range validAtoms() {
		if i%3 != 0 {
			continue
		}
		b := encoded(a)
		for n := range len(b) {
			checkExpected(t, b[:n])
			for c := range 256 {
				changed := append(slices.Clone(b), 1, 'a', 200)
				changed[n] = byte(c)
				checkExpected(t, changed)
			}
		}
	}
}

// TestP903ReadAny: bytes without a pattern, behind beginnings that lead to each check.
func TestP903ReadAny(t *testing.T) {
	next := dice(10)
	for _, head := range [][]byte{{}, {1}, {2}, {3}, {4}, {1, 1, 1, 97, 2, 3}, {2, 1, 1, 97, 2}, {3, 1, 1, 97, 2}, {4, 9}, {4, 9, 131, 10}, {4, 9, 131}, {4, 9, 131, 10, 3}} {
		for i := range 3000 {
			b := slices.Clone(head)
			for range i % 20 {
				b = append(b, byte(next()>>(next()%60)))
			}
			checkExpected(t, b)
		}
	}
}

// TestP903ReadKept: a cursor with an error keeps it, and a nil cursor has no atom.
func TestP903ReadKept(t *testing.T) {
	for _, b := range [][]byte{nil, {5}, {1, 1, 1, 97, 2, 3, 1}, {1, 1, 1, 97, 2, 3, 3}, {2, 1, 1, 97, 2, 0}, {4, 9, 16}, {4, 9, 131, 10, 2, 104, 105}} {
		for _, e := range []api.Errno{api.ErrArg, api.ErrForm, api.ErrSum, api.ErrBig} {
			c := wire.From(b)
			c.Fail(e)
			if got := Read(c); got != (api.Atom{}) || c.Err() != e || c.Left() != 0 {
				t.Errorf("Read %v after error %v: %v, %v", b, e, got, c.Err())
			}
		}
	}
	if got := Read(nil); got != (api.Atom{}) {
		t.Errorf("Read of a nil cursor: %v", got)
	}
}

// checkBytes holds Bytes, Size and Sum of a against the encoding b.
func checkBytes(t *testing.T, a api.Atom, b []byte) {
	t.Helper()
	if got := Bytes(a); !bytes.Equal(got, b) {
		t.Errorf("Bytes %v: %v, not %v", a, got, b)
	}
	if got := Size(a); got != len(b) {
		t.Errorf("Size %v: %d, not %d", a, got, len(b))
	}
	for _, seed := range []uint64{0, 1, 1 << 63, math.MaxUint64} {
		if got := Sum(seed, a); got != mix.Sum(seed, b) {
			t.Errorf("Sum %d, %v: %d, not %d", seed, a, got, mix.Sum(seed, b))
		}
	}
}

func TestP904Bytes(t *testing.T) {
	for _, c := range encodings() {
		checkBytes(t, c.a, c.b)
	}
	checkBytes(t, api.Atom{}, nil)
	checkBytes(t, api.Atom{K: tag(1, "a", 2, 3), V: val(3, "")}, nil)
	checkBytes(t, api.Atom{K: tag(1, "a", 2, 0), V: val(1, "")}, nil)
	checkBytes(t, api.Atom{K: half(api.Plus, 1, "a", 2), V: val(1<<32, "")}, nil)
	checkBytes(t, api.Atom{K: half(api.Minus, 1, "a", 2), V: val(0, "")}, nil)
	checkBytes(t, api.Atom{K: note(9), V: val(272, "a")}, nil)
	checkBytes(t, api.Atom{K: note(9), V: val(256, "A")}, nil)
	for _, a := range atoms() {
		if isAtom(a) {
			checkBytes(t, a, encoded(a))
		} else {
			checkBytes(t, a, nil)
		}
	}
}

// TestP904BytesApart: results share nothing, so that a change of one is not seen in another.
func TestP904BytesApart(t *testing.T) {
	a := api.Atom{K: note(9), V: val(5<<8+3, "hi")}
	first, second := Bytes(a), Bytes(a)
	for i := range first {
		first[i] = 0
	}
	if want := encoded(a); !bytes.Equal(second, want) || !bytes.Equal(Bytes(a), want) {
		t.Errorf("Bytes: %v, %v, not %v", second, Bytes(a), want)
	}
}

// TestP905Inverse: Read inverts Write, whatever bytes follow.
func TestP905Inverse(t *testing.T) {
	for _, a := range validAtoms() {
		for _, behind := range [][]byte{nil, {0}, {1}, {255, 255}, {128, 0, 'a'}, {1, 1, 1, 97, 2, 3, 1}} {
			checkRead(t, append(written(a), behind...), a, behind, api.OK)
		}
	}
}

// TestP905InverseByte: the same with each byte behind some atoms of each sort.
func TestP905InverseByte(t *testing.T) {
	for _, c := range encodings() {
		for x := range 256 {
			checkRead(t, append(written(c.a), byte(x)), c.a, []byte{byte(x)}, api.OK)
		}
	}
}

// TestP905InverseRow: many atoms, written one after another, are read one after another.
func TestP905InverseRow(t *testing.T) {
	w := wire.New()
	for _, a := range validAtoms() {
		Write(w, a)
	}
	c := wire.From(w.Out())
	for _, a := range validAtoms() {
		if got := Read(c); got != a {
			t.Fatalf("Read %v: %v", a, got)
		}
	}
	if c.Done() != api.OK {
		t.Errorf("Done: %v", c.Done())
	}
}

// TestP905Order: of two values one is over the other, each over the other if and only if they are equal, and More is over both.
func TestP905Order(t *testing.T) {
	all := vals()
	for i, x := range all {
		for j, y := range all {
			there, back := Over(x, y), Over(y, x)
			if !there && !back || (there && back) != (i == j) {
				t.Fatalf("Over %v, %v: %v, and the other way %v", x, y, there, back)
			}
			more := More(x, y)
			if more != x && more != y || more != More(y, x) || !Over(more, x) || !Over(more, y) {
				t.Fatalf("More %v, %v: %v", x, y, more)
			}
		}
	}
}

// TestP905Transitive: all triples of some values.
func TestP905Transitive(t *testing.T) {
	var few []api.Val
	for i, v := range vals() {
		if i%5 == 0 {
			few = append(few, v)
		}
	}
	for _, x := range few {
		for _, y := range few {
			for _, z := range few {
				if Over(x, y) && Over(y, z) && !Over(x, z) {
					t.Fatalf("Over %v, %v, %v is not transitive", x, y, z)
				}
			}
		}
	}
}

package key

import (
	"bytes"
	"encoding/binary"
	"math"
	"regexp"
	"slices"
	"testing"

	"handcart/api"
	"handcart/pack"
	"handcart/wire"
)

// form is chapter 6's definition of a name, padded with zero bytes, as an expression.
var form = regexp.MustCompile(`\A[a-z][a-z0-9-]{0,7}\x00*\z`)

// dice returns a function whose results have no pattern, but are the same in each run.
func dice(seed uint64) func() uint64 {
	x := 88172645463325252 + seed
	return func() uint64 {
		x ^= x << 13
		x ^= x >> 7
		x ^= x << 17
		return x
	}
}

// padded returns s in an api.Name.
func padded(s string) api.Name {
	var n api.Name
	copy(n[:], s)
	return n
}

// items are names of several lengths, the empty one, and arrays that are not names.
func items() []api.Name {
	var l []api.Name
	for _, s := range []string{"a", "b", "z", "a-", "a9", "cup", "abcdefg", "abcdefgh", "zzzzzzzz", "", "9", "-a", "A", "a ", "\x00a", "a\x00b", "\x00\x00\x00\x00\x00\x00\x00a", "abcdefgH", "\xff\xff\xff\xff\xff\xff\xff\xff"} {
		l = append(l, padded(s))
	}
	return l
}

// keys are those with each sort, valid or not, and with fields at and around each bound.
func keys() []api.Key {
	var l []api.Key
	for _, sort := range []uint8{0, 1, 2, 3, 4, 5, 6, 128, 255} {
		for _, cart := range []uint16{0, 1, 2, 127, 128, 255, 256, 65534, 65535} {
			for _, item := range items() {
				for _, rep := range []uint8{0, 1, 2, 14, 15, 16, 17, 127, 128, 255} {
					for _, seq := range []uint32{0, 1, 2, 127, 128, 300, 1 << 31, math.MaxUint32 - 1, math.MaxUint32} {
						l = append(l, api.Key{Sort: sort, Cart: cart, Item: item, Rep: rep, Seq: seq})
					}
				}
			}
		}
	}
	return l
}

// fewKeys are every step-th of them, so that all pairs can be visited.
func fewKeys(step int) []api.Key {
	var l []api.Key
	for i, k := range keys() {
		if i%step == 0 {
			l = append(l, k)
		}
	}
	return l
}

// isKey is the chapter's definition of a valid key once more.
func isKey(k api.Key) bool {
	if k.Sort == 4 {
		return k.Item == api.Name{} && k.Rep == 0 && k.Seq == 0
	}
	if k.Sort < 1 || k.Sort > 4 || !form.Match(k.Item[:]) || k.Rep > 15 {
		return false
	}
	return (k.Sort == 1) == (k.Seq != 0)
}

// validKeys are the valid ones of keys.
func validKeys() []api.Key {
	return slices.DeleteFunc(keys(), func(k api.Key) bool { return !isKey(k) })
}

// wordsOf is the chapter's definition of the words once more.
func wordsOf(k api.Key) [3]uint64 {
	return [3]uint64{
		uint64(k.Sort)*65536 + uint64(k.Cart),
		binary.BigEndian.Uint64(k.Item[:]),
		uint64(k.Rep)*4294967296 + uint64(k.Seq),
	}
}

// before compares words lexicographically.
func before(v, w [3]uint64) bool {
	for i := range v {
		if v[i] != w[i] {
			return v[i] < w[i]
		}
	}
	return false
}

func tag(cart uint16, item string, rep uint8, seq uint32) api.Key {
	return api.Key{Sort: api.Tag, Cart: cart, Item: padded(item), Rep: rep, Seq: seq}
}

func half(sort uint8, cart uint16, item string, rep uint8) api.Key {
	return api.Key{Sort: sort, Cart: cart, Item: padded(item), Rep: rep}
}

func note(cart uint16) api.Key {
	return api.Key{Sort: api.Note, Cart: cart}
}

func TestP801Right(t *testing.T) {
	for _, c := range []struct {
		k    api.Key
		want bool
	}{
		{tag(0, "a", 0, 1), true},
		{tag(65535, "abcdefgh", 15, math.MaxUint32), true},
		{tag(0, "a", 0, 0), false},
		{tag(0, "a", 16, 1), false},
		{tag(0, "a", 255, 1), false},
		{tag(0, "", 0, 1), false},
		{tag(0, "9", 0, 1), false},
		{tag(0, "a\x00b", 0, 1), false},
		{half(api.Plus, 0, "a", 0), true},
		{half(api.Minus, 65535, "zzzzzzzz", 15), true},
		{half(api.Plus, 0, "a", 16), false},
		{half(api.Minus, 0, "a", 16), false},
		{half(api.Plus, 0, "", 0), false},
		{half(api.Minus, 0, "", 0), false},
		{half(api.Plus, 0, "A", 0), false},
		{api.Key{Sort: api.Plus, Item: padded("a"), Seq: 1}, false},
		{api.Key{Sort: api.Minus, Item: padded("a"), Seq: math.MaxUint32}, false},
		{note(0), true},
		{note(65535), true},
		{api.Key{Sort: api.Note, Item: padded("a")}, false},
		{api.Key{Sort: api.Note, Item: api.Name{7: 1}}, false},
		{api.Key{Sort: api.Note, Rep: 1}, false},
		{api.Key{Sort: api.Note, Seq: 1}, false},
		{api.Key{}, false},
		{api.Key{Cart: 1, Item: padded("a"), Seq: 1}, false},
		{api.Key{Sort: 5, Cart: 1}, false},
		{api.Key{Sort: 5, Cart: 1, Item: padded("a"), Seq: 1}, false},
	} {
		if got := Right(c.k); got != c.want {
			t.Errorf("Right %v: %v", c.k, got)
		}
	}
	for _, k := range keys() {
		if got := Right(k); got != isKey(k) {
			t.Errorf("Right %v: %v", k, got)
		}
	}
}

// TestP801RightEach: all sorts, all replicas, and each byte at each place of an item.
func TestP801RightEach(t *testing.T) {
	for sort := range 256 {
		for rep := range 256 {
			for _, item := range []string{"", "a"} {
				for seq := range uint32(2) {
					k := api.Key{Sort: uint8(sort), Cart: 7, Item: padded(item), Rep: uint8(rep), Seq: seq}
					if got := Right(k); got != isKey(k) {
						t.Errorf("Right %v: %v", k, got)
					}
				}
			}
		}
	}
	for _, k := range []api.Key{tag(1, "a-b9", 2, 3), half(api.Plus, 1, "abcdefgh", 2), half(api.Minus, 1, "z", 2), note(1)} {
		for place := range k.Item {
			for c := range 256 {
				k := k
				k.Item[place] = byte(c)
				if got := Right(k); got != isKey(k) {
					t.Errorf("Right %v: %v", k, got)
				}
			}
		}
	}
}

func TestP801Words(t *testing.T) {
	for _, c := range []struct {
		k    api.Key
		want [3]uint64
	}{
		{note(3), [3]uint64{262147, 0, 0}},
		{tag(2, "a", 3, 300), [3]uint64{65538, 0x6100000000000000, 3<<32 + 300}},
		{half(api.Plus, 65535, "ab", 15), [3]uint64{2*65536 + 65535, 0x6162000000000000, 15 << 32}},
		{half(api.Minus, 0, "abcdefgh", 0), [3]uint64{3 * 65536, 0x6162636465666768, 0}},
		{api.Key{}, [3]uint64{}},
		{
			api.Key{Sort: 255, Cart: 65535, Item: api.Name{255, 255, 255, 255, 255, 255, 255, 255}, Rep: 255, Seq: math.MaxUint32},
			[3]uint64{1<<24 - 1, math.MaxUint64, 1<<40 - 1},
		},
		{api.Key{Sort: 4, Item: api.Name{0, 'a'}, Rep: 16, Seq: 1}, [3]uint64{262144, 0x0061000000000000, 16<<32 + 1}},
	} {
		if got := Words(c.k); got != c.want {
			t.Errorf("Words %v: %v, not %v", c.k, got, c.want)
		}
	}
	for _, k := range keys() {
		if got := Words(k); got != wordsOf(k) {
			t.Errorf("Words %v: %v, not %v", k, got, wordsOf(k))
		}
	}
}

func TestP801Less(t *testing.T) {
	// Each key precedes all that follow it here: the sort counts most, then the cart, the item, the replica and the number.
	order := []api.Key{
		{},
		{Seq: 1},
		{Cart: 1},
		tag(0, "", 0, 0),
		tag(0, "a", 0, 1),
		tag(0, "a", 0, 2),
		tag(0, "a", 0, math.MaxUint32),
		tag(0, "a", 1, 0),
		tag(0, "a", 1, 1),
		tag(0, "a", 15, 1),
		tag(0, "a", 255, 1),
		tag(0, "a-", 0, 1),
		tag(0, "a9", 0, 1),
		tag(0, "aa", 0, 1),
		tag(0, "b", 0, 1),
		tag(0, "zzzzzzzz", 0, 1),
		tag(0, "\xff", 0, 1),
		tag(1, "a", 0, 1),
		tag(255, "z", 15, 9),
		tag(256, "a", 0, 1),
		tag(65535, "a", 0, 1),
		half(api.Plus, 0, "a", 0),
		half(api.Plus, 0, "a", 1),
		half(api.Plus, 1, "a", 0),
		half(api.Minus, 0, "a", 0),
		half(api.Minus, 65535, "zzzzzzzz", 15),
		note(0),
		note(1),
		note(256),
		note(65535),
		{Sort: 5},
		{Sort: 255},
	}
	for i, a := range order {
		for j, b := range order {
			if got := Less(a, b); got != (i < j) {
				t.Errorf("Less %v, %v: %v", a, b, got)
			}
		}
	}
	few := fewKeys(89)
	for _, a := range few {
		for _, b := range few {
			if got := Less(a, b); got != before(wordsOf(a), wordsOf(b)) {
				t.Fatalf("Less %v, %v: %v", a, b, got)
			}
		}
	}
}

// checkFrom holds From against the definition: the valid key with these words, which the keys at hand tell, or ErrForm.
func checkFrom(t *testing.T, w [3]uint64, want api.Key, err api.Errno) {
	t.Helper()
	if k, e := From(w); k != want || e != err {
		t.Errorf("From %v: %v, %v, not %v, %v", w, k, e, want, err)
	}
}

func TestP801From(t *testing.T) {
	checkFrom(t, [3]uint64{262147, 0, 0}, note(3), api.OK)
	checkFrom(t, [3]uint64{65538, 0x6100000000000000, 3<<32 + 300}, tag(2, "a", 3, 300), api.OK)
	checkFrom(t, [3]uint64{2*65536 + 65535, 0x6162636465666768, 15 << 32}, half(api.Plus, 65535, "abcdefgh", 15), api.OK)
	checkFrom(t, [3]uint64{3 * 65536, 0x6100000000000000, 0}, half(api.Minus, 0, "a", 0), api.OK)
	for _, w := range [][3]uint64{
		{},
		{math.MaxUint64, math.MaxUint64, math.MaxUint64},
		{5 * 65536, 0, 0},
		{3, 0x6100000000000000, 1},
		{262147, 1, 0},
		{262147, 0x6100000000000000, 0},
		{262147, 0, 1},
		{262147, 0, 1 << 32},
		{262147, 0, 1 << 40},
		{262147 + 1<<24, 0, 0},
		{262147 + 1<<32, 0, 0},
		{262147 + 1<<63, 0, 0},
		{65538, 0, 1},
		{65538, 0x6100000000000001, 1},
		{65538, 0x0061000000000000, 1},
		{65538, 0x6100000000000000, 0},
		{65538, 0x6100000000000000, 3 << 32},
		{65538, 0x6100000000000000, 16<<32 + 1},
		{65538, 0x6100000000000000, 1<<40 + 1},
		{65538, 0x6100000000000000, 1<<63 + 1},
		{65538 + 1<<24, 0x6100000000000000, 1},
		{2 * 65536, 0x6100000000000000, 1},
		{3 * 65536, 0x6100000000000000, 1},
		{2 * 65536, 0x6100000000000000, 16 << 32},
		{3 * 65536, 0x6100000000000000, 1 << 40},
		{2 * 65536, 0, 0},
		{3 * 65536, 0, 0},
	} {
		checkFrom(t, w, api.Key{}, api.ErrForm)
	}
	for _, k := range keys() {
		if isKey(k) {
			checkFrom(t, wordsOf(k), k, api.OK)
		} else {
			checkFrom(t, wordsOf(k), api.Key{}, api.ErrForm)
		}
	}
}

// TestP801FromBits: with any bit of the words inverted, they are those of another key, if they are those of one at all.
func TestP801FromBits(t *testing.T) {
	for i, k := range validKeys() {
		if i%11 != 0 {
			continue
		}
		for word := range 3 {
			for bit := range 64 {
				w := wordsOf(k)
				w[word] ^= 1 << bit
				fields := keyOf(w)
				if wordsOf(fields) == w && isKey(fields) {
					checkFrom(t, w, fields, api.OK)
				} else {
					checkFrom(t, w, api.Key{}, api.ErrForm)
				}
			}
		}
	}
}

// keyOf cuts words into fields, by divisions.
func keyOf(w [3]uint64) api.Key {
	k := api.Key{
		Sort: uint8(w[0] / 65536 % 256),
		Cart: uint16(w[0] % 65536),
		Rep:  uint8(w[2] / 4294967296 % 256),
		Seq:  uint32(w[2] % 4294967296),
	}
	binary.BigEndian.PutUint64(k.Item[:], w[1])
	return k
}

// written returns what Write writes.
func written(k api.Key) []byte {
	w := wire.New()
	Write(w, k)
	return w.Out()
}

// encoded is the chapter's encoding of a valid key once more.
func encoded(k api.Key) []byte {
	b := binary.AppendUvarint([]byte{k.Sort}, uint64(k.Cart))
	if k.Sort == 4 {
		return b
	}
	text := bytes.TrimRight(k.Item[:], "\x00")
	b = append(b, byte(len(text)))
	b = append(b, text...)
	b = append(b, k.Rep)
	if k.Sort == 1 {
		b = binary.AppendUvarint(b, uint64(k.Seq))
	}
	return b
}

func TestP802Write(t *testing.T) {
	for _, c := range []struct {
		k    api.Key
		want []byte
	}{
		{tag(2, "a", 3, 300), []byte{1, 2, 1, 97, 3, 172, 2}},
		{tag(1, "a", 2, 3), []byte{1, 1, 1, 97, 2, 3}},
		{tag(65535, "abcdefgh", 15, math.MaxUint32), []byte{1, 255, 255, 3, 8, 97, 98, 99, 100, 101, 102, 103, 104, 15, 255, 255, 255, 255, 15}},
		{half(api.Plus, 300, "a-9", 0), []byte{2, 172, 2, 3, 97, 45, 57, 0}},
		{half(api.Minus, 0, "z", 15), []byte{3, 0, 1, 122, 15}},
		{note(3), []byte{4, 3}},
		{note(128), []byte{4, 128, 1}},
	} {
		if got := written(c.k); !bytes.Equal(got, c.want) {
			t.Errorf("Write %v: %v, not %v", c.k, got, c.want)
		}
	}
	for _, k := range validKeys() {
		if got := written(k); !bytes.Equal(got, encoded(k)) {
			t.Errorf("Write %v: %v, not %v", k, got, encoded(k))
		}
	}
}

// TestP802WriteAppends: Write appends to what was written, and ends without a panic for invalid keys and a nil writer.
func TestP802WriteAppends(t *testing.T) {
	w := wire.New()
	w.Byte(9)
	var want = []byte{9}
	for _, k := range []api.Key{note(300), tag(1, "a", 2, 3), half(api.Plus, 1, "cup", 0), note(0)} {
		Write(w, k)
		want = append(want, encoded(k)...)
	}
	if got := w.Out(); !bytes.Equal(got, want) {
		t.Errorf("Out: %v, not %v", got, want)
	}
	for _, k := range keys() {
		Write(nil, k)
		Write(wire.New(), k)
	}
}

// expect is the chapter's reading once more: the key and what remains, or the zero key and the first error.
func expect(b []byte) (api.Key, []byte, api.Errno) {
	var k api.Key
	if len(b) == 0 {
		return api.Key{}, nil, api.ErrShort
	}
	k.Sort, b = b[0], b[1:]
	if k.Sort < 1 || k.Sort > 4 {
		return api.Key{}, nil, api.ErrForm
	}
	cart, n, err := pack.Unvar(b)
	if err != api.OK {
		return api.Key{}, nil, err
	}
	if cart > 65535 {
		return api.Key{}, nil, api.ErrRange
	}
	k.Cart, b = uint16(cart), b[n:]
	if k.Sort == 4 {
		return k, b, api.OK
	}
	return expectOwner(k, b)
}

// expectOwner goes on with the item, the replica and, for a tag, the number.
func expectOwner(k api.Key, b []byte) (api.Key, []byte, api.Errno) {
	if len(b) == 0 {
		return api.Key{}, nil, api.ErrShort
	}
	n := int(b[0])
	if n > 8 {
		return api.Key{}, nil, api.ErrForm
	}
	if len(b)-1 < n {
		return api.Key{}, nil, api.ErrShort
	}
	k.Item = padded(string(b[1 : 1+n]))
	// Zero bytes within the text would be hidden by the padding.
	if !form.Match(k.Item[:]) || bytes.IndexByte(b[1:1+n], 0) >= 0 {
		return api.Key{}, nil, api.ErrForm
	}
	b = b[1+n:]
	if len(b) == 0 {
		return api.Key{}, nil, api.ErrShort
	}
	k.Rep, b = b[0], b[1:]
	if k.Rep >= 16 {
		return api.Key{}, nil, api.ErrRange
	}
	if k.Sort != 1 {
		return k, b, api.OK
	}
	seq, size, err := pack.Unvar(b)
	if err != api.OK {
		return api.Key{}, nil, err
	}
	if seq > math.MaxUint32 {
		return api.Key{}, nil, api.ErrRange
	}
	if seq == 0 {
		return api.Key{}, nil, api.ErrForm
	}
	k.Seq = uint32(seq)
	return k, b[size:], api.OK
}

// checkRead holds a read of b against want, rest and err, and what the cursor says later.
func checkRead(t *testing.T, b []byte, want api.Key, rest []byte, err api.Errno) {
	t.Helper()
	given := bytes.Clone(b)
	c := wire.From(b)
	if got := Read(c); got != want || c.Err() != err || c.Left() != len(rest) {
		t.Fatalf("Read %v: %v, %v, %d left, not %v, %v, %d left", b, got, c.Err(), c.Left(), want, err, len(rest))
	}
	if !bytes.Equal(b, given) {
		t.Fatalf("Read %v modified its bytes: %v", given, b)
	}
	if err == api.OK {
		for i, x := range rest {
			if got := c.Byte(); got != x {
				t.Fatalf("Read %v: byte %d behind it is %d, not %d", b, i, got, x)
			}
		}
		return
	}
	if got := Read(c); got != (api.Key{}) || c.Byte() != 0 || c.Err() != err || c.Done() != err {
		t.Fatalf("Read %v again: %v, %v, not %v", b, got, c.Err(), err)
	}
}

// checkExpected holds a read of b against the second reading of the chapter.
func checkExpected(t *testing.T, b []byte) {
	t.Helper()
	k, rest, err := expect(b)
	checkRead(t, b, k, rest, err)
}

func TestP802Read(t *testing.T) {
	for _, c := range []struct {
		b    []byte
		want api.Key
		left int
	}{
		{[]byte{1, 2, 1, 97, 3, 172, 2}, tag(2, "a", 3, 300), 0},
		{[]byte{1, 2, 1, 97, 3, 172, 2, 0}, tag(2, "a", 3, 300), 1},
		{[]byte{1, 255, 255, 3, 8, 97, 98, 99, 100, 101, 102, 103, 104, 15, 255, 255, 255, 255, 15, 1, 2}, tag(65535, "abcdefgh", 15, math.MaxUint32), 2},
		{[]byte{1, 0, 1, 97, 0, 1}, tag(0, "a", 0, 1), 0},
		{[]byte{2, 2, 1, 97, 15}, half(api.Plus, 2, "a", 15), 0},
		{[]byte{2, 2, 1, 97, 0, 0}, half(api.Plus, 2, "a", 0), 1},
		{[]byte{3, 172, 2, 2, 97, 45, 7, 9, 9}, half(api.Minus, 300, "a-", 7), 2},
		{[]byte{4, 3}, note(3), 0},
		{[]byte{4, 255, 255, 3}, note(65535), 0},
		{[]byte{4, 0, 1, 97, 3, 1}, note(0), 4},
	} {
		checkRead(t, c.b, c.want, c.b[len(c.b)-c.left:], api.OK)
	}
}

// TestP802ReadErrors: each check fails by itself, and ahead of all that come after it.
func TestP802ReadErrors(t *testing.T) {
	for _, c := range []struct {
		b    []byte
		want api.Errno
	}{
		{nil, api.ErrShort},
		{[]byte{}, api.ErrShort},
		// It is not a sort.
		{[]byte{0}, api.ErrForm},
		{[]byte{5}, api.ErrForm},
		{[]byte{255}, api.ErrForm},
		{[]byte{0, 2, 1, 97, 3, 1}, api.ErrForm},
		{[]byte{5, 2, 1, 97, 3, 1}, api.ErrForm},
		{[]byte{129, 0, 2, 1, 97, 3, 1}, api.ErrForm},
		{[]byte{5, 255, 255, 4}, api.ErrForm},
		// The cart is cut off, written in a longer way, or above its limit.
		{[]byte{1}, api.ErrShort},
		{[]byte{2}, api.ErrShort},
		{[]byte{3}, api.ErrShort},
		{[]byte{4}, api.ErrShort},
		{[]byte{4, 128}, api.ErrShort},
		{[]byte{4, 128, 0}, api.ErrForm},
		{[]byte{4, 128, 128, 4}, api.ErrRange},
		{[]byte{4, 255, 255, 4}, api.ErrRange},
		{[]byte{1, 128, 128, 4}, api.ErrRange},
		{[]byte{1, 128, 128, 4, 9, 16}, api.ErrRange},
		{[]byte{4, 255, 255, 255, 255, 255, 255, 255, 255, 255, 1}, api.ErrRange},
		{[]byte{4, 255, 255, 255, 255, 255, 255, 255, 255, 255, 2}, api.ErrBig},
		{[]byte{1, 128, 0, 9}, api.ErrForm},
		// The item is cut off or too long, or no name.
		{[]byte{1, 2}, api.ErrShort},
		{[]byte{2, 2}, api.ErrShort},
		{[]byte{3, 2}, api.ErrShort},
		{[]byte{1, 2, 1}, api.ErrShort},
		{[]byte{1, 2, 2, 57}, api.ErrShort},
		{[]byte{1, 2, 9}, api.ErrForm},
		{[]byte{1, 2, 9, 97, 97, 97, 97, 97, 97, 97, 97, 97, 3, 1}, api.ErrForm},
		{[]byte{1, 2, 1, 57, 3, 1}, api.ErrForm},
		{[]byte{1, 2, 1, 0, 3, 1}, api.ErrForm},
		{[]byte{1, 2, 2, 97, 0, 3, 1}, api.ErrForm},
		{[]byte{2, 2, 1, 65, 16}, api.ErrForm},
		{[]byte{1, 2, 0, 1, 1}, api.ErrForm},
		{[]byte{2, 2, 0, 1}, api.ErrForm},
		{[]byte{3, 2, 0, 1}, api.ErrForm},
		// There is no name: that counts ahead of a missing or wrong replica.
		{[]byte{1, 2, 0}, api.ErrForm},
		{[]byte{2, 2, 0}, api.ErrForm},
		{[]byte{3, 2, 0}, api.ErrForm},
		{[]byte{1, 2, 0, 16, 0}, api.ErrForm},
		// The replica is missing, or not below the limit, which counts ahead of the number.
		{[]byte{1, 2, 1, 97}, api.ErrShort},
		{[]byte{2, 2, 1, 97}, api.ErrShort},
		{[]byte{3, 2, 1, 97}, api.ErrShort},
		{[]byte{1, 2, 1, 97, 16}, api.ErrRange},
		{[]byte{1, 2, 1, 97, 16, 1}, api.ErrRange},
		{[]byte{1, 2, 1, 97, 255, 0}, api.ErrRange},
		{[]byte{2, 2, 1, 97, 16}, api.ErrRange},
		{[]byte{3, 2, 1, 97, 17}, api.ErrRange},
		{[]byte{1, 2, 1, 97, 16, 128, 0}, api.ErrRange},
		// The number is missing, written in a longer way, above its limit, or 0.
		{[]byte{1, 2, 1, 97, 15}, api.ErrShort},
		{[]byte{1, 2, 1, 97, 15, 128}, api.ErrShort},
		{[]byte{1, 2, 1, 97, 15, 128, 0}, api.ErrForm},
		{[]byte{1, 2, 1, 97, 15, 128, 128, 128, 128, 16}, api.ErrRange},
		{[]byte{1, 2, 1, 97, 15, 255, 255, 255, 255, 255, 255, 255, 255, 255, 1}, api.ErrRange},
		{[]byte{1, 2, 1, 97, 15, 255, 255, 255, 255, 255, 255, 255, 255, 255, 2}, api.ErrBig},
		{[]byte{1, 2, 1, 97, 3, 0}, api.ErrForm},
		{[]byte{1, 2, 1, 97, 3, 0, 1}, api.ErrForm},
	} {
		checkRead(t, c.b, api.Key{}, nil, c.want)
	}
}

// TestP802ReadShort: all byte strings of up to 6 bytes, of those that tell most.
func TestP802ReadShort(t *testing.T) {
	alphabet := []byte{0, 1, 2, 3, 4, 5, 15, 16, 'a', 128}
	level := [][]byte{{}}
	for n := range 7 {
		for _, b := range level {
			checkExpected(t, b)
		}
		if n == 6 {
			return
		}
		var next [][]byte
		for _, b := range level {
			for _, c := range alphabet {
				next = append(next, append(slices.Clone(b), c))
			}
		}
		level = next
	}
}

// TestP802ReadChanged: all ends and all changes of one byte of encoded keys.
func TestP802ReadChanged(t *testing.T) {
	for i, k := range validKeys() {
		if i%37 != 0 {
			continue
		}
		b := encoded(k)
		for n := range len(b) {
			checkExpected(t, b[:n])
			for c := range 256 {
				changed := append(slices.Clone(b), 1, 'a', 200)
				changed[n] = byte(c)
				checkExpected(t, changed)
			}
		}
	}
}

// TestP802ReadAny: bytes without a pattern, behind beginnings that lead to each check.
func TestP802ReadAny(t *testing.T) {
	next := dice(8)
	for _, head := range [][]byte{{}, {1}, {2}, {3}, {4}, {1, 0}, {2, 172, 2}, {1, 7, 1, 'a'}, {3, 7, 2, 'a', 'b'}, {1, 7, 1, 'a', 2}, {1, 7, 1, 'a', 2, 255, 255, 255, 255}} {
		for i := range 3000 {
			b := slices.Clone(head)
			for range i % 20 {
				b = append(b, byte(next()>>(next()%60)))
			}
			checkExpected(t, b)
		}
	}
}

// TestP802ReadKept: a cursor with an error keeps it, and a nil cursor has no key.
func TestP802ReadKept(t *testing.T) {
	for _, b := range [][]byte{nil, {4, 3}, {5}, {1, 2, 1, 97, 16, 1}, {1, 2, 1, 97, 3, 1}} {
		for _, e := range []api.Errno{api.ErrArg, api.ErrForm, api.ErrSum, api.ErrBig} {
			c := wire.From(b)
			c.Fail(e)
			if got := Read(c); got != (api.Key{}) || c.Err() != e || c.Left() != 0 {
				t.Errorf("Read %v after error %v: %v, %v", b, e, got, c.Err())
			}
		}
	}
	if got := Read(nil); got != (api.Key{}) {
		t.Errorf("Read of a nil cursor: %v", got)
	}
}

func TestP803Dot(t *testing.T) {
	for _, c := range []struct {
		k    api.Key
		want uint64
	}{
		{tag(2, "a", 3, 300), 12884902188},
		{tag(2, "a", 0, 1), 1},
		{tag(2, "a", 15, math.MaxUint32), 1<<36 - 1},
		{half(api.Plus, 2, "a", 15), 15 << 32},
		{note(65535), 0},
		{api.Key{Rep: 255, Seq: math.MaxUint32}, 1<<40 - 1},
		{api.Key{Sort: 255, Cart: 65535, Item: padded("zzzzzzzz"), Rep: 128}, 1 << 39},
	} {
		if got := Dot(c.k); got != c.want {
			t.Errorf("Dot %v: %d, not %d", c.k, got, c.want)
		}
	}
	for _, k := range keys() {
		if got := Dot(k); got != uint64(k.Rep)*4294967296+uint64(k.Seq) {
			t.Errorf("Dot %v: %d", k, got)
		}
	}
}

func TestP803Undot(t *testing.T) {
	for _, c := range []struct {
		x   uint64
		rep uint8
		seq uint32
	}{
		{0, 0, 0},
		{1, 0, 1},
		{12884902188, 3, 300},
		{1<<32 - 1, 0, math.MaxUint32},
		{1 << 32, 1, 0},
		{16 << 32, 16, 0},
		{1<<40 - 1, 255, math.MaxUint32},
		{1 << 40, 0, 0},
		{1<<40 + 1<<39 + 1<<31, 128, 1 << 31},
		{1 << 63, 0, 0},
		{math.MaxUint64, 255, math.MaxUint32},
	} {
		if rep, seq := Undot(c.x); rep != c.rep || seq != c.seq {
			t.Errorf("Undot %d: %d, %d, not %d, %d", c.x, rep, seq, c.rep, c.seq)
		}
	}
	next := dice(3)
	for i := range 64 {
		for _, x := range []uint64{1 << i, 1<<i - 1, -(1 << i), next(), next() >> i} {
			rep, seq := Undot(x)
			if uint64(rep) != x/4294967296%256 || uint64(seq) != x%4294967296 {
				t.Errorf("Undot %d: %d, %d", x, rep, seq)
			}
			if got := Dot(api.Key{Rep: rep, Seq: seq}); got != x%(1<<40) {
				t.Errorf("Dot of Undot %d: %d", x, got)
			}
		}
	}
	for _, k := range keys() {
		if rep, seq := Undot(Dot(k)); rep != k.Rep || seq != k.Seq {
			t.Errorf("Undot of Dot %v: %d, %d", k, rep, seq)
		}
	}
}

// TestP804Inverse: From inverts Words, and Read inverts Write, whatever follows.
func TestP804Inverse(t *testing.T) {
	for _, k := range validKeys() {
		if got, err := From(Words(k)); got != k || err != api.OK {
			t.Errorf("From Words %v: %v, %v", k, got, err)
		}
		for _, behind := range [][]byte{nil, {0}, {255, 255}, {1, 2, 1, 'a', 3, 0}} {
			b := append(written(k), behind...)
			checkRead(t, b, k, behind, api.OK)
		}
	}
}

// TestP804InverseRow: many keys, written one after another, are read one after another.
func TestP804InverseRow(t *testing.T) {
	w := wire.New()
	for _, k := range validKeys() {
		Write(w, k)
	}
	c := wire.From(w.Out())
	for _, k := range validKeys() {
		if got := Read(c); got != k {
			t.Fatalf("Read %v: %v", k, got)
		}
	}
	if c.Done() != api.OK {
		t.Errorf("Done: %v", c.Done())
	}
}

// TestP804Order: of two keys, valid or not, exactly one precedes the other one, as the words do, unless they are equal.
func TestP804Order(t *testing.T) {
	few := fewKeys(97)
	for i, a := range few {
		for j, b := range few {
			if less, more := Less(a, b), Less(b, a); less && more || (less || more) != (i != j) || less != before(Words(a), Words(b)) {
				t.Fatalf("Less %v, %v: %v, and the other way %v", a, b, less, more)
			}
		}
	}
	few = fewKeys(1999)
	for _, a := range few {
		for _, b := range few {
			for _, c := range few {
				if Less(a, b) && Less(b, c) && !Less(a, c) {
					t.Fatalf("Less %v, %v, %v is not transitive", a, b, c)
				}
			}
		}
	}
}

// TestP804Sorted: keys that differ have words that differ, and sorting by either gives one order.
func TestP804Sorted(t *testing.T) {
	all := keys()
	next := dice(4)
	for i := range all {
		j := next() % uint64(i+1)
		all[i], all[j] = all[j], all[i]
	}
	slices.SortFunc(all, func(a, b api.Key) int {
		switch {
		case Less(a, b):
			return -1
		case Less(b, a):
			return 1
		}
		return 0
	})
	for i := 1; i < len(all); i++ {
		if !before(Words(all[i-1]), Words(all[i])) {
			t.Fatalf("%v ahead of %v", all[i-1], all[i])
		}
	}
}

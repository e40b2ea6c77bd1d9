package part

import (
	"encoding/binary"
	"maps"
	"math"
	"math/big"
	"math/bits"
	"slices"
	"testing"

	"handcart/api"
	"handcart/atom"
	"handcart/lat"
	"handcart/mix"
)

// dice returns a function whose results have no pattern, but are the same in each run.
func dice(seed uint64) func() uint64 {
	x := 88172645463325252 + seed
	return func() uint64 {
		x ^= x << 13
		x ^= x >> 7
		x ^= x << 17
		return x
	}
}

// padded returns s in an api.Name.
func padded(s string) api.Name {
	var n api.Name
	copy(n[:], s)
	return n
}

func tag(cart uint16, item string, rep uint8, seq uint32, n uint64) api.Atom {
	return api.Atom{K: api.Key{Sort: 1, Cart: cart, Item: padded(item), Rep: rep, Seq: seq}, V: api.Val{N: n}}
}

func half(sort uint8, cart uint16, item string, rep uint8, n uint64) api.Atom {
	return api.Atom{K: api.Key{Sort: sort, Cart: cart, Item: padded(item), Rep: rep}, V: api.Val{N: n}}
}

func note(cart uint16, stamp uint64, text string) api.Atom {
	return api.Atom{K: api.Key{Sort: 4, Cart: cart}, V: api.Val{N: stamp, Text: padded(text)}}
}

// Short forms.
func row(l ...api.Atom) []api.Atom { return l }

func nums(l ...uint64) []uint64 { return l }

// few are valid atoms of all sorts with few keys, so that rows of them often have a key twice.
func few() []api.Atom {
	return row(
		tag(1, "a", 2, 3, 1), tag(1, "a", 2, 3, 2), tag(1, "a", 2, 4, 1),
		half(2, 0, "b", 0, 1), half(2, 0, "b", 0, 9), half(3, 0, "b", 0, 9),
		note(4, 256, ""), note(4, 256, "b"), note(4, 257, "a"), note(65535, 1<<40-241, "zzzzzzzz"),
	)
}

// wrong are atoms that are not valid.
func wrong() []api.Atom {
	owned := note(1, 256, "")
	owned.K.Rep = 1
	return row(
		api.Atom{}, owned, tag(1, "a", 2, 3, 0), tag(1, "a", 2, 3, 3), tag(1, "a", 2, 0, 1), tag(1, "", 2, 3, 1), tag(1, "a", 16, 3, 1),
		half(2, 0, "b", 0, 0), half(2, 0, "b", 0, 1<<32), half(5, 0, "b", 0, 1), half(3, 0, "9", 0, 1),
		note(4, 255, ""), note(4, 272, ""), note(4, 256, "A"), note(4, 1<<40, ""),
	)
}

// anyRow has n atoms without a pattern, with few or with many keys, some of which are invalid.
func anyRow(next func() uint64, n int) []api.Atom {
	known, bad := few(), wrong()
	var l []api.Atom
	for range n {
		x := next()
		c, item, rep := uint16(x>>8), string(rune('a'+x>>24%26)), uint8(x>>32%16)
		switch x % 8 {
		case 0:
			l = append(l, known[x>>8%uint64(len(known))])
		case 1:
			l = append(l, bad[x>>8%uint64(len(bad))])
		case 2, 3:
			l = append(l, tag(c, item, rep, uint32(next())|1, x>>60%2+1))
		case 4:
			l = append(l, half(2, c, item, rep, next()>>32|1))
		case 5:
			l = append(l, half(3, c, item, rep, next()>>40|1))
		case 6:
			l = append(l, note(c%9, atom.Stamp(uint32(x>>40)|1, rep), item))
		default:
			l = append(l, note(c, atom.Stamp(uint32(x>>40)|1, rep), ""))
		}
	}
	return l
}

func shuffled(next func() uint64, l []api.Atom) []api.Atom {
	l = slices.Clone(l)
	for i := range l {
		j := int(next() % uint64(i+1))
		l[i], l[j] = l[j], l[i]
	}
	return l
}

// twins returns groups of n tags that have the same hash, the first ones there are for the seed.
//
// A tag of a cart above 2^14 with an item of three bytes and a great number has 15 bytes. Its first eight bytes lead to a word, and the other seven are XORed with it ahead of the last step of mixing: if the words of two tags differ only in bits that the other bytes can have (here: those of the replica and of the number), then these bytes can make up for it.
func twins(seed uint64, n, groups int) [][]api.Atom {
	const fixed = 0xffff_f080_8080_80f0
	start := bits.RotateLeft64(mix.Word(seed, 15), 23)
	type head struct {
		cart uint16
		item string
		word uint64
	}
	heads := map[uint64][]head{}
	var all [][]api.Atom
	for i := range uint64(1 << 22) {
		c := 1<<14 + i%(1<<14)
		item := string([]byte{'x', 'a' + byte(i>>14%26), 'a' + byte(i>>14/26)})
		first := []byte{1, byte(c | 128), byte(c>>7 | 128), byte(c >> 14), 3, item[0], item[1], item[2]}
		word := bits.RotateLeft64(mix.Word(start, binary.LittleEndian.Uint64(first)), 23)
		same := append(heads[word&fixed], head{uint16(c), item, word})
		heads[word&fixed] = same
		if len(same) != n {
			continue
		}
		// The last byte of a number is not 0: of its 15 other values, each tag rules out at most one.
		last := uint64(1)
		for slices.ContainsFunc(same, func(h head) bool { return (h.word^same[0].word)>>40&15 == last }) {
			last++
		}
		var group []api.Atom
		for _, h := range same {
			b := last<<40 ^ 0x01_02_03_04_05 ^ h.word ^ same[0].word
			seq := b>>8&127 | b>>16&127<<7 | b>>24&127<<14 | b>>32&127<<21 | b>>40&15<<28
			group = append(group, tag(h.cart, h.item, uint8(b&15), uint32(seq), 1))
		}
		if all = append(all, group); len(all) == groups {
			return all
		}
	}
	return all
}

// TestTwins: what the tests take to have the same hash has it, in valid atoms with keys of their own.
func TestTwins(t *testing.T) {
	for _, seed := range nums(0, 5, math.MaxUint64) {
		groups := append(twins(seed, 2, 4), twins(seed, 3, 2)...)
		if len(groups) != 6 {
			t.Fatalf("seed %d: %d groups", seed, len(groups))
		}
		for _, l := range groups {
			if len(lat.Norm(l)) != len(l) {
				t.Errorf("seed %d: %v is not a state, in any order", seed, l)
			}
			for _, a := range l {
				if atom.Sum(seed, a) != atom.Sum(seed, l[0]) {
					t.Errorf("seed %d: the hash of %v is not that of %v", seed, a, l[0])
				}
			}
		}
	}
}

// rising are the numbers from l in increasing order, each once: the least one, then the least one above it, and so on.
func rising(l []uint64) []uint64 {
	var all []uint64
	for range l {
		best, found := uint64(0), false
		for _, x := range l {
			if (len(all) == 0 || x > all[len(all)-1]) && (!found || x < best) {
				best, found = x, true
			}
		}
		if found {
			all = append(all, best)
		}
	}
	return all
}

// hashes are those of the atoms of a state, in its order.
func hashes(seed uint64, state []api.Atom) []uint64 {
	var l []uint64
	for _, a := range state {
		l = append(l, atom.Sum(seed, a))
	}
	return l
}

// checkRow holds Keys, Clash, Index and Pick of a row against the chapter's definitions.
func checkRow(t *testing.T, seed uint64, s []api.Atom) {
	t.Helper()
	state := lat.Norm(s)
	all := hashes(seed, state)
	keys := rising(all)
	if got := Keys(seed, s); !slices.Equal(got, keys) {
		t.Fatalf("Keys(%d, %v) = %d, not %d", seed, s, got, keys)
	}
	if got, want := Clash(seed, s), len(keys) < len(all); got != want {
		t.Fatalf("Clash(%d, %v) = %v", seed, s, got)
	}
	index := Index(seed, s)
	if got := slices.Sorted(maps.Keys(index)); !slices.Equal(got, keys) {
		t.Fatalf("Index(%d, %v) has the hashes %d, not %d", seed, s, got, keys)
	}
	for _, x := range keys {
		var want []api.Atom
		for i, a := range state {
			if all[i] == x {
				want = append(want, a)
			}
		}
		if !slices.Equal(index[x], want) {
			t.Fatalf("Index(%d, %v) has %v at %d, not %v", seed, s, index[x], x, want)
		}
	}
	checkPick(t, seed, s, nil)
	checkPick(t, seed, s, keys)
	if n := len(keys); n > 0 {
		checkPick(t, seed, s, nums(keys[n-1]))
		checkPick(t, seed, s, nums(keys[n/2], keys[0]+1, keys[n/2], 0, keys[0], keys[n-1]-1, math.MaxUint64))
		checkPick(t, seed+1, s, keys)
	}
}

// checkPick holds Pick against the chapter's definition.
func checkPick(t *testing.T, seed uint64, s []api.Atom, want []uint64) {
	t.Helper()
	var picked []api.Atom
	for _, a := range lat.Norm(s) {
		if slices.Contains(want, atom.Sum(seed, a)) {
			picked = append(picked, a)
		}
	}
	if got := Pick(seed, s, want); !slices.Equal(got, picked) {
		t.Fatalf("Pick(%d, %v, %d) = %v, not %v", seed, s, want, got, picked)
	}
}

// seeds are those at the bounds, and some between them.
func seeds() []uint64 {
	return nums(0, 1, 5, mix.A, 1<<63, math.MaxUint64)
}

// The hashes of a tag for two seeds, of a half and of a note, which were computed apart from this program.
const (
	hashA7 = 0x1aaa1f1e1fb63711
	hashA8 = 0x745736b7eb0536e3
	hashB7 = 0xc1255e4daf3003b8
	hashC7 = 0x9da27e4ef33d76a2
)

// TestP2001Keys: hashes that were computed apart from this program, and rows of the same state.
func TestP2001Keys(t *testing.T) {
	a, b, c := tag(1, "a", 2, 3, 1), half(2, 1, "a", 2, 300), note(3, 512, "hello")
	for _, l := range []struct {
		seed uint64
		s    []api.Atom
		want []uint64
	}{
		{0, nil, nil},
		{0, row(), nil},
		{7, row(a), nums(hashA7)},
		{7, row(b), nums(hashB7)},
		{7, row(c), nums(hashC7)},
		{7, row(a, b, c), nums(hashA7, hashC7, hashB7)},
		{7, row(c, a, b), nums(hashA7, hashC7, hashB7)},
		{7, row(c, a, b, a, c, c), nums(hashA7, hashC7, hashB7)},
		{8, row(a), nums(hashA8)},
		{7, wrong(), nil},
		{7, append(wrong(), b), nums(hashB7)},
		{7, row(half(2, 1, "a", 2, 299), b), nums(hashB7)},
		{7, row(b, half(2, 1, "a", 2, 299)), nums(hashB7)},
		{7, row(note(3, 512, "hell"), c, note(3, 511, "z")), nums(hashC7)},
	} {
		if got := Keys(l.seed, l.s); !slices.Equal(got, l.want) {
			t.Errorf("Keys(%d, %v) = %#x, not %#x", l.seed, l.s, got, l.want)
		}
		checkRow(t, l.seed, l.s)
	}
}

// TestP2001Rows: all rows of up to 3 of few atoms, valid or not, and rows without a pattern.
func TestP2001Rows(t *testing.T) {
	all := append(few(), wrong()[:4]...)
	for _, a := range all {
		checkRow(t, 3, row(a))
		for _, b := range all {
			checkRow(t, 4, row(a, b))
			for _, c := range all {
				checkRow(t, 5, row(a, b, c))
			}
		}
	}
	next := dice(1)
	for i := range 300 {
		checkRow(t, next(), anyRow(next, i%40))
	}
	for _, seed := range seeds() {
		checkRow(t, seed, anyRow(next, 60))
		checkRow(t, seed, few())
	}
}

// TestP2001Clash: atoms with the same hash, next to each other or far apart, in rows of any order.
func TestP2001Clash(t *testing.T) {
	next := dice(2)
	for _, seed := range nums(0, 77, math.MaxUint64) {
		pairs, triple := twins(seed, 2, 3), twins(seed, 3, 1)[0]
		a, b := pairs[0][0], pairs[0][1]
		rest := lat.Norm(anyRow(next, 30))
		for _, l := range []struct {
			s     []api.Atom
			clash bool
			keys  int
		}{
			{row(a), false, 1}, {row(b), false, 1}, {row(a, a), false, 1},
			{row(a, b), true, 1}, {row(b, a), true, 1}, {row(a, b, a, b), true, 1},
			{triple, true, 1}, {triple[1:], true, 1}, {triple[:1], false, 1}, {row(triple[2], triple[0]), true, 1},
			{slices.Concat(pairs...), true, 3}, {row(a, pairs[1][0], pairs[2][0]), false, 3}, {row(a, pairs[1][0], b), true, 2},
			{append(slices.Concat(pairs...), triple...), true, 4},
			{slices.Concat(rest, row(a, b)), true, len(rest) + 1}, {append(row(b), rest...), false, len(rest) + 1},
			// The same key with a greater value has another hash.
			{row(a, b, tag(b.K.Cart, string(b.K.Item[:]), b.K.Rep, b.K.Seq, 2)), false, 2},
		} {
			for range 4 {
				s := shuffled(next, l.s)
				if got := Clash(seed, s); got != l.clash {
					t.Errorf("Clash(%d, %v) = %v", seed, s, got)
				}
				if got := len(Keys(seed, s)); got != l.keys {
					t.Errorf("%d Keys(%d, %v), not %d", got, seed, s, l.keys)
				}
				checkRow(t, seed, s)
			}
			// Another seed parts them.
			if Clash(seed+1, l.s) {
				t.Errorf("Clash(%d, %v)", seed+1, l.s)
			}
			checkRow(t, seed+1, l.s)
		}
	}
}

// TestP2001IndexEmpty: no atoms, no hashes.
func TestP2001IndexEmpty(t *testing.T) {
	for _, s := range [][]api.Atom{nil, row(), wrong()} {
		if got := Index(9, s); len(got) != 0 {
			t.Errorf("Index(9, %v) = %v", s, got)
		}
		if Clash(9, s) {
			t.Errorf("Clash(9, %v)", s)
		}
	}
}

// TestP2002Pick: any wanted numbers, in any order, often or never, of rows in any order; all atoms of a hash are picked.
func TestP2002Pick(t *testing.T) {
	next := dice(3)
	pairs := slices.Concat(twins(6, 2, 3)...)
	for i := range 200 {
		s := append(anyRow(next, i%30), pairs...)
		s = shuffled(next, s)
		all := hashes(6, lat.Norm(s))
		var want []uint64
		for range i % 12 {
			want = append(want, all[next()%uint64(len(all))], next())
		}
		checkPick(t, 6, s, want)
		checkPick(t, 6, s, append(want, want...))
		checkPick(t, 7, s, want)
	}
	a, b := pairs[0], pairs[1]
	if got := Pick(6, row(b, a), nums(atom.Sum(6, a))); !slices.Equal(got, lat.Norm(row(a, b))) {
		t.Errorf("picked by the hash of %v and %v: %v", a, b, got)
	}
	// The hash of no bytes is that of no atom.
	if got := Pick(6, wrong(), nums(mix.Sum(6, nil))); len(got) != 0 {
		t.Errorf("picked by the hash of no bytes: %v", got)
	}
}

// checkSift holds Sift against the chapter's definition.
func checkSift(t *testing.T, l, in []uint64) {
	t.Helper()
	var inside, outside []uint64
	for _, x := range rising(l) {
		if slices.Contains(in, x) {
			inside = append(inside, x)
		} else {
			outside = append(outside, x)
		}
	}
	first, second := Sift(l, in)
	if !slices.Equal(first, inside) || !slices.Equal(second, outside) {
		t.Fatalf("Sift(%d, %d) = %d, %d, not %d, %d", l, in, first, second, inside, outside)
	}
}

// lists are all lists of up to n of numbers.
func lists(from []uint64, n int) [][]uint64 {
	all := [][]uint64{nil}
	for i := 0; i < len(all); i++ {
		if len(all[i]) == n {
			continue
		}
		for _, x := range from {
			all = append(all, append(slices.Clone(all[i]), x))
		}
	}
	return all
}

func TestP2002Sift(t *testing.T) {
	for _, l := range []struct{ l, in, first, second []uint64 }{
		{nil, nil, nil, nil},
		{nil, nums(1), nil, nil},
		{nums(1), nil, nil, nums(1)},
		{nums(1), nums(1), nums(1), nil},
		{nums(2, 1), nums(), nil, nums(1, 2)},
		{nums(2, 1, 2, 1), nums(2, 1, 2), nums(1, 2), nil},
		{nums(5, 1, 5, 9), nums(9, 1, 2), nums(1, 9), nums(5)},
		{nums(9, 9, 9), nums(8, 10), nil, nums(9)},
		{nums(math.MaxUint64, 0, 1<<63, 1), nums(0, 1<<63), nums(0, 1<<63), nums(1, math.MaxUint64)},
		{nums(1<<63, 1, 1<<63-1), nums(math.MaxUint64), nil, nums(1, 1<<63-1, 1<<63)},
	} {
		first, second := Sift(l.l, l.in)
		if !slices.Equal(first, l.first) || !slices.Equal(second, l.second) {
			t.Errorf("Sift(%d, %d) = %d, %d, not %d, %d", l.l, l.in, first, second, l.first, l.second)
		}
	}
	all := lists(nums(0, 3, 1<<63, math.MaxUint64), 4)
	for _, l := range all {
		for _, in := range all[:len(all)/4] {
			checkSift(t, l, in)
		}
	}
	next := dice(4)
	for i := range 300 {
		var l, in []uint64
		for range i % 50 {
			l = append(l, next()%40, next())
			in = append(in, next()%40, l[next()%uint64(len(l))])
		}
		checkSift(t, l, in)
	}
}

// bucket is x divided by the power of two that leaves bits bits.
func bucket(x uint64, n int) int {
	n = min(max(n, 0), 30)
	whole := new(big.Int).SetUint64(x)
	return int(whole.Div(whole, new(big.Int).Exp(big.NewInt(2), big.NewInt(int64(64-n)), nil)).Int64())
}

// TestP2003Example1: the chapter's example.
func TestP2003Example1(t *testing.T) {
	if got := Bucket(1<<63, 1); got != 1 {
		t.Errorf("Bucket(2^63, 1) = %d", got)
	}
	next := dice(5)
	for i := range 1000 {
		x := next() >> (i % 64)
		if got := Bucket(x, 0); got != 0 {
			t.Errorf("Bucket(%d, 0) = %d", x, got)
		}
	}
}

func TestP2003Bucket(t *testing.T) {
	for _, l := range []struct {
		x    uint64
		bits int
		want int
	}{
		{0, 30, 0}, {1, 30, 0}, {1<<34 - 1, 30, 0}, {1 << 34, 30, 1}, {1<<34 | 1, 31, 1}, {1 << 34, 29, 0},
		{math.MaxUint64, 30, 1<<30 - 1}, {math.MaxUint64, 31, 1<<30 - 1}, {math.MaxUint64, 64, 1<<30 - 1}, {math.MaxUint64, math.MaxInt, 1<<30 - 1},
		{math.MaxUint64, 0, 0}, {math.MaxUint64, -1, 0}, {math.MaxUint64, -64, 0}, {math.MaxUint64, math.MinInt, 0},
		{math.MaxUint64, 1, 1}, {1<<63 - 1, 1, 0}, {1 << 63, 1, 1}, {1 << 63, 2, 2}, {1 << 62, 2, 1}, {3 << 62, 2, 3},
		{0xf000000000000000, 3, 7}, {0x1234567890abcdef, 4, 1}, {0x1234567890abcdef, 8, 0x12}, {0x1234567890abcdef, 12, 0x123},
	} {
		if got := Bucket(l.x, l.bits); got != l.want {
			t.Errorf("Bucket(%#x, %d) = %d, not %d", l.x, l.bits, got, l.want)
		}
	}
	next := dice(6)
	for i := range 2000 {
		x := next()
		if i%2 == 0 {
			x = 1<<(i%64) - x%2
		}
		for n := -3; n <= 70; n++ {
			if got, want := Bucket(x, n), bucket(x, n); got != want {
				t.Fatalf("Bucket(%#x, %d) = %d, not %d", x, n, got, want)
			}
		}
	}
	for _, n := range []int{math.MinInt, math.MinInt + 34, math.MinInt32, -65, 65, 128, math.MaxInt32, math.MaxInt - 1, math.MaxInt} {
		for _, x := range nums(0, 1, 1<<33, 1<<34, 1<<63, math.MaxUint64) {
			if got, want := Bucket(x, n), bucket(x, n); got != want {
				t.Errorf("Bucket(%#x, %d) = %d, not %d", x, n, got, want)
			}
		}
	}
}

// checkLaws holds the laws of two rows.
func checkLaws(t *testing.T, seed uint64, a, b []api.Atom) {
	t.Helper()
	s, other := lat.Norm(a), lat.Norm(b)
	keys, others := Keys(seed, a), Keys(seed, b)
	if got := Pick(seed, a, keys); !slices.Equal(got, s) {
		t.Fatalf("seed %d: picked by all Keys of %v: %v", seed, a, got)
	}
	if !Clash(seed, a) && len(keys) != len(s) {
		t.Fatalf("seed %d: no clash in %v, and %d Keys", seed, a, len(keys))
	}
	if !slices.Equal(keys, Keys(seed, s)) {
		t.Fatalf("seed %d: the Keys of %v are not those of its state", seed, a)
	}
	mine, theirs := Index(seed, a), Index(seed, b)
	both, _ := Sift(keys, others)
	for _, c := range s {
		if !slices.Contains(other, c) {
			continue
		}
		x := atom.Sum(seed, c)
		if !slices.Contains(both, x) || !slices.Contains(mine[x], c) || !slices.Contains(theirs[x], c) {
			t.Fatalf("seed %d: %v of both %v and %v does not have the hash %d in both", seed, c, a, b, x)
		}
	}
}

func TestP2004Laws(t *testing.T) {
	all := few()
	for i, a := range all {
		for _, b := range all {
			checkLaws(t, uint64(i), row(a, b), row(b))
			checkLaws(t, uint64(i), row(a), row(b, a))
			for _, c := range all {
				checkLaws(t, uint64(i), row(a, b, c), row(c, b))
			}
		}
	}
	next := dice(7)
	pairs := slices.Concat(twins(1000, 2, 4)...)
	for i := range 200 {
		shared := anyRow(next, i%20)
		a := slices.Concat(shared, anyRow(next, i%15), pairs[:i%5])
		b := slices.Concat(anyRow(next, i%10), pairs[i%4:], shared)
		checkLaws(t, 1000, a, b)
		checkLaws(t, next(), shuffled(next, a), shuffled(next, b))
	}
	checkLaws(t, 1, nil, nil)
	checkLaws(t, 1, nil, all)
	checkLaws(t, 1, all, wrong())
}

// TestMany: more atoms than a list of hashes may have numbers, in the order of the state and in none.
func TestMany(t *testing.T) {
	next := dice(8)
	var s []api.Atom
	for i := range uint32(40000) {
		s = append(s, tag(uint16(i), "cup", uint8(i%16), i+1, uint64(i%2+1)))
	}
	state := lat.Norm(s)
	want := hashes(12, state)
	slices.Sort(want)
	for _, l := range [][]api.Atom{state, shuffled(next, s), append(shuffled(next, s), s...)} {
		keys := Keys(12, l)
		if !slices.Equal(keys, want) || Clash(12, l) || len(Index(12, l)) != len(want) {
			t.Fatalf("%d atoms: %d Keys, Clash %v", len(l), len(keys), Clash(12, l))
		}
		if !slices.Equal(Pick(12, l, keys), state) {
			t.Fatalf("%d atoms: all Keys do not pick the state", len(l))
		}
		odd, even := Sift(append(keys, next()), keys[:len(keys)/2])
		if !slices.Equal(odd, keys[:len(keys)/2]) || len(even) != len(keys)/2+1 {
			t.Fatalf("sifted %d and %d", len(odd), len(even))
		}
	}
}

// TestArguments: arguments and the capacity behind them stay as they are, and the lists of a result are apart from each other.
func TestArguments(t *testing.T) {
	next := dice(9)
	pairs := slices.Concat(twins(2, 2, 3)...)
	for i := range 200 {
		whole := shuffled(next, append(anyRow(next, i%20+2), pairs...))
		if i%2 == 0 {
			whole = lat.Norm(whole)
		}
		want := append(hashes(2, whole), next(), 0)
		kept, keptWant := slices.Clone(whole), slices.Clone(want)
		s, l := whole[:len(whole)/2+1], want[:len(want)/2+1]
		for range 2 {
			checkRow(t, 2, s)
			checkPick(t, 2, s, l)
			checkSift(t, l, want[1:3])
			keys := Keys(2, s)
			clear(keys[:cap(keys)])
			picked := Pick(2, s, l)
			clear(picked[:cap(picked)])
			inside, outside := Sift(l, want[1:3])
			other := slices.Clone(outside)
			clear(inside[:cap(inside)])
			if !slices.Equal(outside, other) {
				t.Fatal("the results of Sift are not apart")
			}
			clear(outside[:cap(outside)])
			index := Index(2, s)
			for _, x := range slices.Sorted(maps.Keys(index)) {
				for _, a := range index[x] {
					if atom.Sum(2, a) != x {
						t.Fatal("the lists of Index are not apart")
					}
				}
				clear(index[x][:cap(index[x])])
			}
		}
		if !slices.Equal(whole, kept) || !slices.Equal(want, keptWant) {
			t.Fatalf("%v or %d has changed", kept, keptWant)
		}
	}
}

// TestRepeated: the order in which a map is visited is not to be seen.
func TestRepeated(t *testing.T) {
	next := dice(10)
	s := append(anyRow(next, 300), slices.Concat(twins(3, 3, 2)...)...)
	for range 20 {
		checkRow(t, 3, s)
		s = shuffled(next, s)
	}
}

package codec

import (
	"math"
	"slices"
	"testing"

	"handcart/api"
	"handcart/atom"
	"handcart/lat"
	"handcart/wire"
)

// dice returns a function whose results have no pattern, but are the same in each run.
func dice(seed uint64) func() uint64 {
	x := 88172645463325252 + seed
	return func() uint64 {
		x ^= x << 13
		x ^= x >> 7
		x ^= x << 17
		return x
	}
}

// padded returns s in an api.Name.
func padded(s string) api.Name {
	var n api.Name
	copy(n[:], s)
	return n
}

func tag(cart uint16, item string, rep uint8, seq uint32, n uint64) api.Atom {
	return api.Atom{K: api.Key{Sort: 1, Cart: cart, Item: padded(item), Rep: rep, Seq: seq}, V: api.Val{N: n}}
}

func half(sort uint8, cart uint16, item string, rep uint8, n uint64) api.Atom {
	return api.Atom{K: api.Key{Sort: sort, Cart: cart, Item: padded(item), Rep: rep}, V: api.Val{N: n}}
}

func note(cart uint16, stamp uint64, text string) api.Atom {
	return api.Atom{K: api.Key{Sort: 4, Cart: cart}, V: api.Val{N: stamp, Text: padded(text)}}
}

// row is a short form.
func row(l ...api.Atom) []api.Atom { return l }

// few are valid atoms of all sorts with few keys, so that rows of them often have a key twice.
func few() []api.Atom {
	return row(
		tag(1, "a", 2, 3, 1), tag(1, "a", 2, 3, 2), tag(1, "a", 2, 4, 1),
		half(2, 0, "b", 0, 1), half(2, 0, "b", 0, 9), half(3, 0, "b", 0, 9),
		note(4, 256, ""), note(4, 256, "b"), note(4, 257, "a"), note(65535, 1<<40-241, "zzzzzzzz"),
	)
}

// wrong are atoms that are not valid.
func wrong() []api.Atom {
	owned := note(1, 256, "")
	owned.K.Rep = 1
	return row(
		api.Atom{}, owned, tag(1, "a", 2, 3, 0), tag(1, "a", 2, 3, 3), tag(1, "a", 2, 0, 1), tag(1, "", 2, 3, 1), tag(1, "a", 16, 3, 1),
		half(2, 0, "b", 0, 0), half(2, 0, "b", 0, 1<<32), half(5, 0, "b", 0, 1), half(3, 0, "9", 0, 1),
		note(4, 255, ""), note(4, 272, ""), note(4, 256, "A"), note(4, 1<<40, ""),
	)
}

// anyRow has n atoms without a pattern, with few or with many keys, some of which are invalid.
func anyRow(next func() uint64, n int) []api.Atom {
	known, bad := few(), wrong()
	var l []api.Atom
	for range n {
		x := next()
		c, item, rep := uint16(x>>8), string(rune('a'+x>>24%26)), uint8(x>>32%16)
		switch x % 8 {
		case 0:
			l = append(l, known[x>>8%uint64(len(known))])
		case 1:
			l = append(l, bad[x>>8%uint64(len(bad))])
		case 2, 3:
			l = append(l, tag(c, item, rep, uint32(next())|1, x>>60%2+1))
		case 4:
			l = append(l, half(2, c, item, rep, next()>>32|1))
		case 5:
			l = append(l, half(3, c, item, rep, next()>>40|1))
		case 6:
			l = append(l, note(c%9, atom.Stamp(uint32(x>>40)|1, rep), item))
		default:
			l = append(l, note(c, atom.Stamp(uint32(x>>40)|1, rep), ""))
		}
	}
	return l
}

func shuffled(next func() uint64, l []api.Atom) []api.Atom {
	l = slices.Clone(l)
	for i := range l {
		j := int(next() % uint64(i+1))
		l[i], l[j] = l[j], l[i]
	}
	return l
}

// tags are n tags, each in a cart of its own.
func tags(n int) []api.Atom {
	var l []api.Atom
	for i := range n {
		l = append(l, tag(uint16(i), "a", 2, 3, 1))
	}
	return l
}

// groups are the seven-bit groups of x, with the mark of more to come on all but the last one.
func groups(x uint64) []byte {
	var l []byte
	for ; x > 127; x /= 128 {
		l = append(l, byte(x%128)+128)
	}
	return append(l, byte(x))
}

// counted are the bytes of a state that the chapter names: the number of its atoms, and each of them.
func counted(state []api.Atom) []byte {
	b := groups(uint64(len(state)))
	for _, a := range state {
		b = append(b, atom.Bytes(a)...)
	}
	return b
}

// joined are n, as a number, and the parts.
func joined(n uint64, parts ...[]byte) []byte {
	return append(groups(n), slices.Concat(parts...)...)
}

// checkEncode holds Encode, Size and Rows of a row with few atoms against the chapter, and Decode of what comes out.
func checkEncode(t *testing.T, s []api.Atom) {
	t.Helper()
	state := lat.Norm(s)
	want := counted(state)
	if got, e := Encode(s); e != api.OK || !slices.Equal(got, want) {
		t.Fatalf("Encode(%v) = %d, error %d, not %d", s, got, e, want)
	}
	if got := Size(s); got != len(want) {
		t.Fatalf("Size(%v) = %d, not %d", s, got, len(want))
	}
	got, e := Rows(s)
	if slices.Equal(s, state) {
		if e != api.OK || !slices.Equal(got, want) {
			t.Fatalf("Rows(%v) = %d, error %d, not %d", s, got, e, want)
		}
	} else if e != api.ErrForm || got != nil {
		t.Fatalf("Rows(%v) = %d, error %d: it is not a state", s, got, e)
	}
	if back, e := Decode(want); e != api.OK || !slices.Equal(back, state) {
		t.Fatalf("Decode(%d) = %v, error %d, not %v", want, back, e, state)
	}
}

// checkError expects that b cannot be decoded, and why.
func checkError(t *testing.T, b []byte, want api.Errno) {
	t.Helper()
	if got, e := Decode(b); e != want || got != nil {
		t.Fatalf("Decode(%d) = %v, error %d, not error %d", b, got, e, want)
	}
}

// known are pairs of rows and encodings that were written by hand.
func known() []struct {
	s []api.Atom
	b []byte
} {
	return []struct {
		s []api.Atom
		b []byte
	}{
		{nil, []byte{0}},
		{row(), []byte{0}},
		{row(tag(1, "a", 2, 3, 1)), []byte{1, 1, 1, 1, 97, 2, 3, 1}},
		{row(tag(1, "a", 2, 3, 2)), []byte{1, 1, 1, 1, 97, 2, 3, 2}},
		{row(half(2, 0, "b-9", 15, 300)), []byte{1, 2, 0, 3, 98, 45, 57, 15, 172, 2}},
		{row(half(3, 300, "b", 0, 1)), []byte{1, 3, 172, 2, 1, 98, 0, 1}},
		{row(note(2, 259, "")), []byte{1, 4, 2, 131, 2, 0}},
		{row(note(2, 259, "ab")), []byte{1, 4, 2, 131, 2, 2, 97, 98}},
		{row(half(2, 1, "a", 0, 3), note(2, 259, "")), []byte{2, 2, 1, 1, 97, 0, 3, 4, 2, 131, 2, 0}},
		{
			row(tag(0, "a", 0, 1, 1), half(2, 0, "a", 0, 1), half(3, 0, "a", 0, 1), note(0, 256, "")),
			[]byte{4, 1, 0, 1, 97, 0, 1, 1, 2, 0, 1, 97, 0, 1, 3, 0, 1, 97, 0, 1, 4, 0, 128, 2, 0},
		},
		// The greatest of everything.
		{
			row(tag(65535, "zzzzzzzz", 15, math.MaxUint32, 2)),
			[]byte{1, 1, 255, 255, 3, 8, 122, 122, 122, 122, 122, 122, 122, 122, 15, 255, 255, 255, 255, 15, 2},
		},
		{row(half(3, 0, "a", 0, math.MaxUint32)), []byte{1, 3, 0, 1, 97, 0, 255, 255, 255, 255, 15}},
		{row(note(0, 1<<40-241, "")), []byte{1, 4, 0, 143, 254, 255, 255, 255, 31, 0}},
		// The order is that of the sorts, carts, items, replicas and numbers.
		{
			row(tag(1, "a", 0, 1, 1), tag(1, "a", 0, 2, 1), tag(1, "a", 1, 1, 1), tag(1, "aa", 0, 1, 1), tag(1, "b", 0, 1, 1), tag(2, "a", 0, 1, 1), half(2, 0, "a", 0, 1)),
			slices.Concat([]byte{7},
				[]byte{1, 1, 1, 97, 0, 1, 1}, []byte{1, 1, 1, 97, 0, 2, 1}, []byte{1, 1, 1, 97, 1, 1, 1}, []byte{1, 1, 2, 97, 97, 0, 1, 1},
				[]byte{1, 1, 1, 98, 0, 1, 1}, []byte{1, 2, 1, 97, 0, 1, 1}, []byte{2, 0, 1, 97, 0, 1}),
		},
	}
}

// TestP2201Example1: the empty state.
func TestP2201Example1(t *testing.T) {
	for _, s := range [][]api.Atom{nil, row(), wrong()} {
		if got, e := Encode(s); e != api.OK || !slices.Equal(got, []byte{0}) || Size(s) != 1 {
			t.Errorf("Encode(%v) = %d, error %d, and Size is %d", s, got, e, Size(s))
		}
	}
}

// TestP2201Known: encodings that were written by hand, of states and of other rows that stand for them.
func TestP2201Known(t *testing.T) {
	for _, l := range known() {
		for _, s := range [][]api.Atom{l.s, append(wrong(), l.s...), append(slices.Clone(l.s), l.s...), shuffled(dice(1), l.s)} {
			if got, e := Encode(s); e != api.OK || !slices.Equal(got, l.b) {
				t.Errorf("Encode(%v) = %d, error %d, not %d", s, got, e, l.b)
			}
			if got := Size(s); got != len(l.b) {
				t.Errorf("Size(%v) = %d, not %d", s, got, len(l.b))
			}
			checkEncode(t, s)
		}
	}
}

// TestP2201Overtaken: of several values of a key only the last one is written.
func TestP2201Overtaken(t *testing.T) {
	for _, l := range []struct{ s, state []api.Atom }{
		{row(tag(1, "a", 2, 3, 2), tag(1, "a", 2, 3, 1)), row(tag(1, "a", 2, 3, 2))},
		{row(half(2, 1, "a", 0, 127), half(2, 1, "a", 0, 128), half(2, 1, "a", 0, 1)), row(half(2, 1, "a", 0, 128))},
		{row(note(4, 513, "z"), note(4, 256, "zzzzzzzz")), row(note(4, 513, "z"))},
		{row(note(4, 256, "a"), note(4, 256, "b"), note(4, 256, "")), row(note(4, 256, "b"))},
	} {
		got, e := Encode(l.s)
		want, f := Encode(l.state)
		if e != api.OK || f != api.OK || !slices.Equal(got, want) || !slices.Equal(got, counted(l.state)) {
			t.Errorf("Encode(%v) = %d, error %d, not %d", l.s, got, e, want)
		}
		checkEncode(t, l.s)
	}
}

// TestP2201Rows: all rows of up to 3 of few atoms, valid or not.
func TestP2201Rows(t *testing.T) {
	all := append(few(), wrong()[:3]...)
	rows := [][]api.Atom{nil}
	for i := 0; i < len(rows); i++ {
		if len(rows[i]) < 3 {
			for _, a := range all {
				rows = append(rows, append(slices.Clone(rows[i]), a))
			}
		}
		checkEncode(t, rows[i])
	}
}

// TestP2201Any: rows without a pattern.
func TestP2201Any(t *testing.T) {
	next := dice(2)
	for i := range 600 {
		s := anyRow(next, i%300)
		checkEncode(t, s)
		checkEncode(t, lat.Norm(s))
	}
}

// TestP2201Most: rows near the limit of atoms. What counts is the state, not the row.
func TestP2201Most(t *testing.T) {
	for _, n := range []int{127, 128, 4095, 4096} {
		checkEncode(t, tags(n))
		checkEncode(t, shuffled(dice(3), tags(n)))
		checkEncode(t, append(tags(n), tags(n)...))
		checkEncode(t, append(wrong(), tags(n)...))
	}
	for _, n := range []int{4097, 8192, 20000} {
		for _, s := range [][]api.Atom{tags(n), shuffled(dice(4), tags(n)), append(tags(n), wrong()...)} {
			b, e := Encode(s)
			if e != api.ErrBig || b != nil || Size(s) != 0 {
				t.Errorf("%d atoms: Encode has %d bytes, error %d, and Size is %d", n, len(b), e, Size(s))
			}
		}
	}
}

// TestP2202Known: encodings that were written by hand.
func TestP2202Known(t *testing.T) {
	for _, l := range known() {
		if got, e := Decode(l.b); e != api.OK || !slices.Equal(got, l.s) {
			t.Errorf("Decode(%d) = %v, error %d, not %v", l.b, got, e, l.s)
		}
		// No part of an encoding is one, and neither is one with anything behind it.
		for n := range l.b {
			checkError(t, l.b[:n], api.ErrShort)
		}
		for _, c := range []byte{0, 1, 2, 128, 255} {
			checkError(t, append(slices.Clone(l.b), c), api.ErrForm)
		}
		checkError(t, append(slices.Clone(l.b), l.b...), api.ErrForm)
	}
}

// TestP2202Errors: errors that were found by hand, each alone and ahead of others.
func TestP2202Errors(t *testing.T) {
	ones := func(n int, last ...byte) []byte { return append(slices.Repeat([]byte{255}, n), last...) }
	a, b := []byte{1, 1, 1, 97, 2, 3, 1}, []byte{2, 1, 1, 97, 0, 3}
	for _, l := range []struct {
		b []byte
		e api.Errno
	}{
		// The number of atoms.
		{nil, api.ErrShort},
		{[]byte{}, api.ErrShort},
		{[]byte{128}, api.ErrShort},
		{[]byte{128, 0}, api.ErrForm},
		{[]byte{129, 0, 9}, api.ErrForm},
		{joined(4096), api.ErrShort},
		{joined(4097), api.ErrRange},
		{joined(4097, a, b), api.ErrRange},
		{joined(1<<32+1, a), api.ErrRange},
		{joined(math.MaxUint64, a), api.ErrRange},
		{ones(9, 2), api.ErrBig},
		{ones(10), api.ErrBig},
		{ones(9), api.ErrShort},
		// No atoms, and bytes.
		{[]byte{0, 0}, api.ErrForm},
		{joined(0, a), api.ErrForm},
		// The errors of an atom, and of its key.
		{[]byte{1}, api.ErrShort},
		{[]byte{1, 0}, api.ErrForm},
		{[]byte{1, 5}, api.ErrForm},
		{[]byte{1, 255}, api.ErrForm},
		{[]byte{1, 1}, api.ErrShort},
		{[]byte{1, 1, 128, 0}, api.ErrForm},
		{[]byte{1, 1, 128, 128, 4}, api.ErrRange},
		{[]byte{1, 1, 1, 0}, api.ErrForm},
		{[]byte{1, 1, 1, 9, 97}, api.ErrForm},
		{[]byte{1, 1, 1, 1}, api.ErrShort},
		{[]byte{1, 1, 1, 1, 48, 2, 3, 1}, api.ErrForm},
		{[]byte{1, 1, 1, 1, 65, 2, 3, 1}, api.ErrForm},
		{[]byte{1, 1, 1, 2, 97, 0, 2, 3, 1}, api.ErrForm},
		{[]byte{1, 1, 1, 1, 97, 16, 3, 1}, api.ErrRange},
		{[]byte{1, 1, 1, 1, 97, 2, 0, 1}, api.ErrForm},
		{[]byte{1, 1, 1, 1, 97, 2, 128, 128, 128, 128, 16, 1}, api.ErrRange},
		{[]byte{1, 1, 1, 1, 97, 2, 3, 0}, api.ErrForm},
		{[]byte{1, 1, 1, 1, 97, 2, 3, 3}, api.ErrForm},
		{[]byte{1, 2, 1, 1, 97, 2, 0}, api.ErrForm},
		{[]byte{1, 3, 1, 1, 97, 2, 128, 128, 128, 128, 16}, api.ErrRange},
		{[]byte{1, 2, 1, 1, 97, 2, 128, 128, 128, 128, 128, 128, 128, 128, 128, 2}, api.ErrBig},
		{[]byte{1, 4, 2, 255, 1, 0}, api.ErrRange},
		{[]byte{1, 4, 2, 144, 2, 0}, api.ErrRange},
		{[]byte{1, 4, 2, 1, 0}, api.ErrForm},
		{[]byte{1, 4, 2, 128, 128, 128, 128, 128, 32, 0}, api.ErrRange},
		{[]byte{1, 4, 2, 131, 2}, api.ErrShort},
		{[]byte{1, 4, 2, 131, 2, 1, 45}, api.ErrForm},
		{[]byte{1, 4, 2, 131, 2, 9}, api.ErrForm},
		// The second atom is missing, wrong, the same one, or an earlier one.
		{joined(2, a), api.ErrShort},
		{joined(2, a, []byte{0}), api.ErrForm},
		{joined(2, a, a), api.ErrForm},
		{joined(2, b, a), api.ErrForm},
		{joined(2, []byte{1, 1, 1, 97, 2, 3, 1}, []byte{1, 1, 1, 97, 2, 3, 2}), api.ErrForm},
		{joined(2, []byte{4, 2, 128, 2, 0}, []byte{4, 2, 131, 2, 0}), api.ErrForm},
		{joined(2, []byte{1, 1, 1, 98, 2, 3, 1}, []byte{1, 1, 2, 97, 97, 2, 3, 1}), api.ErrForm},
		{joined(2, []byte{1, 1, 1, 97, 3, 1, 1}, []byte{1, 1, 1, 97, 2, 9, 1}), api.ErrForm},
		{joined(2, []byte{2, 9, 1, 97, 0, 3}, []byte{2, 8, 1, 97, 0, 3}), api.ErrForm},
		// An atom that does not follow is an error ahead of those behind it, and behind those of the atom.
		{joined(3, b, a), api.ErrForm},
		{joined(3, b, a, []byte{1, 1, 1, 97, 16}), api.ErrForm},
		{joined(2, b, []byte{1, 1, 1, 97, 16, 3, 1}), api.ErrRange},
		{joined(2, b, []byte{1, 1, 1, 97, 2, 3}), api.ErrShort},
		{joined(3, b, []byte{1, 1, 1, 97, 16}, a), api.ErrRange},
		{joined(3, a, []byte{2, 1, 1, 97, 16}, a), api.ErrRange},
		{joined(3, a, b, a), api.ErrForm},
		{joined(3, a, b, b), api.ErrForm},
		// Bytes behind the last atom are the last error.
		{joined(1, a, b), api.ErrForm},
		{joined(2, a, b, []byte{0}), api.ErrForm},
		{joined(1, []byte{1, 1, 1, 97, 16, 3, 1}, []byte{0}), api.ErrRange},
		{joined(1, []byte{128, 1}), api.ErrForm},
	} {
		checkError(t, l.b, l.e)
	}
	for _, s := range [][]byte{joined(1, a), joined(1, b), joined(2, a, b)} {
		if _, e := Decode(s); e != api.OK {
			t.Errorf("Decode(%d): error %d", s, e)
		}
	}
}

// TestP2202Most: as many atoms as there may be, and one more.
func TestP2202Most(t *testing.T) {
	most := tags(4097)
	if got, e := Decode(counted(most[:4096])); e != api.OK || !slices.Equal(got, most[:4096]) {
		t.Errorf("4096 atoms: %d atoms, error %d", len(got), e)
	}
	checkError(t, counted(most), api.ErrRange)
	checkError(t, append(counted(most[:4096]), 0), api.ErrForm)
	checkError(t, joined(4096, counted(most)[2:]), api.ErrForm)
	checkError(t, joined(4096, counted(most[:4095])[2:]), api.ErrShort)
	checkError(t, joined(4096, counted(most[:4095])[2:], atom.Bytes(most[4094])), api.ErrForm)
}

// firstError is the first error that the chapter names for b, found by looking at each atom alone, in bytes that begin with it.
func firstError(b []byte) ([]api.Atom, api.Errno) {
	n, size, e := number(b)
	if e != api.OK {
		return nil, e
	}
	b = b[size:]
	var s []api.Atom
	for len(s) < n {
		a, size, e := first(b)
		if e != api.OK {
			return nil, e
		}
		b = b[size:]
		s = append(s, a)
		if !lat.Right(s) {
			return nil, api.ErrForm
		}
	}
	if len(b) > 0 {
		return nil, api.ErrForm
	}
	return s, api.OK
}

// number is the number of atoms at the beginning of b, and how many bytes it has.
func number(b []byte) (int, int, api.Errno) {
	n := 0
	for i, c := range b {
		if i == 9 && c > 1 {
			return 0, 0, api.ErrBig
		}
		n += int(c%128) << (7 * i)
		switch {
		case c > 127:
		case c == 0 && i > 0:
			return 0, 0, api.ErrForm
		case n > 4096 || n < 0:
			return 0, 0, api.ErrRange
		default:
			return n, i + 1, api.OK
		}
	}
	return 0, 0, api.ErrShort
}

// first is the atom at the beginning of b, and how many bytes it has: those that its own encoding has.
func first(b []byte) (api.Atom, int, api.Errno) {
	c := wire.From(b)
	a := atom.Read(c)
	return a, len(atom.Bytes(a)), c.Err()
}

// checkDecode holds Decode of any bytes against the chapter, and what comes out against the law.
func checkDecode(t *testing.T, b []byte) {
	t.Helper()
	want, err := firstError(b)
	got, e := Decode(b)
	if e != err || !slices.Equal(got, want) {
		t.Fatalf("Decode(%d) = %v, error %d, not %v and %d", b, got, e, want, err)
	}
	if e != api.OK {
		if got != nil {
			t.Fatalf("Decode(%d) = %v, error %d", b, got, e)
		}
		return
	}
	again, e := Rows(got)
	if e != api.OK || !slices.Equal(again, b) || Size(got) != len(b) {
		t.Fatalf("Decode(%d) = %v, whose encoding is %d, error %d", b, got, again, e)
	}
}

// TestP2202Short: all byte strings of up to 7 of few bytes.
func TestP2202Short(t *testing.T) {
	all := [][]byte{nil}
	for i := 0; i < len(all); i++ {
		if len(all[i]) < 7 {
			for _, c := range []byte{0, 1, 2, 4, 97, 128} {
				all = append(all, append(slices.Clone(all[i]), c))
			}
		}
		checkDecode(t, all[i])
	}
}

// TestP2202Changed: encodings with one byte changed, left out, put in or cut off.
func TestP2202Changed(t *testing.T) {
	next := dice(5)
	for i := range 60 {
		b := counted(lat.Norm(anyRow(next, i%12)))
		checkDecode(t, b)
		for j := range b {
			for _, c := range []byte{0, 1, 2, 3, 15, 16, 97, 127, 128, 255, b[j] + 1, b[j] - 1} {
				changed := slices.Clone(b)
				changed[j] = c
				checkDecode(t, changed)
				checkDecode(t, slices.Insert(slices.Clone(b), j, c))
			}
			checkDecode(t, slices.Delete(slices.Clone(b), j, j+1))
			checkDecode(t, b[:j])
			checkDecode(t, b[j:])
		}
	}
}

// TestP2202Shuffled: encodings whose atoms stand in another order, or twice, or with another number of them.
func TestP2202Shuffled(t *testing.T) {
	next := dice(6)
	for i := range 400 {
		state := lat.Norm(anyRow(next, i%20))
		l := shuffled(next, state)
		if len(l) > 0 && i%3 == 0 {
			l = append(l, l[0])
		}
		b := counted(l)
		checkDecode(t, b)
		got, e := Decode(b)
		if lat.Right(l) != (e == api.OK) || e != api.OK && e != api.ErrForm {
			t.Fatalf("Decode(%d) = %v, error %d", b, got, e)
		}
		for n := range uint64(len(state) + 2) {
			checkDecode(t, joined(n, counted(state)[1:]))
		}
	}
}

// TestP2202Any: bytes without a pattern.
func TestP2202Any(t *testing.T) {
	next := dice(7)
	for i := range 20000 {
		var b []byte
		for range i % 40 {
			b = append(b, byte(next()>>next()%64))
		}
		checkDecode(t, b)
	}
}

// TestP2203Rows: rows that are states, and rows that are not, but stand for one.
func TestP2203Rows(t *testing.T) {
	a, b, c := tag(1, "a", 2, 3, 1), half(2, 1, "a", 0, 3), note(2, 259, "")
	for _, l := range []struct {
		s []api.Atom
		e api.Errno
		b []byte
	}{
		{nil, api.OK, []byte{0}},
		{row(), api.OK, []byte{0}},
		{row(a), api.OK, []byte{1, 1, 1, 1, 97, 2, 3, 1}},
		{row(b, c), api.OK, []byte{2, 2, 1, 1, 97, 0, 3, 4, 2, 131, 2, 0}},
		{row(a, b, c), api.OK, []byte{3, 1, 1, 1, 97, 2, 3, 1, 2, 1, 1, 97, 0, 3, 4, 2, 131, 2, 0}},
		{row(a, a), api.ErrForm, nil},
		{row(b, a), api.ErrForm, nil},
		{row(a, c, b), api.ErrForm, nil},
		{row(c, c), api.ErrForm, nil},
		{row(tag(1, "a", 2, 3, 1), tag(1, "a", 2, 3, 2)), api.ErrForm, nil},
		{row(note(4, 256, ""), note(4, 257, "")), api.ErrForm, nil},
		{row(wrong()[0]), api.ErrForm, nil},
		{row(a, b, c, wrong()[0]), api.ErrForm, nil},
		{row(wrong()[0], a, b, c), api.ErrForm, nil},
	} {
		if got, e := Rows(l.s); e != l.e || !slices.Equal(got, l.b) || e != api.OK && got != nil {
			t.Errorf("Rows(%v) = %d, error %d, not %d and %d", l.s, got, e, l.b, l.e)
		}
	}
	for _, a := range wrong() {
		if got, e := Rows(row(a)); e != api.ErrForm || got != nil {
			t.Errorf("Rows([%v]) = %d, error %d", a, got, e)
		}
	}
}

// TestP2203Most: too many atoms are the first error, but only those of the state count.
func TestP2203Most(t *testing.T) {
	for _, l := range []struct {
		s []api.Atom
		e api.Errno
	}{
		{tags(4096), api.OK},
		{tags(4097), api.ErrBig},
		{shuffled(dice(8), tags(4097)), api.ErrBig},
		{append(tags(4097), tags(1)...), api.ErrBig},
		{append(wrong(), tags(4097)...), api.ErrBig},
		{shuffled(dice(8), tags(4096)), api.ErrForm},
		{append(tags(4096), tags(1)...), api.ErrForm},
		{append(tags(4096), tags(4096)...), api.ErrForm},
		{append(wrong(), tags(4096)...), api.ErrForm},
		{append(tags(4096), wrong()...), api.ErrForm},
	} {
		if got, e := Rows(l.s); e != l.e || (e == api.OK) != slices.Equal(got, counted(l.s)) || e != api.OK && got != nil {
			t.Errorf("Rows of %d atoms: %d bytes, error %d, not %d", len(l.s), len(got), e, l.e)
		}
	}
}

// TestP2204Inverse: what was encoded comes back, for rows of all lengths.
func TestP2204Inverse(t *testing.T) {
	next := dice(9)
	for i := range 400 {
		s := anyRow(next, i)
		b, e := Encode(s)
		got, f := Decode(b)
		if e != api.OK || f != api.OK || !slices.Equal(got, lat.Norm(s)) {
			t.Fatalf("Decode(Encode(%v)) = %v, errors %d and %d", s, got, e, f)
		}
	}
}

// TestP2204Different: the encodings of two rows are equal if and only if their states are.
func TestP2204Different(t *testing.T) {
	all := append(few(), wrong()[0], wrong()[4])
	rows := [][]api.Atom{nil}
	for i := 0; i < len(rows); i++ {
		if len(rows[i]) < 2 {
			for _, a := range all {
				rows = append(rows, append(slices.Clone(rows[i]), a))
			}
		}
	}
	for _, s := range rows {
		a, _ := Encode(s)
		for _, u := range rows {
			b, _ := Encode(u)
			if slices.Equal(a, b) != lat.Same(s, u) {
				t.Fatalf("the encodings of %v and %v are %d and %d", s, u, a, b)
			}
		}
	}
}

// TestMany: rows far beyond the limit, and long byte strings, are dealt with in time.
func TestMany(t *testing.T) {
	var s []api.Atom
	for i := range 1 << 18 {
		s = append(s, tag(uint16(i>>4), "a", uint8(i&15), 1, 1))
	}
	if b, e := Encode(s); e != api.ErrBig || b != nil {
		t.Errorf("Encode: %d bytes, error %d", len(b), e)
	}
	checkEncode(t, slices.Repeat(s[:4096], 60))
	checkError(t, joined(4096, make([]byte, 1<<22)), api.ErrForm)
	checkError(t, append(counted(s[:4096]), make([]byte, 1<<22)...), api.ErrForm)
	checkError(t, slices.Repeat([]byte{255}, 1<<22), api.ErrBig)
}

// TestArguments: no argument is changed, nor what lies behind it, and results are new.
func TestArguments(t *testing.T) {
	next := dice(10)
	for i := range 60 {
		s := anyRow(next, 40)
		if i%2 == 0 {
			s = lat.Norm(s)
		}
		was := slices.Clone(s)
		part := s[: len(s)/2 : len(s)]
		want := counted(lat.Norm(part))
		for range 2 {
			Size(part)
			first, _ := Encode(part)
			second, _ := Rows(part)
			if !slices.Equal(s, was) || !slices.Equal(first, want) {
				t.Fatalf("Encode(%v) = %d, and the argument is %v", part, first, s)
			}
			clear(first)
			clear(second)
		}
		b := append(slices.Clone(want), 7, 7, 7)
		got, _ := Decode(b[:len(want)])
		clear(got)
		again, e := Decode(b[:len(want)])
		if e != api.OK || !slices.Equal(again, lat.Norm(part)) || !slices.Equal(b[:len(want)], want) || !slices.Equal(b[len(want):], []byte{7, 7, 7}) {
			t.Fatalf("Decode(%d) = %v, error %d, and the argument is %d", want, again, e, b)
		}
		clear(b)
		if !slices.Equal(again, lat.Norm(part)) {
			t.Fatal("a result changes with the argument")
		}
	}
}

// TestRepeated: equal arguments have equal results.
func TestRepeated(t *testing.T) {
	s := anyRow(dice(11), 50)
	first, _ := Encode(s)
	for range 20 {
		again, e := Encode(s)
		if e != api.OK || !slices.Equal(first, again) {
			t.Fatal("Encode differs")
		}
	}
}

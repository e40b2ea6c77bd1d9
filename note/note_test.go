package note

import (
	"bytes"
	"math"
	"regexp"
	"slices"
	"testing"

	"handcart/api"
	"handcart/lat"
)

// top is the greatest number of a note.
const top = math.MaxUint32

// dice returns a function whose results have no pattern, but are the same in each run.
func dice(seed uint64) func() uint64 {
	x := 88172645463325252 + seed
	return func() uint64 {
		x ^= x << 13
		x ^= x >> 7
		x ^= x << 17
		return x
	}
}

// padded returns s in an api.Name.
func padded(s string) api.Name {
	var n api.Name
	copy(n[:], s)
	return n
}

// note is a note with a stamp that is computed as the chapter of atoms says.
func note(cart uint16, n uint64, rep uint64, text string) api.Atom {
	return api.Atom{K: api.Key{Sort: 4, Cart: cart}, V: api.Val{N: n*256 + rep, Text: padded(text)}}
}

// other is an atom that is not a note.
func other(sort uint8, cart uint16, item string, rep uint8, seq uint32, n uint64) api.Atom {
	return api.Atom{K: api.Key{Sort: sort, Cart: cart, Item: padded(item), Rep: rep, Seq: seq}, V: api.Val{N: n}}
}

// keyed is an atom with another item, replica and Seq.
func keyed(a api.Atom, item string, rep uint8, seq uint32) api.Atom {
	a.K.Item, a.K.Rep, a.K.Seq = padded(item), rep, seq
	return a
}

// valued is an atom with another N.
func valued(a api.Atom, n uint64) api.Atom {
	a.V.N = n
	return a
}

// row is a short form.
func row(l ...api.Atom) []api.Atom { return l }

// others are valid atoms that are not notes, in carts that the tests ask for.
func others() []api.Atom {
	return row(
		other(1, 1, "a", 2, 3, 1), other(1, 1, "a", 2, 4, 2), other(1, 0, "b", 0, top, 2), other(1, 65535, "zzzzzzzz", 15, 1, 1),
		other(2, 1, "a", 2, 0, 1), other(2, 0, "a", 0, 0, 256), other(2, 65535, "zzzzzzzz", 15, 0, top), other(3, 1, "a", 2, 0, 770), other(3, 2, "cup", 3, 0, top),
	)
}

// wrong are atoms that are not valid, most of them almost notes of carts that the tests ask for.
func wrong() []api.Atom {
	a := note(1, 9, 2, "a")
	return row(
		note(1, 0, 0, "a"), note(1, 0, 2, "a"), note(1, 0, 15, ""), note(1, 9, 16, "a"), note(1, 9, 17, ""), note(1, top, 255, "a"),
		note(1, top+1, 0, "a"), note(1, top+1, 15, ""), valued(a, 1<<40), valued(a, 1<<40+9*256+2), valued(a, 1<<63+9*256), valued(a, math.MaxUint64),
		note(1, 9, 2, "A"), note(1, 9, 2, "9"), note(1, 9, 2, "-a"), note(1, 9, 2, "a b"), note(1, 9, 2, "a\x00b"), note(1, 9, 2, "\x00a"), note(1, top, 15, "abcdefgH"),
		keyed(a, "a", 0, 0), keyed(a, "", 2, 0), keyed(a, "", 0, 1), keyed(a, "a", 2, 3), keyed(note(0, top, 15, ""), "", 15, top), keyed(a, "\x00\x00\x00\x00\x00\x00\x00\x01", 0, 0),
		other(0, 1, "", 0, 0, 9*256+2), other(5, 1, "", 0, 0, 9*256+2), other(255, 1, "", 0, 0, 9*256+2), other(1, 1, "", 0, 0, 1), other(2, 1, "", 0, 0, 9*256+2), other(3, 1, "", 0, 0, 9*256+2),
		api.Atom{}, keyed(api.Atom{}, "", 0, 9),
	)
}

// names and strangers are texts that a note can have, besides an empty one, and cannot have.
func names() []string {
	return []string{"a", "z", "hi", "yo", "a-", "a0", "a9", "z-9", "a--", "abcdefg", "abcdefgh", "a-------", "z9999999", "zzzzzzzz"}
}

func strangers() []string {
	return []string{
		"A", "9", "-", "-a", "0", "a b", "aB", "a_", "`", "{", "a/", "a:", "a`", "a{", "a@", "a\x00b", "\x00a", "abcdefgH", "a\x00\x00\x00\x00\x00\x00\x01",
		"\x00\x00\x00\x00\x00\x00\x00\x01", "\x00\x00\x00\x00\x00\x00\x00a", "a\xff", "\xff\xff\xff\xff\xff\xff\xff\xff",
	}
}

// form is that of an empty text or a name, with what is behind it in an api.Name.
var form = regexp.MustCompile(`^([a-z][a-z0-9-]*)?\x00*$`)

// isNote reports whether a is a valid note, by the chapters' definitions.
func isNote(a api.Atom) bool {
	n, rep := a.V.N/256, a.V.N%256
	return a.K == api.Key{Sort: 4, Cart: a.K.Cart} && n >= 1 && n <= 1<<32-1 && rep < 16 && form.Match(a.V.Text[:])
}

// over reports whether x is over y, by the chapter of atoms.
func over(x, y api.Val) bool {
	return x.N > y.N || x.N == y.N && bytes.Compare(x.Text[:], y.Text[:]) >= 0
}

// last is the note of a cart, which is over all others of the row, by the chapters' definitions; without one it is zero.
func last(l []api.Atom, cart uint16) api.Val {
	for _, a := range l {
		isLast := isNote(a) && a.K.Cart == cart
		for _, b := range l {
			isLast = isLast && (!isNote(b) || b.K.Cart != cart || over(a.V, b.V))
		}
		if isLast {
			return a.V
		}
	}
	return api.Val{}
}

// noted are the carts of a row with a note.
func noted(l []api.Atom) []uint16 {
	var all []uint16
	for _, a := range l {
		if isNote(a) {
			all = append(all, a.K.Cart)
		}
	}
	slices.Sort(all)
	return slices.Compact(all)
}

// put is the result of Put, by the chapter's definition.
func put(l []api.Atom, rep uint8, cart uint16, text string) ([]api.Atom, api.Errno) {
	n, whole := last(l, cart).N/256, padded(text)
	switch {
	case rep > 15, !form.Match(whole[:]):
		return nil, 1
	case n == 4294967295:
		return nil, 8
	}
	return row(note(cart, n+1, uint64(rep), text)), 0
}

// listsOf calls visit with all lists of n of the elements of l.
func listsOf[T any](l []T, n int, visit func(l []T)) {
	chosen := make([]T, n)
	var choose func(i int)
	choose = func(i int) {
		if i == n {
			visit(chosen)
			return
		}
		for _, x := range l {
			chosen[i] = x
			choose(i + 1)
		}
	}
	choose(0)
}

// few are atoms that differ from the first one in one thing each, valid and not.
func few() []api.Atom {
	return row(
		note(1, 5, 2, "b"), note(1, 6, 2, "b"), note(1, 4, 2, "b"), note(1, 5, 3, "b"), note(1, 5, 1, "b"), note(1, 5, 2, "c"), note(1, 5, 2, ""), note(0, 5, 2, "b"), note(2, 5, 2, "b"),
		note(1, top, 2, "b"), note(1, top-1, 2, "b"), note(1, top+1, 2, "b"), note(1, 0, 2, "b"), note(1, 5, 16, "b"), note(1, 5, 2, "B"), keyed(note(1, 5, 2, "b"), "b", 2, 5), other(2, 1, "b", 2, 0, 5*256+2),
	)
}

// asked are the carts of which the tests want to know.
func asked() []uint16 { return []uint16{0, 1, 2, 256, 257, 65535} }

// anyRow is a row of n atoms: notes of few carts, other atoms, and atoms that are not valid.
func anyRow(next func() uint64, n int) []api.Atom {
	rest := append(others(), wrong()...)
	texts := append(names(), "", "", "", strangers()[next()%uint64(len(strangers()))])
	var l []api.Atom
	for range n {
		a := note(uint16(next()%3), next()%6, next()%17, texts[next()%uint64(len(texts))])
		switch next() % 6 {
		case 0:
			a = rest[next()%uint64(len(rest))]
		case 1:
			a.V.N = next() >> (next() % 64)
		case 2:
			a.K.Cart = uint16(next())
		}
		l = append(l, a)
	}
	return l
}

// checkGet holds the note of a cart against another value.
func checkGet(t *testing.T, l []api.Atom, cart uint16, want api.Val) {
	t.Helper()
	text, n, rep := Get(l, cart)
	if text != want.Text || n != uint32(want.N/256) || rep != uint8(want.N%256) {
		t.Fatalf("Get %v, %d: %q, %d, %d, not %v", l, cart, text, n, rep, want)
	}
}

// checkRow holds what is told of the notes of a row against the chapter's definitions, taken literally.
func checkRow(t *testing.T, l []api.Atom) {
	t.Helper()
	for _, cart := range asked() {
		checkGet(t, l, cart, last(l, cart))
	}
	if got, want := Carts(l), noted(l); !slices.Equal(got, want) {
		t.Fatalf("Carts %v: %v, not %v", l, got, want)
	}
}

// checkPut holds the result of Put against the chapter's definition, taken literally.
func checkPut(t *testing.T, l []api.Atom, rep uint8, cart uint16, text string) {
	t.Helper()
	want, err := put(l, rep, cart, text)
	if got, e := Put(l, rep, cart, padded(text)); !slices.Equal(got, want) || e != err || got == nil != (want == nil) {
		t.Fatalf("Put %v, %d, %d, %q: %v, %d, not %v, %d", l, rep, cart, text, got, e, want, err)
	}
}

func TestP1601Get(t *testing.T) {
	a := note(1, 5, 2, "b")
	none := api.Val{}
	for _, c := range []struct {
		l    []api.Atom
		cart uint16
		want api.Val
	}{
		{nil, 0, none},
		{nil, 1, none},
		{row(), 1, none},
		{others(), 0, none},
		{others(), 1, none},
		{others(), 65535, none},
		{wrong(), 0, none},
		{wrong(), 1, none},
		{row(a), 1, a.V},
		{row(a), 0, none},
		{row(a), 2, none},
		{row(a), 257, none},
		{row(a), 1<<15 + 1, none},
		{row(note(1, 1, 0, "")), 1, api.Val{N: 256}},
		{row(note(0, 1, 0, "a")), 0, api.Val{N: 256, Text: padded("a")}},
		{row(note(65535, top, 15, "zzzzzzzz")), 65535, api.Val{N: 1<<40 - 241, Text: padded("zzzzzzzz")}},
		{row(a, note(1, 5, 2, "b")), 1, a.V},
		{row(a, note(1, 6, 0, "a")), 1, note(1, 6, 0, "a").V},
		{row(note(1, 6, 0, "a"), a), 1, note(1, 6, 0, "a").V},
		{row(a, note(1, 5, 3, "a")), 1, note(1, 5, 3, "a").V},
		{row(note(1, 5, 3, "a"), a), 1, note(1, 5, 3, "a").V},
		{row(a, note(1, 5, 2, "c")), 1, note(1, 5, 2, "c").V},
		{row(note(1, 5, 2, "c"), a), 1, note(1, 5, 2, "c").V},
		{row(a, note(1, 5, 2, "")), 1, a.V},
		{row(a, note(1, 5, 2, "aaaaaaaa")), 1, a.V},
		{row(a, note(1, 5, 3, "")), 1, note(1, 5, 3, "").V},
		{row(a, note(1, 4, 15, "z")), 1, a.V},
		{row(note(0, 9, 9, "z"), a, note(2, 9, 9, "z"), note(257, 9, 9, "z")), 1, a.V},
		{row(note(2, 9, 9, "z"), note(257, 9, 9, "z"), a, note(0, 9, 9, "z")), 1, a.V},
		{append(append(wrong(), a), others()...), 1, a.V},
		{append(append(others(), a), wrong()...), 0, none},
	} {
		checkGet(t, c.l, c.cart, c.want)
		if got := last(c.l, c.cart); got != c.want {
			t.Errorf("the second reading of Get %v, %d: %v, not %v", c.l, c.cart, got, c.want)
		}
	}
}

func TestP1601Carts(t *testing.T) {
	for _, c := range []struct {
		l    []api.Atom
		want []uint16
	}{
		{nil, nil},
		{row(), nil},
		{others(), nil},
		{wrong(), nil},
		{row(note(0, 1, 0, "")), []uint16{0}},
		{row(note(1, 5, 2, "b")), []uint16{1}},
		{row(note(65535, top, 15, "zzzzzzzz")), []uint16{65535}},
		{row(note(1, 5, 2, "b"), note(1, 6, 2, "c"), note(1, 5, 2, "b")), []uint16{1}},
		{row(note(1, 5, 2, "b"), note(0, 5, 2, "")), []uint16{0, 1}},
		{row(note(256, 1, 0, ""), note(65535, 1, 0, "a"), note(255, 1, 0, "z"), note(1, 9, 0, ""), note(256, 2, 0, "a")), []uint16{1, 255, 256, 65535}},
		{append(append(wrong(), note(2, 1, 0, ""), note(1, 1, 0, "")), others()...), []uint16{1, 2}},
	} {
		if got := Carts(c.l); !slices.Equal(got, c.want) {
			t.Errorf("Carts %v: %v, not %v", c.l, got, c.want)
		}
		if got := noted(c.l); !slices.Equal(got, c.want) {
			t.Errorf("the second reading of Carts %v: %v, not %v", c.l, got, c.want)
		}
	}
}

// TestP1601Bounds: each cart has a note of its own, with numbers up to the greatest one and all 16 replicas, and no others.
func TestP1601Bounds(t *testing.T) {
	for _, cart := range []uint16{0, 1, 255, 256, 1<<15 - 1, 1 << 15, math.MaxUint16 - 1, math.MaxUint16} {
		for _, n := range []uint64{0, 1, 2, 255, 256, 1<<31 - 1, 1 << 31, top - 1, top, top + 1, 1<<33 + 1, 1<<56 - 1} {
			for rep := range uint64(256) {
				l := row(note(cart, n, rep, "cup"))
				var want api.Val
				var carts []uint16
				if n >= 1 && n <= top && rep < 16 {
					want, carts = l[0].V, []uint16{cart}
				}
				checkGet(t, l, cart, want)
				if got := Carts(l); !slices.Equal(got, carts) {
					t.Fatalf("Carts %v: %v", l, got)
				}
				for _, x := range []uint16{cart + 1, cart - 1, cart ^ 256, cart ^ 1<<15} {
					checkGet(t, l, x, api.Val{})
				}
			}
		}
	}
}

func TestP1601Texts(t *testing.T) {
	for _, text := range append(names(), "") {
		checkGet(t, row(note(1, 5, 2, text)), 1, api.Val{N: 5*256 + 2, Text: padded(text)})
	}
	for _, text := range strangers() {
		checkGet(t, row(note(1, 5, 2, text)), 1, api.Val{})
		checkGet(t, row(note(1, 5, 2, text), note(1, 4, 1, "a")), 1, note(1, 4, 1, "a").V)
	}
}

func TestP1601Rows(t *testing.T) {
	for n := range 4 {
		listsOf(few(), n, func(l []api.Atom) { checkRow(t, l) })
	}
	next := dice(1)
	for i := range 600 {
		checkRow(t, anyRow(next, i%80))
	}
}

// TestP1601Order: the carts are in increasing order and have the notes that were written last, whatever the order of the row.
func TestP1601Order(t *testing.T) {
	next := dice(2)
	for range 200 {
		l := append(others(), wrong()...)
		for cart := range uint16(300) {
			if cart%3 == 1 {
				cart ^= 1 << 15
			}
			for i := range next()%3 + 1 {
				l = append(l, note(cart, i+1, next()%16, names()[next()%14]))
			}
		}
		for i := range l {
			j := next() % uint64(i+1)
			l[i], l[j] = l[j], l[i]
		}
		carts := Carts(l)
		if want := noted(l); len(carts) < 300 || !slices.Equal(carts, want) || !slices.Equal(Carts(lat.Norm(l)), want) {
			t.Fatalf("Carts: %v", carts)
		}
		for range 5 {
			cart := carts[next()%uint64(len(carts))]
			checkGet(t, l, cart, last(l, cart))
			checkGet(t, lat.Norm(l), cart, last(l, cart))
		}
	}
}

func TestP1602Cases(t *testing.T) {
	a, full := note(1, 5, 2, "b"), note(1, top, 3, "b")
	for _, c := range []struct {
		l    []api.Atom
		rep  uint8
		cart uint16
		text string
		want api.Val
		err  api.Errno
	}{
		{nil, 0, 0, "", api.Val{N: 256}, api.OK},
		{nil, 0, 0, "a", api.Val{N: 256, Text: padded("a")}, api.OK},
		{nil, 15, 65535, "zzzzzzzz", api.Val{N: 271, Text: padded("zzzzzzzz")}, api.OK},
		{nil, 16, 0, "a", api.Val{}, api.ErrArg},
		{nil, 16, 0, "", api.Val{}, api.ErrArg},
		{nil, 255, 0, "a", api.Val{}, api.ErrArg},
		{nil, 0, 0, "A", api.Val{}, api.ErrArg},
		{nil, 0, 0, "9", api.Val{}, api.ErrArg},
		{nil, 0, 0, "a\x00b", api.Val{}, api.ErrArg},
		{nil, 0, 0, "\x00a", api.Val{}, api.ErrArg},
		{nil, 16, 0, "A", api.Val{}, api.ErrArg},
		{row(a), 2, 1, "b", note(1, 6, 2, "b").V, api.OK},
		{row(a), 2, 1, "a", note(1, 6, 2, "a").V, api.OK},
		{row(a), 2, 1, "", note(1, 6, 2, "").V, api.OK},
		{row(a), 0, 1, "", note(1, 6, 0, "").V, api.OK},
		{row(a), 15, 1, "z", note(1, 6, 15, "z").V, api.OK},
		{row(a), 18, 1, "z", api.Val{}, api.ErrArg},
		{row(a), 2, 0, "z", note(0, 1, 2, "z").V, api.OK},
		{row(a), 2, 257, "z", note(257, 1, 2, "z").V, api.OK},
		{row(a, note(1, 9, 1, "c"), note(1, 7, 3, "d"), note(2, 90, 3, "d")), 2, 1, "e", note(1, 10, 2, "e").V, api.OK},
		{row(note(1, 255, 15, "")), 0, 1, "e", api.Val{N: 65536, Text: padded("e")}, api.OK},
		{row(note(1, 1<<31-1, 15, "")), 0, 1, "e", note(1, 1<<31, 0, "e").V, api.OK},
		{row(note(1, top-2, 15, "")), 15, 1, "e", note(1, top-1, 15, "e").V, api.OK},
		{row(note(1, top-1, 15, "")), 15, 1, "e", api.Val{N: 1<<40 - 241, Text: padded("e")}, api.OK},
		{row(note(1, top-1, 0, "z")), 0, 1, "", api.Val{N: 1<<40 - 256}, api.OK},
		{row(full), 0, 1, "e", api.Val{}, api.ErrSaturated},
		{row(full), 3, 1, "b", api.Val{}, api.ErrSaturated},
		{row(full), 15, 1, "", api.Val{}, api.ErrSaturated},
		{row(note(1, top, 0, "")), 15, 1, "z", api.Val{}, api.ErrSaturated},
		{row(note(1, top, 15, "")), 15, 1, "z", api.Val{}, api.ErrSaturated},
		{row(full, note(1, top-1, 15, "z"), a), 3, 1, "b", api.Val{}, api.ErrSaturated},
		{row(full), 16, 1, "b", api.Val{}, api.ErrArg},
		{row(full), 255, 1, "", api.Val{}, api.ErrArg},
		{row(full), 3, 1, "B", api.Val{}, api.ErrArg},
		{row(full), 3, 0, "b", note(0, 1, 3, "b").V, api.OK},
		{row(full), 3, 2, "", note(2, 1, 3, "").V, api.OK},
		{wrong(), 3, 1, "b", note(1, 1, 3, "b").V, api.OK},
		{wrong(), 3, 0, "b", note(0, 1, 3, "b").V, api.OK},
		{others(), 3, 1, "b", note(1, 1, 3, "b").V, api.OK},
		{append(wrong(), a), 3, 1, "b", note(1, 6, 3, "b").V, api.OK},
	} {
		var want []api.Atom
		if c.err == api.OK {
			want = row(api.Atom{K: api.Key{Sort: api.Note, Cart: c.cart}, V: c.want})
		}
		if got, e := Put(c.l, c.rep, c.cart, padded(c.text)); !slices.Equal(got, want) || e != c.err || got == nil != (want == nil) {
			t.Errorf("Put %v, %d, %d, %q: %v, %d, not %v, %d", c.l, c.rep, c.cart, c.text, got, e, want, c.err)
		}
		if got, e := put(c.l, c.rep, c.cart, c.text); !slices.Equal(got, want) || e != c.err {
			t.Errorf("the second reading of Put %v, %d, %d, %q: %v, %d, not %v, %d", c.l, c.rep, c.cart, c.text, got, e, want, c.err)
		}
	}
}

// TestP1602Bounds: all replicas, with notes at and beyond each bound and with all texts.
func TestP1602Bounds(t *testing.T) {
	texts := append(append(names(), ""), strangers()...)
	for _, n := range []uint64{0, 1, 2, 255, 256, 1<<31 - 1, 1 << 31, top - 2, top - 1, top, top + 1} {
		for _, by := range []uint64{0, 2, 15, 16} {
			// With the number 0 or the replica 16 this note is not valid, and has no influence.
			l := row(note(1, n, by, "b"))
			for rep := range 256 {
				checkPut(t, l, uint8(rep), 1, "b")
				checkPut(t, l, uint8(rep), 0, "")
			}
			for _, text := range texts {
				for _, rep := range []uint8{0, 2, 15, 16, 18, 255} {
					checkPut(t, l, rep, 1, text)
					checkPut(t, l, rep, 65535, text)
				}
			}
		}
	}
}

// TestP1602Texts: each byte at each place of texts of each length.
func TestP1602Texts(t *testing.T) {
	for size := range 9 {
		for place := range 8 {
			for c := range 256 {
				text := padded("abc-e9gh"[:size])
				text[place] = byte(c)
				got, e := Put(nil, 3, 7, text)
				if good := form.Match(text[:]); good != (e == api.OK) || !good && (e != api.ErrArg || got != nil) {
					t.Fatalf("Put %q: %v, %d", text, got, e)
				}
				if want := row(note(7, 1, 3, string(text[:]))); e == api.OK && !slices.Equal(got, want) {
					t.Fatalf("Put %q: %v", text, got)
				}
			}
		}
	}
}

func TestP1602Rows(t *testing.T) {
	for n := range 4 {
		listsOf(few(), n, func(l []api.Atom) {
			for _, rep := range []uint8{0, 2, 15, 16} {
				checkPut(t, l, rep, 1, "b")
			}
			checkPut(t, l, 2, 0, "")
			checkPut(t, l, 2, 1, "B")
		})
	}
	next := dice(3)
	texts := append(append(names(), ""), strangers()...)
	for i := range 4000 {
		checkPut(t, anyRow(next, i%80), uint8(next()%18), uint16(next()%4), texts[next()%uint64(len(texts))])
	}
}

// values are values at and beyond each bound, with texts of any form.
func values() []api.Val {
	var l []api.Val
	for _, n := range []uint64{0, 1, 2, 255, 256, 257, 271, 272, 511, 512, 1<<31 - 1, 1 << 31, 1<<32 - 1, 1 << 32, 1<<40 - 256, 1<<40 - 241, 1<<40 - 1, 1 << 40, 1<<63 - 1, 1 << 63, math.MaxUint64 - 1, math.MaxUint64} {
		for _, text := range append(append(names(), "", "b", "ab", "aa"), strangers()...) {
			l = append(l, api.Val{N: n, Text: padded(text)})
		}
	}
	return l
}

func TestP1603Newer(t *testing.T) {
	a := note(1, 5, 2, "b").V
	for _, c := range []struct {
		a, b api.Val
		want bool
	}{
		{api.Val{}, api.Val{}, false},
		{a, api.Val{}, true},
		{api.Val{}, a, false},
		{a, a, false},
		{note(1, 6, 2, "b").V, a, true},
		{note(1, 4, 2, "b").V, a, false},
		{note(1, 6, 0, "").V, a, true},
		{note(1, 4, 15, "z").V, a, false},
		{note(1, 5, 3, "").V, a, true},
		{note(1, 5, 1, "z").V, a, false},
		{note(1, 5, 2, "c").V, a, true},
		{note(1, 5, 2, "b-").V, a, true},
		{note(1, 5, 2, "az").V, a, false},
		{note(1, 5, 2, "").V, a, false},
		{a, note(1, 5, 2, "").V, true},
		{note(1, top, 15, "zzzzzzzz").V, note(1, top, 15, "zzzzzzzy").V, true},
		{note(1, top, 15, "zzzzzzzy").V, note(1, top, 15, "zzzzzzzz").V, false},
		{api.Val{N: api.Gone}, api.Val{N: api.There}, true},
		{api.Val{N: api.There}, api.Val{N: api.Gone}, false},
		{api.Val{N: math.MaxUint64}, api.Val{N: 1<<63 - 1, Text: padded("z")}, true},
		{api.Val{N: 1}, api.Val{N: math.MaxUint64}, false},
		{api.Val{Text: padded("\xff")}, api.Val{Text: padded("\x7f")}, true},
		{api.Val{Text: padded("\x00\x00\x00\x00\x00\x00\x00\x01")}, api.Val{}, true},
	} {
		if got := Newer(c.a, c.b); got != c.want {
			t.Errorf("Newer %v, %v: %v", c.a, c.b, got)
		}
	}
}

// TestP1603Pairs: all pairs of values, of which exactly one is newer than the other one if they differ.
func TestP1603Pairs(t *testing.T) {
	values := values()
	for _, a := range values {
		for _, b := range values {
			if got := Newer(a, b); got != (over(a, b) && a != b) {
				t.Fatalf("Newer %v, %v: %v", a, b, got)
			}
			if a != b && Newer(a, b) == Newer(b, a) {
				t.Fatalf("Newer tells the same of %v, %v, and in turn", a, b)
			}
		}
	}
	next := dice(4)
	for range 100000 {
		a, b := values[next()%uint64(len(values))], values[next()%uint64(len(values))]
		a.N, b.N = next()%4, next()%4
		a.Text[next()%8], b.Text[next()%8] = byte(next()), byte(next())
		if got := Newer(a, b); got != (over(a, b) && a != b) {
			t.Fatalf("Newer %v, %v: %v", a, b, got)
		}
	}
}

// TestP1603Joins: a note is newer than another one if it replaces it in a state.
func TestP1603Joins(t *testing.T) {
	var notes []api.Atom
	for _, v := range values() {
		if a := (api.Atom{K: api.Key{Sort: 4, Cart: 1}, V: v}); isNote(a) {
			notes = append(notes, a)
		}
	}
	for _, a := range notes {
		for _, b := range notes {
			replaced := lat.Join(row(b), row(a))[0] != b
			if Newer(a.V, b.V) != replaced {
				t.Fatalf("Newer %v, %v: %v", a.V, b.V, !replaced)
			}
		}
	}
}

// checkOthers holds the notes of all carts but one against those before.
func checkOthers(t *testing.T, before, after []api.Atom, cart uint16) {
	t.Helper()
	except := func(l []uint16) []uint16 {
		return slices.DeleteFunc(l, func(x uint16) bool { return x == cart })
	}
	rest := except(Carts(before))
	if got := except(Carts(after)); !slices.Equal(got, rest) {
		t.Fatalf("the notes of other carts than %d are those of %v, not %v", cart, got, rest)
	}
	for _, x := range append(rest, asked()...) {
		if x != cart {
			text, n, rep := Get(before, x)
			checkGet(t, after, x, note(x, uint64(n), uint64(rep), string(text[:])).V)
		}
	}
}

// checkLaws holds the notes that two replicas write into a cart of the state of s against the laws.
func checkLaws(t *testing.T, s []api.Atom, first, second uint8, cart uint16, one, two string) {
	t.Helper()
	_, n, _ := Get(s, cart)
	a, e := Put(s, first, cart, padded(one))
	b, f := Put(s, second, cart, padded(two))
	if n == top {
		if e != api.ErrSaturated || f != api.ErrSaturated {
			t.Fatalf("Put %v, %d: %d, and %d: %d", s, first, e, second, f)
		}
		return
	}
	if e != api.OK || f != api.OK || !lat.Right(a) || len(a) != 1 || a[0].K.Cart != cart {
		t.Fatalf("Put %v, %d: %v, %d, and %d: %v, %d", s, first, a, e, second, b, f)
	}
	for _, after := range [][]api.Atom{lat.Join(s, a), lat.Join(a, s), lat.All(a, s, a)} {
		checkGet(t, after, cart, note(cart, uint64(n)+1, uint64(first), one).V)
		checkOthers(t, s, after, cart)
	}
	// Concurrent notes on the same state have equal numbers.
	want := note(cart, uint64(n)+1, uint64(max(first, second)), one).V
	if second > first || second == first && two > one {
		want.Text = padded(two)
	}
	for _, both := range [][]api.Atom{lat.All(s, a, b), lat.All(b, a, s), lat.Join(a, b), lat.Join(lat.Join(s, a), lat.Join(s, b)), lat.Join(lat.Join(s, b), a)} {
		checkGet(t, both, cart, want)
	}
	checkOthers(t, s, lat.All(s, a, b), cart)
}

// TestP1604Laws: all rows of up to 2 of few, and rows without a pattern.
func TestP1604Laws(t *testing.T) {
	for n := range 3 {
		listsOf(few(), n, func(l []api.Atom) {
			for _, c := range []struct {
				first, second uint8
				one, two      string
			}{{2, 1, "a", "z"}, {1, 2, "a", "z"}, {2, 2, "a", "z"}, {0, 15, "z", ""}, {15, 0, "", "b"}, {3, 3, "", ""}} {
				checkLaws(t, l, c.first, c.second, 1, c.one, c.two)
				checkLaws(t, l, c.first, c.second, 0, c.one, c.two)
			}
		})
	}
	next := dice(5)
	texts := append(names(), "")
	for i := range 2000 {
		checkLaws(t, anyRow(next, i%40), uint8(next()%16), uint8(next()%16), uint16(next()%3), texts[next()%15], texts[next()%15])
	}
}

// TestP1604Numbers: of concurrent notes on states with different notes the one with the greater number counts, whatever the replicas and texts, and for equal numbers the one with the greater replica.
func TestP1604Numbers(t *testing.T) {
	for n := range uint64(5) {
		for m := range uint64(5) {
			for first := range uint8(16) {
				for second := range uint8(16) {
					a, _ := Put(row(note(1, n, 15, "q")), first, 1, padded("z"))
					b, _ := Put(row(note(1, m, 15, "q")), second, 1, padded("a"))
					want := a[0].V
					if m > n || m == n && second > first {
						want = b[0].V
					}
					checkGet(t, lat.Join(a, b), 1, want)
					checkGet(t, lat.Join(b, a), 1, want)
					if newer := want == a[0].V; Newer(a[0].V, b[0].V) != newer || Newer(b[0].V, a[0].V) == newer {
						t.Fatalf("Newer does not tell that %v is the last one of %v and %v", want, a, b)
					}
				}
			}
		}
	}
}

// TestP1604Reps: of what all 16 replicas write on the same state the note of the last one counts, in any order.
func TestP1604Reps(t *testing.T) {
	next := dice(6)
	for i := range 300 {
		s := slices.DeleteFunc(anyRow(next, i%40), func(a api.Atom) bool { return a.V.N/256 == top })
		all := [][]api.Atom{s}
		for rep := range uint8(16) {
			delta, e := Put(s, rep, 1, padded(names()[next()%14]))
			if e != api.OK {
				t.Fatalf("Put %v, %d: %v, %d", s, rep, delta, e)
			}
			all = append(all, delta, delta)
		}
		want := all[len(all)-1][0].V
		for j := range all {
			k := next() % uint64(j+1)
			all[j], all[k] = all[k], all[j]
		}
		joined := lat.All(all...)
		checkGet(t, joined, 1, want)
		checkOthers(t, s, joined, 1)
	}
}

// TestP1604Replicas: replicas write notes and join each other's states: a note is the last one of those that its replica knows.
func TestP1604Replicas(t *testing.T) {
	next := dice(7)
	for range 100 {
		const n = 4
		var states [n][]api.Atom
		var known [n][3][]api.Val
		for range 60 {
			i, j := next()%n, next()%n
			if next()%2 == 0 {
				cart, text := next()%3, names()[next()%14]
				delta, e := Put(states[i], uint8(i), uint16(cart), padded(text))
				if e != api.OK || len(delta) != 1 {
					t.Fatalf("Put %v, %d, %d, %q: %v, %d", states[i], i, cart, text, delta, e)
				}
				states[i] = lat.Join(states[i], delta)
				checkGet(t, states[i], uint16(cart), delta[0].V)
				known[i][cart] = append(slices.Clone(known[i][cart]), delta[0].V)
			} else {
				states[i] = lat.Join(states[i], states[j])
				for cart := range known[i] {
					known[i][cart] = slices.Concat(known[i][cart], known[j][cart])
				}
			}
			for cart, l := range known[i] {
				var want api.Val
				for _, v := range l {
					if v.N > want.N {
						want = v
					}
				}
				checkGet(t, states[i], uint16(cart), want)
			}
		}
	}
}

// TestP1604Example1: Put of hi by replica 2 in a cart without a note yields the text hi, the number 1 and the replica 2.
func TestP1604Example1(t *testing.T) {
	delta, e := Put(row(note(0, 9, 9, "yo")), 2, 1, padded("hi"))
	text, n, rep := Get(delta, 1)
	if e != api.OK || text != padded("hi") || n != 1 || rep != 2 {
		t.Errorf("%v, %d: %q, %d, %d", delta, e, text, n, rep)
	}
}

// TestMany: rows have no greatest length, all carts may have notes, and of many notes of a cart the last one counts.
func TestMany(t *testing.T) {
	const n = 1<<16 + 1
	var l []api.Atom
	for i := range uint64(n) {
		// 7919 has no factor in common with n, so each number occurs once.
		l = append(l, note(9, i*7919%n+2, i%16, "cup"), note(uint16(i*7919), 1, 3, ""))
	}
	text, number, _ := Get(l, 9)
	if text != padded("cup") || number != n+1 {
		t.Errorf("Get: %q, %d", text, number)
	}
	carts := Carts(l)
	for i, cart := range carts {
		if len(carts) != 1<<16 || int(cart) != i {
			t.Fatalf("Carts: %d of %d is %d", i, len(carts), cart)
		}
	}
	if got, e := Put(l, 4, 9, padded("pen")); !slices.Equal(got, row(note(9, n+2, 4, "pen"))) || e != api.OK {
		t.Errorf("Put: %v, %d", got, e)
	}
	checkGet(t, l, 65535, note(65535, 1, 3, "").V)
}

// TestArguments: arguments and their spare capacity stay as they are, and results are apart from them.
func TestArguments(t *testing.T) {
	next := dice(8)
	for i := range 300 {
		whole := anyRow(next, i%40+3)
		if i%2 == 0 {
			whole = lat.Norm(whole)
		}
		kept := slices.Clone(whole)
		l := whole[:len(whole)/2]
		for cart := range uint16(3) {
			Get(l, cart)
			delta, _ := Put(l, uint8(next()%17), cart, padded(names()[next()%14]))
			clear(delta[:cap(delta)])
		}
		carts := Carts(l)
		clear(carts[:cap(carts)])
		if !slices.Equal(whole, kept) {
			t.Fatalf("the row %v has changed", kept)
		}
	}
}

// TestRepeated: the order in which a map is visited is not to be seen, and a row tells what its state tells.
func TestRepeated(t *testing.T) {
	l := anyRow(dice(9), 300)
	s := lat.Norm(l)
	carts := Carts(l)
	for _, cart := range append(asked(), carts...) {
		want := last(l, cart)
		for range 20 {
			checkGet(t, l, cart, want)
			checkGet(t, s, cart, want)
			if !slices.Equal(Carts(l), carts) || !slices.Equal(Carts(s), carts) {
				t.Fatal("a second call of Carts has another result")
			}
		}
		for rep := range uint8(17) {
			checkPut(t, l, rep, cart, "b")
			checkPut(t, s, rep, cart, "b")
		}
	}
}

package tags

import (
	"bytes"
	"math"
	"slices"
	"testing"

	"handcart/api"
	"handcart/atom"
	"handcart/lat"
	"handcart/vec"
)

// top is the greatest number of a tag.
const top = math.MaxUint32

// dice returns a function whose results have no pattern, but are the same in each run.
func dice(seed uint64) func() uint64 {
	x := 88172645463325252 + seed
	return func() uint64 {
		x ^= x << 13
		x ^= x >> 7
		x ^= x << 17
		return x
	}
}

// padded returns s in an api.Name.
func padded(s string) api.Name {
	var n api.Name
	copy(n[:], s)
	return n
}

// named are api.Names, in the order of the texts.
func named(l ...string) []api.Name {
	var all []api.Name
	for _, s := range l {
		all = append(all, padded(s))
	}
	return all
}

func tag(cart uint16, item string, rep uint8, seq uint32, n uint64) api.Atom {
	return api.Atom{K: api.Key{Sort: api.Tag, Cart: cart, Item: padded(item), Rep: rep, Seq: seq}, V: api.Val{N: n}}
}

func half(sort uint8, cart uint16, item string, rep uint8, n uint64) api.Atom {
	return api.Atom{K: api.Key{Sort: sort, Cart: cart, Item: padded(item), Rep: rep}, V: api.Val{N: n}}
}

func note(cart uint16, stamp uint64, text string) api.Atom {
	return api.Atom{K: api.Key{Sort: api.Note, Cart: cart}, V: api.Val{N: stamp, Text: padded(text)}}
}

// numbered is an atom with another Seq.
func numbered(a api.Atom, seq uint32) api.Atom {
	a.K.Seq = seq
	return a
}

// texted is an atom with another Text.
func texted(a api.Atom, text string) api.Atom {
	a.V.Text = padded(text)
	return a
}

// row is a short form, as keys is.
func row(l ...api.Atom) []api.Atom { return l }

// keys are those of atoms.
func keys(l ...api.Atom) []api.Key {
	var all []api.Key
	for _, a := range l {
		all = append(all, a.K)
	}
	return all
}

// others are valid atoms that are not tags, some of items that the tests ask for.
func others() []api.Atom {
	return row(
		half(api.Plus, 0, "a", 0, 1), half(api.Plus, 1, "a", 2, 1), half(api.Plus, 9, "cup", 15, math.MaxUint32), half(api.Minus, 1, "a", 2, 1), half(api.Minus, 65535, "zzzzzzzz", 3, 7),
		note(0, 256, ""), note(1, 271, "a"), note(65535, 1<<40-241, "zzzzzzzz"),
	)
}

// wrong are atoms that are not valid, most of them almost tags of items that the tests ask for.
func wrong() []api.Atom {
	return row(
		tag(1, "a", 0, top, 0), tag(1, "a", 1, top, 3), tag(1, "a", 2, 9, math.MaxUint64), tag(1, "a", 2, 9, 1<<32+api.There),
		texted(tag(1, "a", 3, 9, api.There), "a"), texted(tag(1, "a", 3, 9, api.Gone), "A"),
		tag(1, "", 4, 9, api.There), tag(1, "A", 5, 9, api.There), tag(1, "9", 6, top, api.Gone), tag(1, "a\x00b", 7, 9, api.There),
		tag(1, "a", 16, 9, api.There), tag(1, "a", 17, 9, api.Gone), tag(1, "a", 255, top, api.There), tag(1, "a", 8, 0, api.There),
		numbered(half(api.Plus, 1, "a", 9, 1), 9), numbered(half(api.Minus, 1, "a", 10, 2), top), numbered(note(1, 256, ""), 9),
		api.Atom{}, numbered(api.Atom{}, 9),
		api.Atom{K: api.Key{Sort: 0, Cart: 1, Item: padded("a"), Rep: 11, Seq: 9}, V: api.Val{N: 1}},
		api.Atom{K: api.Key{Sort: 5, Cart: 1, Item: padded("a"), Rep: 12, Seq: 9}, V: api.Val{N: 1}},
		api.Atom{K: api.Key{Sort: 255, Cart: 1, Item: padded("a"), Rep: 13, Seq: top}, V: api.Val{N: 1}},
	)
}

// strangers are not names.
func strangers() []api.Name {
	return named("", "A", "9", "-a", "a b", "aB", "a\x00b", "\x00a", "abcdefgH", "a\x00\x00\x00\x00\x00\x00\x01", "\xff\xff\xff\xff\xff\xff\xff\xff")
}

// seen are the tags of an item, by the chapter's definition.
func seen(l []api.Atom, cart uint16, item api.Name) []api.Key {
	var all []api.Key
	for _, a := range l {
		if atom.Right(a) && a.K.Sort == 1 && a.K.Cart == cart && a.K.Item == item && !slices.Contains(all, a.K) {
			all = append(all, a.K)
		}
	}
	slices.SortFunc(all, func(x, y api.Key) int {
		return int(x.Rep)*1<<40 + int(x.Seq) - int(y.Rep)*1<<40 - int(y.Seq)
	})
	return all
}

// live are those of them that the row calls There, and never Gone.
func live(l []api.Atom, cart uint16, item api.Name) []api.Key {
	return slices.DeleteFunc(seen(l, cart, item), func(k api.Key) bool {
		return slices.Contains(l, api.Atom{K: k, V: api.Val{N: 2}})
	})
}

// items are those of a cart that are present, by the chapter's definition.
func items(l []api.Atom, cart uint16) []api.Name {
	var all []api.Name
	for _, a := range l {
		if len(live(l, cart, a.K.Item)) > 0 {
			all = append(all, a.K.Item)
		}
	}
	slices.SortFunc(all, func(x, y api.Name) int { return bytes.Compare(x[:], y[:]) })
	return slices.Compact(all)
}

// greatest is the greatest Seq of the tags of a replica.
func greatest(l []api.Atom, rep uint8) uint32 {
	var n uint32
	for _, a := range l {
		if atom.Right(a) && a.K.Sort == 1 && a.K.Rep == rep {
			n = max(n, a.K.Seq)
		}
	}
	return n
}

// marked are atoms with these keys and one value.
func marked(l []api.Key, n uint64) []api.Atom {
	var all []api.Atom
	for _, k := range l {
		all = append(all, api.Atom{K: k, V: api.Val{N: n}})
	}
	return all
}

// has reports whether the state of l contains the key.
func has(l []api.Atom, k api.Key) bool {
	_, ok := lat.Find(l, k)
	return ok
}

// listsOf calls visit with all lists of n of the elements of l.
func listsOf[T any](l []T, n int, visit func(l []T)) {
	chosen := make([]T, n)
	var choose func(i int)
	choose = func(i int) {
		if i == n {
			visit(chosen)
			return
		}
		for _, x := range l {
			chosen[i] = x
			choose(i + 1)
		}
	}
	choose(0)
}

// few are atoms that differ from the first one in one thing each, valid and not.
func few() []api.Atom {
	return row(
		tag(1, "a", 2, 3, api.There), tag(1, "a", 2, 3, api.Gone), tag(1, "a", 2, 3, 3), tag(1, "a", 2, 2, api.There), tag(1, "a", 1, 3, api.There), tag(1, "a", 16, 3, api.There),
		tag(0, "a", 2, 3, api.There), tag(1, "b", 2, 3, api.There), tag(1, "b", 2, 3, api.Gone), numbered(half(api.Plus, 1, "a", 2, 1), 3), half(api.Plus, 1, "a", 2, 1), note(1, 256, "a"),
	)
}

// carts and asked are what is asked for in rows of few, or without a pattern.
func carts() []uint16 { return []uint16{0, 1, 2, 65535} }

func asked() []api.Name { return named("a", "b", "cup", "", "A", "a\x00b") }

// anyRow is a row of n atoms: tags with few keys, other atoms, and atoms that are not valid.
func anyRow(next func() uint64, n int) []api.Atom {
	rest := append(others(), wrong()...)
	var l []api.Atom
	for range n {
		a := tag(uint16(next()%3), []string{"a", "b", "cup"}[next()%3], uint8(next()%17), uint32(next()%3+1), next()%4)
		switch next() % 6 {
		case 0:
			a = rest[next()%uint64(len(rest))]
		case 1:
			a.K.Seq = uint32(next() >> (32 + next()%32))
		}
		l = append(l, a)
	}
	return l
}

// checkRow holds what is told of the items of a row against the chapter's definitions, taken literally.
func checkRow(t *testing.T, l []api.Atom) {
	t.Helper()
	for _, cart := range carts() {
		for _, item := range asked() {
			wantSeen, wantLive := seen(l, cart, item), live(l, cart, item)
			if got := Seen(l, cart, item); !slices.Equal(got, wantSeen) {
				t.Fatalf("Seen %v, %d, %q: %v, not %v", l, cart, item, got, wantSeen)
			}
			if got := Live(l, cart, item); !slices.Equal(got, wantLive) {
				t.Fatalf("Live %v, %d, %q: %v, not %v", l, cart, item, got, wantLive)
			}
			if got := Present(l, cart, item); got != (len(wantLive) > 0) {
				t.Fatalf("Present %v, %d, %q: %v", l, cart, item, got)
			}
			if got := Drop(l, cart, item); !slices.Equal(got, marked(wantLive, 2)) {
				t.Fatalf("Drop %v, %d, %q: %v", l, cart, item, got)
			}
		}
		if got, want := Items(l, cart), items(l, cart); !slices.Equal(got, want) {
			t.Fatalf("Items %v, %d: %q, not %q", l, cart, got, want)
		}
	}
}

// checkNext holds Next and Add of all replicas against the chapter's definitions, taken literally.
func checkNext(t *testing.T, l []api.Atom) {
	t.Helper()
	for rep := range uint8(18) {
		want, err := greatest(l, rep)+1, api.OK
		switch {
		case rep > 15:
			want, err = 0, api.ErrArg
		case want == 0:
			err = api.ErrSaturated
		}
		if got, e := Next(l, rep); got != want || e != err {
			t.Fatalf("Next %v, %d: %d, %d, not %d, %d", l, rep, got, e, want, err)
		}
		var delta []api.Atom
		if err == api.OK {
			delta = row(tag(7, "cup", rep, want, 1))
		}
		if got, e := Add(l, rep, 7, padded("cup")); !slices.Equal(got, delta) || e != err {
			t.Fatalf("Add %v, %d: %v, %d, not %v, %d", l, rep, got, e, delta, err)
		}
		for _, item := range strangers() {
			if got, e := Add(l, rep, 7, item); len(got) != 0 || e != api.ErrArg {
				t.Fatalf("Add %v, %d, %q: %v, %d", l, rep, item, got, e)
			}
		}
	}
}

func TestP1401Cases(t *testing.T) {
	a := tag(1, "a", 2, 3, api.There)
	for _, c := range []struct {
		l          []api.Atom
		cart       uint16
		item       string
		seen, live []api.Key
	}{
		{nil, 0, "", nil, nil},
		{nil, 1, "a", nil, nil},
		{row(), 1, "a", nil, nil},
		{others(), 1, "a", nil, nil},
		{wrong(), 1, "a", nil, nil},
		{wrong(), 1, "", nil, nil},
		{wrong(), 1, "A", nil, nil},
		{wrong(), 1, "9", nil, nil},
		{wrong(), 1, "a\x00b", nil, nil},
		{row(a), 1, "a", keys(a), keys(a)},
		{row(a), 0, "a", nil, nil},
		{row(a), 257, "a", nil, nil},
		{row(a), 1, "b", nil, nil},
		{row(a), 1, "aa", nil, nil},
		{row(a), 1, "a\x00b", nil, nil},
		{row(a), 1, "", nil, nil},
		{row(tag(1, "a", 2, 3, api.Gone)), 1, "a", keys(a), nil},
		{row(a, tag(1, "a", 2, 3, api.Gone)), 1, "a", keys(a), nil},
		{row(tag(1, "a", 2, 3, api.Gone), a), 1, "a", keys(a), nil},
		{row(a, a, a), 1, "a", keys(a), keys(a)},
		{row(a, tag(1, "a", 2, 3, 3), texted(tag(1, "a", 2, 3, api.Gone), "a")), 1, "a", keys(a), keys(a)},
		{row(a, tag(1, "a", 2, 4, api.Gone), tag(1, "a", 3, 3, api.Gone), tag(2, "a", 2, 3, api.Gone), tag(1, "b", 2, 3, api.Gone)), 1, "a", keys(a, tag(1, "a", 2, 4, 0), tag(1, "a", 3, 3, 0)), keys(a)},
		{row(tag(1, "a", 3, 1, api.There), tag(1, "a", 2, 9, api.There), a), 1, "a", keys(a, tag(1, "a", 2, 9, 0), tag(1, "a", 3, 1, 0)), keys(a, tag(1, "a", 2, 9, 0), tag(1, "a", 3, 1, 0))},
		{row(tag(1, "a", 0, top, api.There), tag(1, "a", 15, 1, api.There), tag(1, "a", 0, 1, api.There)), 1, "a", keys(tag(1, "a", 0, 1, 0), tag(1, "a", 0, top, 0), tag(1, "a", 15, 1, 0)), keys(tag(1, "a", 0, 1, 0), tag(1, "a", 0, top, 0), tag(1, "a", 15, 1, 0))},
		{row(tag(1, "a", 0, top, api.There), tag(1, "a", 15, 1, api.Gone), tag(1, "a", 0, 1, api.Gone)), 1, "a", keys(tag(1, "a", 0, 1, 0), tag(1, "a", 0, top, 0), tag(1, "a", 15, 1, 0)), keys(tag(1, "a", 0, top, 0))},
		{row(tag(65535, "zzzzzzzz", 15, top, api.There)), 65535, "zzzzzzzz", keys(tag(65535, "zzzzzzzz", 15, top, 0)), keys(tag(65535, "zzzzzzzz", 15, top, 0))},
		{row(tag(65535, "zzzzzzzz", 15, top, api.There)), 65535, "zzzzzzz", nil, nil},
		{append(append(wrong(), a), others()...), 1, "a", keys(a), keys(a)},
	} {
		item := padded(c.item)
		if got := Seen(c.l, c.cart, item); !slices.Equal(got, c.seen) {
			t.Errorf("Seen %v, %d, %q: %v, not %v", c.l, c.cart, c.item, got, c.seen)
		}
		if got := Live(c.l, c.cart, item); !slices.Equal(got, c.live) {
			t.Errorf("Live %v, %d, %q: %v, not %v", c.l, c.cart, c.item, got, c.live)
		}
		if got := Present(c.l, c.cart, item); got != (len(c.live) > 0) {
			t.Errorf("Present %v, %d, %q: %v", c.l, c.cart, c.item, got)
		}
		if !slices.Equal(seen(c.l, c.cart, item), c.seen) || !slices.Equal(live(c.l, c.cart, item), c.live) {
			t.Errorf("the second reading of %v, %d, %q is another one", c.l, c.cart, c.item)
		}
	}
}

func TestP1401Items(t *testing.T) {
	for _, c := range []struct {
		l    []api.Atom
		cart uint16
		want []api.Name
	}{
		{nil, 0, nil},
		{row(), 0, nil},
		{others(), 0, nil},
		{others(), 1, nil},
		{wrong(), 1, nil},
		{row(tag(1, "a", 2, 3, api.There)), 1, named("a")},
		{row(tag(1, "a", 2, 3, api.There)), 0, nil},
		{row(tag(1, "a", 2, 3, api.There)), 257, nil},
		{row(tag(1, "a", 2, 3, api.Gone)), 1, nil},
		{row(tag(1, "a", 2, 3, api.There), tag(1, "a", 2, 3, api.Gone)), 1, nil},
		{row(tag(1, "a", 2, 3, api.There), tag(1, "a", 2, 4, api.Gone)), 1, named("a")},
		{row(tag(1, "a", 2, 3, api.Gone), tag(1, "a", 2, 4, api.There)), 1, named("a")},
		{row(tag(1, "a", 2, 3, api.There), tag(1, "a", 2, 4, api.There), tag(1, "a", 3, 3, api.There)), 1, named("a")},
		{row(tag(1, "b", 0, 1, api.There), tag(1, "a", 2, 3, api.There)), 1, named("a", "b")},
		{row(tag(1, "b", 0, 1, api.There), tag(1, "a", 2, 3, api.There), tag(1, "b", 0, 2, api.There), tag(1, "a", 0, 9, api.There)), 1, named("a", "b")},
		{row(tag(1, "b", 0, 1, api.There), tag(1, "c", 2, 3, api.Gone), tag(1, "a", 2, 3, api.There)), 1, named("a", "b")},
		{row(tag(0, "b", 0, 1, api.There), tag(2, "c", 2, 3, api.There), tag(1, "a", 2, 3, api.There)), 1, named("a")},
		{row(tag(65535, "zzzzzzzz", 15, top, api.There), tag(0, "a", 0, 1, api.There)), 65535, named("zzzzzzzz")},
		{row(tag(65535, "zzzzzzzz", 15, top, api.There), tag(0, "a", 0, 1, api.There)), 0, named("a")},
	} {
		if got := Items(c.l, c.cart); !slices.Equal(got, c.want) {
			t.Errorf("Items %v, %d: %q, not %q", c.l, c.cart, got, c.want)
		}
		if got := items(c.l, c.cart); !slices.Equal(got, c.want) {
			t.Errorf("the second reading of Items %v, %d: %q, not %q", c.l, c.cart, got, c.want)
		}
	}
}

// TestP1401ItemsOrder: the items are in the order of their Numbers, whatever the order of the row, of their replicas and of their numbers.
func TestP1401ItemsOrder(t *testing.T) {
	want := named("a", "a-", "a-------", "a0", "a9", "aa", "aaaaaaaa", "aaaaaaab", "ab", "b", "cup", "cups", "pen", "tea", "tea-9", "z", "z9", "zz", "zzzzzzzz")
	next := dice(1)
	for range 200 {
		var l []api.Atom
		for _, item := range want {
			for range next()%3 + 1 {
				l = append(l, tag(5, string(item[:]), uint8(next()%16), uint32(next()%1000+1), api.There))
			}
			l = append(l, tag(4, string(item[:3]), 1, 1, api.There), tag(6, "m", 1, 1, api.There))
		}
		for i := range l {
			j := next() % uint64(i+1)
			l[i], l[j] = l[j], l[i]
		}
		if got := Items(l, 5); !slices.Equal(got, want) {
			t.Fatalf("Items: %q", got)
		}
		if got := Items(lat.Norm(l), 5); !slices.Equal(got, want) {
			t.Fatalf("Items of a state: %q", got)
		}
	}
}

// TestP1401Carts: each cart, each replica and each number at a bound has tags of its own.
func TestP1401Carts(t *testing.T) {
	item := padded("cup")
	for _, cart := range []uint16{0, 1, 255, 256, 1<<15 - 1, 1 << 15, math.MaxUint16 - 1, math.MaxUint16} {
		for rep := range uint8(16) {
			for _, seq := range []uint32{1, 2, 1<<31 - 1, 1 << 31, top - 1, top} {
				l := row(tag(cart, "cup", rep, seq, api.There))
				if !slices.Equal(Seen(l, cart, item), keys(l...)) || !slices.Equal(Live(l, cart, item), keys(l...)) || !Present(l, cart, item) || !slices.Equal(Items(l, cart), named("cup")) {
					t.Errorf("%v is not present", l)
				}
				if !slices.Equal(Drop(l, cart, item), row(tag(cart, "cup", rep, seq, api.Gone))) {
					t.Errorf("Drop %v: %v", l, Drop(l, cart, item))
				}
				for _, x := range []uint16{cart + 1, cart - 1, cart ^ 256, cart ^ 1<<15} {
					if len(Seen(l, x, item)) > 0 || len(Live(l, x, item)) > 0 || Present(l, x, item) || len(Items(l, x)) > 0 || len(Drop(l, x, item)) > 0 {
						t.Errorf("%v is present in the cart %d", l, x)
					}
				}
			}
		}
	}
}

func TestP1401Rows(t *testing.T) {
	for n := range 4 {
		listsOf(few(), n, func(l []api.Atom) { checkRow(t, l) })
	}
	listsOf(few()[:5], 4, func(l []api.Atom) { checkRow(t, l) })
	next := dice(2)
	for i := range 400 {
		checkRow(t, anyRow(next, i%80))
	}
}

func TestP1402Next(t *testing.T) {
	for _, c := range []struct {
		l    []api.Atom
		rep  uint8
		want uint32
		err  api.Errno
	}{
		{nil, 0, 1, api.OK},
		{row(), 15, 1, api.OK},
		{nil, 16, 0, api.ErrArg},
		{nil, 255, 0, api.ErrArg},
		{others(), 0, 1, api.OK},
		{wrong(), 0, 1, api.OK},
		{wrong(), 6, 1, api.OK},
		{wrong(), 13, 1, api.OK},
		{wrong(), 16, 0, api.ErrArg},
		{row(tag(1, "a", 2, 3, api.There)), 2, 4, api.OK},
		{row(tag(1, "a", 2, 3, api.Gone)), 2, 4, api.OK},
		{row(tag(1, "a", 2, 3, api.There)), 3, 1, api.OK},
		{row(tag(1, "a", 2, 3, api.There)), 18, 0, api.ErrArg},
		{row(tag(1, "a", 2, 3, api.There), tag(7, "b", 2, 9, api.Gone)), 2, 10, api.OK},
		{row(tag(7, "b", 2, 9, api.There), tag(1, "a", 2, 3, api.There)), 2, 10, api.OK},
		{row(tag(1, "a", 2, 1<<31-1, api.There)), 2, 1 << 31, api.OK},
		{row(tag(1, "a", 2, 1<<31, api.There)), 2, 1<<31 + 1, api.OK},
		{row(tag(1, "a", 2, top-1, api.There)), 2, top, api.OK},
		{row(tag(1, "a", 2, top, api.There)), 2, 0, api.ErrSaturated},
		{row(tag(1, "a", 2, top, api.Gone)), 2, 0, api.ErrSaturated},
		{row(tag(1, "a", 2, top, api.There), tag(7, "b", 2, 1, api.There)), 2, 0, api.ErrSaturated},
		{row(tag(1, "a", 2, top, api.There)), 1, 1, api.OK},
		{row(tag(1, "a", 2, top, api.There)), 16, 0, api.ErrArg},
		{row(tag(1, "a", 15, top, api.There)), 15, 0, api.ErrSaturated},
		{row(tag(1, "a", 0, top, api.There)), 0, 0, api.ErrSaturated},
		{row(tag(1, "a", 0, top, 3), tag(1, "A", 0, top, api.There), tag(1, "a", 0, 5, api.There)), 0, 6, api.OK},
	} {
		if got, e := Next(c.l, c.rep); got != c.want || e != c.err {
			t.Errorf("Next %v, %d: %d, %d, not %d, %d", c.l, c.rep, got, e, c.want, c.err)
		}
	}
}

// TestP1402Reps: each replica has numbers of its own, and there are 16.
func TestP1402Reps(t *testing.T) {
	var l []api.Atom
	for rep := range uint8(16) {
		l = append(l, tag(1, "a", rep, uint32(rep)*2+50, api.There), tag(0, "b", rep, uint32(rep)+20, api.Gone))
	}
	for rep := range 256 {
		want, err := uint32(rep)*2+51, api.OK
		if rep > 15 {
			want, err = 0, api.ErrArg
		}
		if got, e := Next(l, uint8(rep)); got != want || e != err {
			t.Errorf("Next of the replica %d: %d, %d", rep, got, e)
		}
		got, e := Add(l, uint8(rep), 1, padded("a"))
		if e != err || len(got) != 1-int(err) {
			t.Errorf("Add of the replica %d: %v, %d", rep, got, e)
		}
		if err == api.OK && !slices.Equal(got, row(tag(1, "a", uint8(rep), want, api.There))) {
			t.Errorf("Add of the replica %d: %v", rep, got)
		}
	}
}

func TestP1402Add(t *testing.T) {
	saturated := row(tag(1, "a", 2, top, api.There))
	for _, c := range []struct {
		l    []api.Atom
		rep  uint8
		cart uint16
		item string
		want []api.Atom
		err  api.Errno
	}{
		{nil, 0, 0, "a", row(tag(0, "a", 0, 1, api.There)), api.OK},
		{nil, 15, 65535, "zzzzzzzz", row(tag(65535, "zzzzzzzz", 15, 1, api.There)), api.OK},
		{nil, 16, 0, "a", nil, api.ErrArg},
		{nil, 255, 0, "a", nil, api.ErrArg},
		{nil, 0, 0, "", nil, api.ErrArg},
		{nil, 0, 0, "A", nil, api.ErrArg},
		{nil, 0, 0, "9", nil, api.ErrArg},
		{nil, 0, 0, "a\x00b", nil, api.ErrArg},
		{nil, 16, 0, "", nil, api.ErrArg},
		{row(tag(1, "a", 2, 3, api.There)), 2, 1, "a", row(tag(1, "a", 2, 4, api.There)), api.OK},
		{row(tag(1, "a", 2, 3, api.Gone)), 2, 1, "a", row(tag(1, "a", 2, 4, api.There)), api.OK},
		{row(tag(1, "a", 2, 3, api.There)), 2, 9, "b-9", row(tag(9, "b-9", 2, 4, api.There)), api.OK},
		{row(tag(1, "a", 2, 3, api.There)), 3, 1, "a", row(tag(1, "a", 3, 1, api.There)), api.OK},
		{row(tag(1, "a", 2, top-1, api.There)), 2, 1, "a", row(tag(1, "a", 2, top, api.There)), api.OK},
		{saturated, 2, 1, "a", nil, api.ErrSaturated},
		{saturated, 2, 7, "cup", nil, api.ErrSaturated},
		{saturated, 2, 1, "", nil, api.ErrArg},
		{saturated, 2, 1, "A", nil, api.ErrArg},
		{saturated, 18, 1, "a", nil, api.ErrArg},
		{saturated, 1, 1, "a", row(tag(1, "a", 1, 1, api.There)), api.OK},
		{wrong(), 2, 1, "a", row(tag(1, "a", 2, 1, api.There)), api.OK},
		{others(), 2, 1, "a", row(tag(1, "a", 2, 1, api.There)), api.OK},
	} {
		if got, e := Add(c.l, c.rep, c.cart, padded(c.item)); !slices.Equal(got, c.want) || e != c.err || got == nil != (c.want == nil) {
			t.Errorf("Add %v, %d, %d, %q: %v, %d, not %v, %d", c.l, c.rep, c.cart, c.item, got, e, c.want, c.err)
		}
	}
}

func TestP1402Rows(t *testing.T) {
	great := row(tag(1, "a", 2, top, api.There), tag(0, "b", 2, top, api.Gone), tag(1, "a", 2, top-1, api.There), tag(1, "a", 2, top, 3))
	for n := range 4 {
		listsOf(append(few(), great...), n, func(l []api.Atom) { checkNext(t, l) })
	}
	next := dice(3)
	for i := range 500 {
		checkNext(t, anyRow(next, i%80))
	}
}

func TestP1403Drop(t *testing.T) {
	for _, c := range []struct {
		l    []api.Atom
		cart uint16
		item string
		want []api.Atom
	}{
		{nil, 0, "a", nil},
		{row(), 0, "", nil},
		{others(), 1, "a", nil},
		{wrong(), 1, "a", nil},
		{wrong(), 1, "A", nil},
		{row(tag(1, "a", 2, 3, api.There)), 1, "a", row(tag(1, "a", 2, 3, api.Gone))},
		{row(tag(1, "a", 2, 3, api.There)), 0, "a", nil},
		{row(tag(1, "a", 2, 3, api.There)), 1, "b", nil},
		{row(tag(1, "a", 2, 3, api.Gone)), 1, "a", nil},
		{row(tag(1, "a", 2, 3, api.There), tag(1, "a", 2, 3, api.Gone)), 1, "a", nil},
		{row(tag(1, "a", 2, 3, api.There), tag(1, "a", 2, 2, api.Gone)), 1, "a", row(tag(1, "a", 2, 3, api.Gone))},
		{row(tag(1, "a", 2, 3, api.There), tag(1, "a", 1, 9, api.There), tag(1, "b", 0, 1, api.There), tag(2, "a", 0, 2, api.There)), 1, "a", row(tag(1, "a", 1, 9, api.Gone), tag(1, "a", 2, 3, api.Gone))},
		{row(tag(65535, "zzzzzzzz", 15, top, api.There)), 65535, "zzzzzzzz", row(tag(65535, "zzzzzzzz", 15, top, api.Gone))},
		{append(append(wrong(), tag(1, "a", 2, 3, api.There)), others()...), 1, "a", row(tag(1, "a", 2, 3, api.Gone))},
	} {
		if got := Drop(c.l, c.cart, padded(c.item)); !slices.Equal(got, c.want) {
			t.Errorf("Drop %v, %d, %q: %v, not %v", c.l, c.cart, c.item, got, c.want)
		}
	}
}

// TestP1403Rows: what is dropped is a state, and what Live tells of.
func TestP1403Rows(t *testing.T) {
	next := dice(4)
	for i := range 500 {
		l := anyRow(next, i%80)
		for _, item := range asked() {
			got := Drop(l, 1, item)
			if !lat.Right(got) || !slices.Equal(got, marked(live(l, 1, item), 2)) || !slices.Equal(keys(got...), Live(l, 1, item)) {
				t.Fatalf("Drop %v, 1, %q: %v", l, item, got)
			}
		}
	}
}

// samePresence reports whether all items are present in both states, or in none, except for one item.
func samePresence(a, b []api.Atom, cart uint16, item api.Name) bool {
	for _, c := range carts()[:3] {
		for _, x := range asked()[:3] {
			if (c != cart || x != item) && (Present(a, c, x) != Present(b, c, x) || !slices.Equal(Live(a, c, x), Live(b, c, x))) {
				return false
			}
		}
		rest := func(l []api.Name) []api.Name {
			return slices.DeleteFunc(l, func(x api.Name) bool { return c == cart && x == item })
		}
		if !slices.Equal(rest(Items(a, c)), rest(Items(b, c))) {
			return false
		}
	}
	return true
}

// checkAdd holds Add on the state s, and what is joined later, against the laws.
func checkAdd(t *testing.T, s []api.Atom, rep uint8, later []api.Atom) {
	t.Helper()
	item := padded("a")
	delta, e := Add(s, rep, 1, item)
	if e != api.OK {
		return
	}
	if len(delta) != 1 || has(s, delta[0].K) {
		t.Fatalf("Add %v, %d: %v", s, rep, delta)
	}
	after := lat.Join(s, delta)
	if !Present(after, 1, item) || !samePresence(s, after, 1, item) || !slices.Contains(Items(after, 1), item) {
		t.Fatalf("Add %v, %d: %v is not present, or other items have changed", s, rep, delta)
	}
	if n, e := Next(after, rep); delta[0].K.Seq < top && (n != delta[0].K.Seq+1 || e != api.OK) || delta[0].K.Seq == top && e != api.ErrSaturated {
		t.Fatalf("Add %v, %d: %v, and then %d, %d", s, rep, delta, n, e)
	}
	others := slices.DeleteFunc(slices.Clone(later), func(a api.Atom) bool { return a.K == delta[0].K })
	for _, all := range [][]api.Atom{lat.Join(after, others), lat.Join(others, after), lat.All(delta, others)} {
		if !Present(all, 1, item) || !samePresence(lat.Join(s, others), lat.Join(all, s), 1, item) {
			t.Fatalf("Add %v, %d: %v is not present with %v", s, rep, delta, others)
		}
	}
	gone := lat.Join(after, marked(keys(delta...), api.Gone))
	if Present(gone, 1, item) != Present(s, 1, item) {
		t.Fatalf("Add %v, %d: %v is no longer the only new tag", s, rep, delta)
	}
}

// checkDrop holds Drop on the state s, and what is joined later, against the laws.
func checkDrop(t *testing.T, s []api.Atom, later []api.Atom) {
	t.Helper()
	item := padded("a")
	delta := Drop(s, 1, item)
	after := lat.Join(s, delta)
	if Present(after, 1, item) || len(Live(after, 1, item)) > 0 || !samePresence(s, after, 1, item) || slices.Contains(Items(after, 1), item) {
		t.Fatalf("Drop %v: %v leaves it present, or other items have changed", s, delta)
	}
	if !slices.Equal(Seen(after, 1, item), Seen(s, 1, item)) || len(Drop(after, 1, item)) > 0 {
		t.Fatalf("Drop %v: %v leaves tags to drop, or other ones", s, delta)
	}
	known := slices.DeleteFunc(slices.Clone(later), func(a api.Atom) bool { return !has(s, a.K) })
	if Present(lat.Join(after, known), 1, item) {
		t.Fatalf("Drop %v: %v is present again with %v", s, delta, known)
	}
	var fresh []api.Key
	for _, k := range Live(later, 1, item) {
		if !has(s, k) {
			fresh = append(fresh, k)
		}
	}
	all := lat.Join(later, after)
	if !slices.Equal(Live(all, 1, item), fresh) || Present(all, 1, item) != (len(fresh) > 0) || !samePresence(lat.Join(s, later), all, 1, item) {
		t.Fatalf("Drop %v: %v is wrong with %v", s, delta, later)
	}
}

// TestP1404Laws: pairs of all rows of up to 2 of few, and rows without a pattern.
func TestP1404Laws(t *testing.T) {
	var rows [][]api.Atom
	for n := range 3 {
		listsOf(few(), n, func(l []api.Atom) { rows = append(rows, slices.Clone(l)) })
	}
	for i, s := range rows {
		for j, later := range rows {
			switch (i + j) % 16 {
			case 0:
				checkAdd(t, s, 2, later)
			case 3:
				checkAdd(t, s, 1, later)
			case 5, 6:
				checkDrop(t, s, later)
			}
		}
	}
	next := dice(5)
	for i := range 800 {
		s, later := anyRow(next, i%40), anyRow(next, i%30)
		checkAdd(t, s, uint8(next()%17), later)
		checkDrop(t, s, later)
		checkDrop(t, lat.Join(s, later), later)
	}
}

// TestP1404Replicas: replicas add and drop one item, and join each other's states: their tags are unique, and the item is present where some add was seen by no drop.
func TestP1404Replicas(t *testing.T) {
	item := padded("cup")
	next := dice(6)
	for range 100 {
		const n = 4
		var states [n][]api.Atom
		var adds, drops [n]map[int]bool
		for i := range n {
			adds[i], drops[i] = map[int]bool{}, map[int]bool{}
		}
		known := map[api.Key]bool{}
		for step := range 60 {
			i, j := next()%n, next()%n
			switch next() % 3 {
			case 0:
				delta, e := Add(states[i], uint8(i), 3, item)
				if e != api.OK || len(delta) != 1 || known[delta[0].K] {
					t.Fatalf("Add %v, %d: %v, %d", states[i], i, delta, e)
				}
				known[delta[0].K] = true
				states[i] = lat.Join(states[i], delta)
				adds[i][step] = true
			case 1:
				states[i] = lat.Join(states[i], Drop(states[i], 3, item))
				for add := range adds[i] {
					drops[i][add] = true
				}
			default:
				states[i] = lat.Join(states[i], states[j])
				for add := range adds[j] {
					adds[i][add] = true
				}
				for add := range drops[j] {
					drops[i][add] = true
				}
			}
			if Present(states[i], 3, item) != (len(adds[i]) > len(drops[i])) || len(Seen(states[i], 3, item)) != len(adds[i]) {
				t.Fatalf("%v: %d adds, %d of them seen by drops", states[i], len(adds[i]), len(drops[i]))
			}
		}
	}
}

// TestP1401Example1: an item that two replicas have added concurrently, and that one of them drops before the join, is present after the join.
func TestP1401Example1(t *testing.T) {
	cup := padded("cup")
	a, _ := Add(nil, 0, 1, cup)
	b, _ := Add(nil, 1, 1, cup)
	a = lat.Join(a, Drop(a, 1, cup))
	if Present(a, 1, cup) || !Present(b, 1, cup) {
		t.Errorf("before the join: %v, %v", a, b)
	}
	both := lat.Join(a, b)
	if !Present(both, 1, cup) || !slices.Equal(Live(both, 1, cup), keys(b...)) || !slices.Equal(Items(both, 1), named("cup")) {
		t.Errorf("after the join: %v", both)
	}
	if after := lat.Join(both, Drop(both, 1, cup)); Present(after, 1, cup) || len(Items(after, 1)) > 0 {
		t.Errorf("after another drop: %v", after)
	}
}

// TestMany: rows have no greatest length.
func TestMany(t *testing.T) {
	const n = 1<<16 + 1
	var l []api.Atom
	var want []api.Key
	var few []api.Name
	for i := range uint32(n) {
		// 7919 has no factor in common with n, so each number occurs once.
		l = append(l, tag(9, "cup", 3, i*7919%n+1, uint64(i%2)+1))
		want = append(want, tag(9, "cup", 3, i+1, 0).K)
	}
	if got := Seen(l, 9, padded("cup")); !slices.Equal(got, want) {
		t.Errorf("Seen: %d tags", len(got))
	}
	if got := Live(l, 9, padded("cup")); len(got) != n/2+1 || !Present(l, 9, padded("cup")) || !slices.Equal(Items(l, 9), named("cup")) {
		t.Errorf("Live: %d tags, or Present, or Items", len(got))
	}
	if got := Drop(l, 9, padded("cup")); len(got) != n/2+1 || Present(append(got, l...), 9, padded("cup")) {
		t.Errorf("Drop: %d tags", len(got))
	}
	if got, e := Next(l, 3); got != n+1 || e != api.OK {
		t.Errorf("Next: %d, %d", got, e)
	}
	l = nil
	for i := range n / 4 {
		x := i * 7919 % (n / 4)
		item := []byte{'a' + byte(x/676/26), 'a' + byte(x/676%26), 'a' + byte(x/26%26), 'a' + byte(x%26)}
		l = append(l, tag(9, string(item), 3, uint32(i+1), api.There), tag(9, string(item), 4, uint32(i+1), api.There))
	}
	for _, a := range lat.Norm(l) {
		if a.K.Rep == 3 {
			few = append(few, a.K.Item)
		}
	}
	if got := Items(l, 9); !slices.Equal(got, few) || len(few) != n/4 {
		t.Errorf("Items: %d", len(got))
	}
}

// TestArguments: arguments and their spare capacity stay as they are, and results are apart from them.
func TestArguments(t *testing.T) {
	next := dice(7)
	for i := range 300 {
		whole := anyRow(next, i%40+3)
		if i%2 == 0 {
			whole = lat.Norm(whole)
		}
		kept := slices.Clone(whole)
		l := whole[:len(whole)/2]
		delta, _ := Add(l, 3, 1, padded("a"))
		drop := Drop(l, 1, padded("a"))
		clear(delta[:cap(delta)])
		clear(drop[:cap(drop)])
		names := Items(l, 1)
		clear(names[:cap(names)])
		for _, k := range [][]api.Key{Seen(l, 1, padded("a")), Live(l, 1, padded("a"))} {
			clear(k[:cap(k)])
		}
		Present(l, 1, padded("a"))
		Next(l, 3)
		if !slices.Equal(whole, kept) {
			t.Fatalf("the row %v has changed", kept)
		}
	}
}

// TestRepeated: the order in which a map is visited is not to be seen, and a row tells what its state tells.
func TestRepeated(t *testing.T) {
	l := anyRow(dice(8), 300)
	s := lat.Norm(l)
	first := Items(l, 1)
	for range 100 {
		if !slices.Equal(Items(l, 1), first) || !slices.Equal(Items(s, 1), first) {
			t.Fatal("a second call has another result")
		}
	}
	for rep := range uint8(16) {
		n, e := Next(l, rep)
		m, f := Next(s, rep)
		if n != m || e != f || e == api.OK && n != vec.Of(l)[rep]+1 {
			t.Fatalf("Next of the replica %d: %d, %d, and %d, %d", rep, n, e, m, f)
		}
	}
}

package count

import (
	"math"
	"math/big"
	"slices"
	"testing"

	"handcart/api"
	"handcart/atom"
	"handcart/lat"
)

// top is the greatest value of a half.
const top = math.MaxUint32

// dice returns a function whose results have no pattern, but are the same in each run.
func dice(seed uint64) func() uint64 {
	x := 88172645463325252 + seed
	return func() uint64 {
		x ^= x << 13
		x ^= x >> 7
		x ^= x << 17
		return x
	}
}

// padded returns s in an api.Name.
func padded(s string) api.Name {
	var n api.Name
	copy(n[:], s)
	return n
}

// named are api.Names, in the order of the texts.
func named(l ...string) []api.Name {
	var all []api.Name
	for _, s := range l {
		all = append(all, padded(s))
	}
	return all
}

func half(sort uint8, cart uint16, item string, rep uint8, n uint64) api.Atom {
	return api.Atom{K: api.Key{Sort: sort, Cart: cart, Item: padded(item), Rep: rep}, V: api.Val{N: n}}
}

func plus(cart uint16, item string, rep uint8, n uint64) api.Atom {
	return half(api.Plus, cart, item, rep, n)
}

func minus(cart uint16, item string, rep uint8, n uint64) api.Atom {
	return half(api.Minus, cart, item, rep, n)
}

func tag(cart uint16, item string, rep uint8, seq uint32, n uint64) api.Atom {
	return numbered(half(api.Tag, cart, item, rep, n), seq)
}

func note(cart uint16, stamp uint64, text string) api.Atom {
	return texted(half(api.Note, cart, "", 0, stamp), text)
}

// numbered is an atom with another Seq.
func numbered(a api.Atom, seq uint32) api.Atom {
	a.K.Seq = seq
	return a
}

// texted is an atom with another Text.
func texted(a api.Atom, text string) api.Atom {
	a.V.Text = padded(text)
	return a
}

// row is a short form.
func row(l ...api.Atom) []api.Atom { return l }

// others are valid atoms that are not halves, some of items that the tests ask for.
func others() []api.Atom {
	return row(
		tag(1, "a", 2, 3, api.There), tag(1, "a", 2, 4, api.Gone), tag(0, "b", 0, top, api.Gone), tag(65535, "zzzzzzzz", 15, 1, api.There),
		note(0, 256, ""), note(1, 271, "a"), note(65535, 1<<40-241, "zzzzzzzz"),
	)
}

// wrong are atoms that are not valid, most of them almost halves of items that the tests ask for.
func wrong() []api.Atom {
	return row(
		plus(1, "a", 2, 0), minus(1, "a", 2, 0), plus(1, "a", 2, top+1), minus(1, "a", 2, top+1), plus(1, "a", 2, math.MaxUint64), minus(1, "a", 3, 1<<63),
		texted(plus(1, "a", 2, 9), "a"), texted(minus(1, "a", 2, 9), "A"), texted(plus(1, "a", 2, top), "a"),
		numbered(plus(1, "a", 2, 9), 1), numbered(minus(1, "a", 2, 9), top), numbered(plus(1, "a", 2, top), 2),
		plus(1, "", 4, 9), minus(1, "A", 5, 9), plus(1, "9", 6, 9), minus(1, "a\x00b", 7, 9),
		plus(1, "a", 16, 9), minus(1, "a", 17, 9), plus(1, "a", 255, top),
		half(0, 1, "a", 2, 9), half(5, 1, "a", 2, 9), half(255, 1, "a", 2, 9), half(api.Tag, 1, "a", 2, 1), half(api.Note, 1, "a", 2, 512), half(api.Note, 1, "", 2, 512),
		api.Atom{}, numbered(api.Atom{}, 9),
	)
}

// strangers are not names.
func strangers() []api.Name {
	return named("", "A", "9", "-a", "a b", "aB", "a\x00b", "\x00a", "abcdefgH", "a\x00\x00\x00\x00\x00\x00\x01", "\xff\xff\xff\xff\xff\xff\xff\xff")
}

// greatest is the value of a Plus or a Minus, by the chapter's definition.
func greatest(l []api.Atom, k api.Key) uint64 {
	var n uint64
	for _, a := range l {
		if a.K == k && (k.Sort == 2 || k.Sort == 3) && atom.Right(a) {
			n = max(n, a.V.N)
		}
	}
	return n
}

// total is the sum of all Plus halves minus the sum of all Minus halves, each looked for by its key.
func total(l []api.Atom, cart uint16, item api.Name) int {
	var own []api.Atom
	for _, a := range l {
		if a.K.Cart == cart && a.K.Item == item {
			own = append(own, a)
		}
	}
	var raised, lowered int
	for rep := range uint8(16) {
		raised += int(greatest(own, api.Key{Sort: 2, Cart: cart, Item: item, Rep: rep}))
		lowered += int(greatest(own, api.Key{Sort: 3, Cart: cart, Item: item, Rep: rep}))
	}
	return raised - lowered
}

// increased is the result of Raise (of sort 2) or Lower (of sort 3) with a number of any size.
func increased(sort uint8, l []api.Atom, rep uint8, cart uint16, item api.Name, n *big.Int) ([]api.Atom, api.Errno) {
	k := api.Key{Sort: sort, Cart: cart, Item: item, Rep: rep}
	sum := new(big.Int).Add(n, new(big.Int).SetUint64(greatest(l, k)))
	switch {
	case rep > 15, slices.Contains(strangers(), item), n.Sign() < 0:
		return nil, 1
	case sum.Cmp(big.NewInt(1<<32-1)) > 0:
		return nil, 8
	case n.Sign() == 0:
		return nil, 0
	}
	return row(api.Atom{K: k, V: api.Val{N: sum.Uint64()}}), 0
}

// listsOf calls visit with all lists of n of the elements of l.
func listsOf[T any](l []T, n int, visit func(l []T)) {
	chosen := make([]T, n)
	var choose func(i int)
	choose = func(i int) {
		if i == n {
			visit(chosen)
			return
		}
		for _, x := range l {
			chosen[i] = x
			choose(i + 1)
		}
	}
	choose(0)
}

// few are atoms that differ from the first one in one thing each, valid and not.
func few() []api.Atom {
	return row(
		plus(1, "a", 2, 5), plus(1, "a", 2, 6), plus(1, "a", 2, top), plus(1, "a", 2, top+1), plus(1, "a", 1, 5), plus(1, "a", 16, 5), plus(0, "a", 2, 5), plus(1, "b", 2, 5),
		minus(1, "a", 2, 5), minus(1, "a", 2, 7), minus(1, "a", 3, top), numbered(plus(1, "a", 2, 5), 3), tag(1, "a", 2, 3, api.Gone), note(1, 258, "a"), texted(minus(1, "a", 2, 5), "a"),
	)
}

// carts and asked are what is asked for in rows of few, or without a pattern.
func carts() []uint16 { return []uint16{0, 1, 2, 65535} }

func asked() []api.Name { return named("a", "b", "cup", "", "A", "a\x00b") }

// amounts are numbers to count by, some of them at and beyond each bound.
func amounts() []int {
	l := []int{0, 1, 2, 7, 1000, 1<<31 - 1, 1 << 31, 1<<31 + 1, 1 << 33, 1<<40 + 5, 1<<62 + 1, math.MaxInt - top, math.MaxInt - 1, math.MaxInt}
	for i := range 9 {
		l = append(l, top-7+i)
	}
	for _, n := range l {
		l = append(l, -n)
	}
	return append(l, math.MinInt, math.MinInt+1, math.MinInt+top, math.MinInt+top+1, math.MinInt+top+2)
}

// anyRow is a row of n atoms: halves with few keys, other atoms, and atoms that are not valid.
func anyRow(next func() uint64, n int) []api.Atom {
	rest := append(others(), wrong()...)
	var l []api.Atom
	for range n {
		a := half(uint8(next()%2+2), uint16(next()%3), []string{"a", "b", "cup"}[next()%3], uint8(next()%17), next()%12)
		switch next() % 6 {
		case 0:
			a = rest[next()%uint64(len(rest))]
		case 1:
			a.V.N = next() >> (next() % 64)
		case 2:
			a.V.N = top - next()%5
		}
		l = append(l, a)
	}
	return l
}

// checkRow holds what is told of the halves of a row against the chapter's definitions, taken literally.
func checkRow(t *testing.T, l []api.Atom) {
	t.Helper()
	for _, cart := range carts() {
		for _, item := range asked() {
			if got, want := Total(l, cart, item), total(l, cart, item); got != want {
				t.Fatalf("Total %v, %d, %q: %d, not %d", l, cart, item, got, want)
			}
		}
	}
	for _, a := range append(few(), l...) {
		if got, want := Half(l, a.K), greatest(l, a.K); got != want {
			t.Fatalf("Half %v, %v: %d, not %d", l, a.K, got, want)
		}
	}
}

// checkChanges holds all changes by n against the chapter's definitions, taken literally.
func checkChanges(t *testing.T, l []api.Atom, rep uint8, cart uint16, item api.Name, n int) {
	t.Helper()
	up := big.NewInt(int64(n))
	down := new(big.Int).Neg(up)
	want, err := increased(2, l, rep, cart, item, up)
	if got, e := Raise(l, rep, cart, item, n); !slices.Equal(got, want) || e != err {
		t.Fatalf("Raise %v, %d, %d, %q, %d: %v, %d, not %v, %d", l, rep, cart, item, n, got, e, want, err)
	}
	if n < 0 {
		want, err = increased(3, l, rep, cart, item, down)
	}
	if got, e := Shift(l, rep, cart, item, n); !slices.Equal(got, want) || e != err {
		t.Fatalf("Shift %v, %d, %d, %q, %d: %v, %d, not %v, %d", l, rep, cart, item, n, got, e, want, err)
	}
	want, err = increased(3, l, rep, cart, item, up)
	if got, e := Lower(l, rep, cart, item, n); !slices.Equal(got, want) || e != err {
		t.Fatalf("Lower %v, %d, %d, %q, %d: %v, %d, not %v, %d", l, rep, cart, item, n, got, e, want, err)
	}
}

func TestP1501Half(t *testing.T) {
	a, b := plus(1, "a", 2, 5), minus(1, "a", 2, 7)
	for _, c := range []struct {
		l    []api.Atom
		k    api.Key
		want uint64
	}{
		{nil, api.Key{}, 0},
		{nil, a.K, 0},
		{row(), b.K, 0},
		{others(), a.K, 0},
		{others(), others()[0].K, 0},
		{others(), others()[4].K, 0},
		{others(), others()[5].K, 0},
		{wrong(), a.K, 0},
		{wrong(), b.K, 0},
		{wrong(), api.Key{}, 0},
		{wrong(), numbered(a, 1).K, 0},
		{wrong(), plus(1, "", 4, 0).K, 0},
		{wrong(), minus(1, "A", 5, 0).K, 0},
		{wrong(), plus(1, "a", 16, 0).K, 0},
		{wrong(), half(0, 1, "a", 2, 0).K, 0},
		{wrong(), half(5, 1, "a", 2, 0).K, 0},
		{row(a), a.K, 5},
		{row(b), b.K, 7},
		{row(a), b.K, 0},
		{row(b), a.K, 0},
		{row(a), numbered(a, 1).K, 0},
		{row(a), plus(0, "a", 2, 0).K, 0},
		{row(a), plus(257, "a", 2, 0).K, 0},
		{row(a), plus(1, "b", 2, 0).K, 0},
		{row(a), plus(1, "aa", 2, 0).K, 0},
		{row(a), plus(1, "a", 3, 0).K, 0},
		{row(a), plus(1, "a", 18, 0).K, 0},
		{row(a), half(api.Tag, 1, "a", 2, 0).K, 0},
		{row(a, b), a.K, 5},
		{row(a, b), b.K, 7},
		{row(b, a), a.K, 5},
		{row(a, plus(1, "a", 2, 6)), a.K, 6},
		{row(plus(1, "a", 2, 6), a), a.K, 6},
		{row(a, plus(1, "a", 2, 6), a, plus(1, "a", 2, 0), plus(1, "a", 2, top+1)), a.K, 6},
		{row(a, plus(1, "a", 3, 9), plus(0, "a", 2, 8), plus(1, "b", 2, 7), b), a.K, 5},
		{row(plus(1, "a", 2, 1)), a.K, 1},
		{row(plus(1, "a", 2, top)), a.K, top},
		{row(minus(65535, "zzzzzzzz", 15, top)), minus(65535, "zzzzzzzz", 15, 0).K, top},
		{append(append(wrong(), a), others()...), a.K, 5},
	} {
		if got := Half(c.l, c.k); got != c.want {
			t.Errorf("Half %v, %v: %d, not %d", c.l, c.k, got, c.want)
		}
		if got := greatest(c.l, c.k); got != c.want {
			t.Errorf("the second reading of Half %v, %v: %d, not %d", c.l, c.k, got, c.want)
		}
	}
}

// everyHalf are the halves of all replicas of an item, each with the value n.
func everyHalf(sort uint8, cart uint16, item string, n uint64) []api.Atom {
	var l []api.Atom
	for rep := range uint8(16) {
		l = append(l, half(sort, cart, item, rep, n))
	}
	return l
}

func TestP1501Total(t *testing.T) {
	for _, c := range []struct {
		l    []api.Atom
		cart uint16
		item string
		want int
	}{
		{nil, 0, "", 0},
		{nil, 1, "a", 0},
		{row(), 1, "a", 0},
		{others(), 0, "", 0},
		{others(), 1, "", 0},
		{others(), 1, "a", 0},
		{wrong(), 1, "a", 0},
		{wrong(), 1, "", 0},
		{wrong(), 1, "A", 0},
		{wrong(), 1, "9", 0},
		{wrong(), 1, "a\x00b", 0},
		{wrong(), 0, "", 0},
		{row(plus(1, "a", 2, 5)), 1, "a", 5},
		{row(minus(1, "a", 2, 5)), 1, "a", -5},
		{row(plus(1, "a", 2, 5)), 0, "a", 0},
		{row(plus(1, "a", 2, 5)), 257, "a", 0},
		{row(plus(1, "a", 2, 5)), 1, "b", 0},
		{row(plus(1, "a", 2, 5)), 1, "aa", 0},
		{row(plus(1, "a", 2, 5)), 1, "", 0},
		{row(plus(1, "a", 2, 5)), 1, "a\x00b", 0},
		{row(plus(1, "a", 2, 5), minus(1, "a", 2, 3)), 1, "a", 2},
		{row(plus(1, "a", 2, 3), minus(1, "a", 2, 5)), 1, "a", -2},
		{row(plus(1, "a", 2, 5), minus(1, "a", 2, 5)), 1, "a", 0},
		{row(plus(1, "a", 2, 5), minus(1, "a", 3, 2)), 1, "a", 3},
		{row(plus(1, "a", 2, 5), plus(1, "a", 3, 2)), 1, "a", 7},
		{row(plus(1, "a", 3, 2), minus(1, "a", 0, 9), plus(1, "a", 2, 5), minus(1, "a", 15, 90)), 1, "a", -92},
		{row(plus(1, "a", 2, 5), plus(1, "a", 2, 6), plus(1, "a", 2, 4)), 1, "a", 6},
		{row(minus(1, "a", 2, 6), minus(1, "a", 2, 5), minus(1, "a", 2, 6)), 1, "a", -6},
		{row(plus(1, "a", 2, 5), plus(1, "b", 2, 60), plus(0, "a", 2, 700), minus(2, "a", 2, 8000), minus(1, "aa", 2, 90000)), 1, "a", 5},
		{row(plus(1, "a", 2, 1), plus(1, "a", 2, top), minus(1, "a", 3, 1)), 1, "a", top - 1},
		{everyHalf(api.Plus, 1, "a", top), 1, "a", 16 * top},
		{everyHalf(api.Minus, 1, "a", top), 1, "a", -16 * top},
		{append(everyHalf(api.Minus, 1, "a", top), everyHalf(api.Plus, 1, "a", top)...), 1, "a", 0},
		{append(everyHalf(api.Minus, 65535, "zzzzzzzz", 1), everyHalf(api.Plus, 65535, "zzzzzzzz", top)...), 65535, "zzzzzzzz", 16 * (top - 1)},
		{append(append(wrong(), plus(1, "a", 2, 5)), others()...), 1, "a", 5},
	} {
		if got := Total(c.l, c.cart, padded(c.item)); got != c.want {
			t.Errorf("Total %v, %d, %q: %d, not %d", c.l, c.cart, c.item, got, c.want)
		}
		if got := total(c.l, c.cart, padded(c.item)); got != c.want {
			t.Errorf("the second reading of Total %v, %d, %q: %d, not %d", c.l, c.cart, c.item, got, c.want)
		}
	}
}

// TestP1501Carts: each cart and each replica has halves of its own, with values up to the greatest one.
func TestP1501Carts(t *testing.T) {
	item := padded("cup")
	for _, cart := range []uint16{0, 1, 255, 256, 1<<15 - 1, 1 << 15, math.MaxUint16 - 1, math.MaxUint16} {
		for rep := range uint8(16) {
			for _, n := range []uint64{1, 2, 1<<31 - 1, 1 << 31, top - 1, top} {
				up, down := row(plus(cart, "cup", rep, n)), row(minus(cart, "cup", rep, n))
				if Total(up, cart, item) != int(n) || Total(down, cart, item) != -int(n) || Half(up, up[0].K) != n || Half(down, down[0].K) != n {
					t.Errorf("%v or %v does not count", up, down)
				}
				for _, x := range []uint16{cart + 1, cart - 1, cart ^ 256, cart ^ 1<<15} {
					if Total(up, x, item) != 0 || Total(down, x, item) != 0 || Half(up, plus(x, "cup", rep, n).K) != 0 {
						t.Errorf("%v counts in the cart %d", up, x)
					}
				}
				for x := range uint8(18) {
					if x != rep && (Half(up, plus(cart, "cup", x, n).K) != 0 || Half(down, minus(cart, "cup", x, n).K) != 0) {
						t.Errorf("%v is a half of the replica %d", up, x)
					}
				}
			}
		}
	}
}

func TestP1501Rows(t *testing.T) {
	for n := range 4 {
		listsOf(few(), n, func(l []api.Atom) { checkRow(t, l) })
	}
	next := dice(1)
	for i := range 400 {
		checkRow(t, anyRow(next, i%80))
	}
}

func TestP1502Cases(t *testing.T) {
	full := row(plus(1, "a", 2, top), minus(1, "a", 2, top))
	almost := row(plus(1, "a", 2, top-3), minus(1, "a", 2, top-3))
	for _, c := range []struct {
		l    []api.Atom
		rep  uint8
		cart uint16
		item string
		n    int
		want uint64
		err  api.Errno
	}{
		{nil, 0, 0, "a", 0, 0, api.OK},
		{nil, 0, 0, "a", 1, 1, api.OK},
		{nil, 15, 65535, "zzzzzzzz", top, top, api.OK},
		{nil, 0, 0, "a", top + 1, 0, api.ErrSaturated},
		{nil, 0, 0, "a", 1 << 62, 0, api.ErrSaturated},
		{nil, 0, 0, "a", math.MaxInt, 0, api.ErrSaturated},
		{nil, 0, 0, "a", -1, 0, api.ErrArg},
		{nil, 0, 0, "a", -top, 0, api.ErrArg},
		{nil, 0, 0, "a", math.MinInt, 0, api.ErrArg},
		{nil, 16, 0, "a", 1, 0, api.ErrArg},
		{nil, 255, 0, "a", 1, 0, api.ErrArg},
		{nil, 16, 0, "a", 0, 0, api.ErrArg},
		{nil, 16, 0, "a", math.MaxInt, 0, api.ErrArg},
		{nil, 0, 0, "", 1, 0, api.ErrArg},
		{nil, 0, 0, "A", 1, 0, api.ErrArg},
		{nil, 0, 0, "9", 0, 0, api.ErrArg},
		{nil, 0, 0, "a\x00b", 1, 0, api.ErrArg},
		{nil, 0, 0, "A", math.MaxInt, 0, api.ErrArg},
		{row(plus(1, "a", 2, 5), minus(1, "a", 2, 5)), 2, 1, "a", 3, 8, api.OK},
		{row(plus(1, "a", 2, 5), minus(1, "a", 2, 5)), 2, 1, "a", 0, 0, api.OK},
		{row(plus(1, "a", 2, 5), minus(1, "a", 2, 5)), 2, 1, "a", -3, 0, api.ErrArg},
		{row(plus(1, "a", 2, 5), minus(1, "a", 2, 5)), 3, 1, "a", 3, 3, api.OK},
		{row(plus(1, "a", 2, 5), minus(1, "a", 2, 5)), 18, 1, "a", 3, 0, api.ErrArg},
		{row(plus(1, "a", 2, 5), minus(1, "a", 2, 5)), 2, 0, "a", 3, 3, api.OK},
		{row(plus(1, "a", 2, 5), minus(1, "a", 2, 5)), 2, 1, "b-9", 3, 3, api.OK},
		{row(plus(1, "a", 2, 9), plus(1, "a", 2, 5), minus(1, "a", 2, 5), minus(1, "a", 2, 9)), 2, 1, "a", 3, 12, api.OK},
		{almost, 2, 1, "a", 0, 0, api.OK},
		{almost, 2, 1, "a", 2, top - 1, api.OK},
		{almost, 2, 1, "a", 3, top, api.OK},
		{almost, 2, 1, "a", 4, 0, api.ErrSaturated},
		{almost, 2, 1, "a", top, 0, api.ErrSaturated},
		{almost, 2, 1, "a", math.MaxInt, 0, api.ErrSaturated},
		{almost, 2, 1, "a", -4, 0, api.ErrArg},
		{almost, 1, 1, "a", 4, 4, api.OK},
		{full, 2, 1, "a", 0, 0, api.OK},
		{full, 2, 1, "a", 1, 0, api.ErrSaturated},
		{full, 2, 1, "a", top, 0, api.ErrSaturated},
		{full, 2, 1, "a", math.MaxInt, 0, api.ErrSaturated},
		{full, 2, 1, "a", -1, 0, api.ErrArg},
		{full, 18, 1, "a", 1, 0, api.ErrArg},
		{full, 2, 1, "", 1, 0, api.ErrArg},
		{full, 1, 1, "a", top, top, api.OK},
		{full, 2, 7, "a", top, top, api.OK},
		{full, 2, 1, "b", top, top, api.OK},
		{wrong(), 2, 1, "a", 3, 3, api.OK},
		{wrong(), 3, 1, "a", top, top, api.OK},
		{others(), 2, 1, "a", 3, 3, api.OK},
		{append(wrong(), almost...), 2, 1, "a", 3, top, api.OK},
	} {
		item := padded(c.item)
		for sort, f := range map[uint8]func([]api.Atom, uint8, uint16, api.Name, int) ([]api.Atom, api.Errno){api.Plus: Raise, api.Minus: Lower} {
			var want []api.Atom
			if c.want > 0 {
				want = row(half(sort, c.cart, c.item, c.rep, c.want))
			}
			if got, e := f(c.l, c.rep, c.cart, item, c.n); !slices.Equal(got, want) || e != c.err || got == nil != (want == nil) {
				t.Errorf("sort %d, %v, %d, %d, %q, %d: %v, %d, not %v, %d", sort, c.l, c.rep, c.cart, c.item, c.n, got, e, want, c.err)
			}
		}
	}
}

// TestP1502Own: a Plus half has no influence on Lower, and a Minus half none on Raise.
func TestP1502Own(t *testing.T) {
	l := row(plus(1, "a", 2, top), minus(1, "b", 2, top))
	for _, n := range []int{1, 5, top} {
		if got, e := Lower(l, 2, 1, padded("a"), n); !slices.Equal(got, row(minus(1, "a", 2, uint64(n)))) || e != api.OK {
			t.Errorf("Lower by %d: %v, %d", n, got, e)
		}
		if got, e := Raise(l, 2, 1, padded("b"), n); !slices.Equal(got, row(plus(1, "b", 2, uint64(n)))) || e != api.OK {
			t.Errorf("Raise by %d: %v, %d", n, got, e)
		}
		if got, e := Raise(l, 2, 1, padded("a"), n); len(got) > 0 || e != api.ErrSaturated {
			t.Errorf("Raise a full half by %d: %v, %d", n, got, e)
		}
		if got, e := Lower(l, 2, 1, padded("b"), n); len(got) > 0 || e != api.ErrSaturated {
			t.Errorf("Lower a full half by %d: %v, %d", n, got, e)
		}
	}
}

// TestP1502Reps: each replica has a half of its own, and there are 16.
func TestP1502Reps(t *testing.T) {
	var l []api.Atom
	for rep := range uint8(16) {
		l = append(l, plus(1, "a", rep, uint64(rep)*2+50), minus(1, "a", rep, uint64(rep)*3+90))
	}
	for rep := range 256 {
		r := uint8(rep)
		up, down, err := row(plus(1, "a", r, uint64(rep)*2+54)), row(minus(1, "a", r, uint64(rep)*3+94)), api.OK
		if rep > 15 {
			up, down, err = nil, nil, api.ErrArg
		}
		if got, e := Raise(l, r, 1, padded("a"), 4); !slices.Equal(got, up) || e != err {
			t.Errorf("Raise by the replica %d: %v, %d", rep, got, e)
		}
		if got, e := Lower(l, r, 1, padded("a"), 4); !slices.Equal(got, down) || e != err {
			t.Errorf("Lower by the replica %d: %v, %d", rep, got, e)
		}
		if got, e := Shift(l, r, 1, padded("a"), -4); !slices.Equal(got, down) || e != err {
			t.Errorf("Shift by the replica %d: %v, %d", rep, got, e)
		}
	}
}

// TestP1502Bounds: a half has room for exactly what MaxHalf leaves, in all three functions.
func TestP1502Bounds(t *testing.T) {
	for _, n := range amounts() {
		for _, have := range []uint64{0, 1, 6, 1<<31 - 1, 1 << 31, top - 7, top - 1, top} {
			// With the value 0 these two are not valid, and have no influence.
			l := row(plus(1, "a", 2, have), minus(1, "a", 2, have))
			for _, rep := range []uint8{0, 2, 15, 16, 18, 255} {
				checkChanges(t, l, rep, 1, padded("a"), n)
			}
			for _, item := range strangers() {
				checkChanges(t, l, 2, 1, item, n)
			}
			checkChanges(t, l, 2, 0, padded("a"), n)
			checkChanges(t, l, 2, 1, padded("b"), n)
		}
	}
}

func TestP1502Rows(t *testing.T) {
	few := few()
	for n := range 4 {
		listsOf(few, n, func(l []api.Atom) {
			for _, by := range []int{0, 1, -1, top - 5, 5 - top, top, -top} {
				checkChanges(t, l, 2, 1, padded("a"), by)
			}
		})
	}
	next := dice(2)
	for i := range 3000 {
		l := anyRow(next, i%80)
		n := int(next()) >> (next() % 64)
		if i%3 == 0 {
			n = amounts()[next()%uint64(len(amounts()))]
		}
		checkChanges(t, l, uint8(next()%18), uint16(next()%3), named("a", "b", "cup", "A")[next()%4], n)
	}
}

func TestP1503Shift(t *testing.T) {
	l := row(plus(1, "a", 2, 5), minus(1, "a", 2, 7))
	almost := row(plus(1, "a", 2, top-3), minus(1, "a", 2, top-2))
	for _, c := range []struct {
		l    []api.Atom
		rep  uint8
		item string
		n    int
		want []api.Atom
		err  api.Errno
	}{
		{nil, 0, "a", 0, nil, api.OK},
		{nil, 0, "a", 1, row(plus(1, "a", 0, 1)), api.OK},
		{nil, 0, "a", -1, row(minus(1, "a", 0, 1)), api.OK},
		{nil, 0, "a", top, row(plus(1, "a", 0, top)), api.OK},
		{nil, 0, "a", -top, row(minus(1, "a", 0, top)), api.OK},
		{nil, 0, "a", top + 1, nil, api.ErrSaturated},
		{nil, 0, "a", -top - 1, nil, api.ErrSaturated},
		{nil, 0, "a", -1 << 32, nil, api.ErrSaturated},
		{nil, 0, "a", -1<<32 - 1, nil, api.ErrSaturated},
		{nil, 0, "a", -1 << 62, nil, api.ErrSaturated},
		{nil, 0, "a", math.MaxInt, nil, api.ErrSaturated},
		{nil, 0, "a", math.MinInt, nil, api.ErrSaturated},
		{nil, 0, "a", math.MinInt + 1, nil, api.ErrSaturated},
		{nil, 16, "a", math.MinInt, nil, api.ErrArg},
		{nil, 16, "a", -top - 1, nil, api.ErrArg},
		{nil, 16, "a", -1, nil, api.ErrArg},
		{nil, 16, "a", 0, nil, api.ErrArg},
		{nil, 16, "a", 1, nil, api.ErrArg},
		{nil, 0, "A", math.MinInt, nil, api.ErrArg},
		{nil, 0, "", -top - 1, nil, api.ErrArg},
		{nil, 0, "A", -1, nil, api.ErrArg},
		{nil, 0, "", 0, nil, api.ErrArg},
		{nil, 0, "A", math.MaxInt, nil, api.ErrArg},
		{l, 2, "a", 0, nil, api.OK},
		{l, 2, "a", 3, row(plus(1, "a", 2, 8)), api.OK},
		{l, 2, "a", -3, row(minus(1, "a", 2, 10)), api.OK},
		{l, 3, "a", 3, row(plus(1, "a", 3, 3)), api.OK},
		{l, 3, "a", -3, row(minus(1, "a", 3, 3)), api.OK},
		{l, 2, "b", -3, row(minus(1, "b", 2, 3)), api.OK},
		{almost, 2, "a", 3, row(plus(1, "a", 2, top)), api.OK},
		{almost, 2, "a", 4, nil, api.ErrSaturated},
		{almost, 2, "a", -2, row(minus(1, "a", 2, top)), api.OK},
		{almost, 2, "a", -3, nil, api.ErrSaturated},
		{almost, 2, "a", -top, nil, api.ErrSaturated},
		{almost, 2, "a", math.MinInt, nil, api.ErrSaturated},
		{almost, 1, "a", -top, row(minus(1, "a", 1, top)), api.OK},
		{almost, 18, "a", -3, nil, api.ErrArg},
	} {
		if got, e := Shift(c.l, c.rep, 1, padded(c.item), c.n); !slices.Equal(got, c.want) || e != c.err || got == nil != (c.want == nil) {
			t.Errorf("Shift %v, %d, %q, %d: %v, %d, not %v, %d", c.l, c.rep, c.item, c.n, got, e, c.want, c.err)
		}
	}
}

// TestP1503Others: Shift is Raise for n, or Lower for -n, and has no other effect.
func TestP1503Others(t *testing.T) {
	next := dice(3)
	for i := range 1000 {
		l := anyRow(next, i%60)
		rep, cart, item := uint8(next()%17), uint16(next()%3), asked()[next()%6]
		n := int(next() >> (1 + next()%63))
		got, e := Shift(l, rep, cart, item, n)
		if want, err := Raise(l, rep, cart, item, n); !slices.Equal(got, want) || e != err {
			t.Fatalf("Shift %v, %d, %d, %q, %d: %v, %d, not %v, %d", l, rep, cart, item, n, got, e, want, err)
		}
		got, e = Shift(l, rep, cart, item, -n)
		want, err := Lower(l, rep, cart, item, n)
		if n == 0 {
			want, err = Raise(l, rep, cart, item, 0)
		}
		if !slices.Equal(got, want) || e != err {
			t.Fatalf("Shift %v, %d, %d, %q, %d: %v, %d, not %v, %d", l, rep, cart, item, -n, got, e, want, err)
		}
	}
}

// otherTotals are the totals of all items but one.
func otherTotals(s []api.Atom, cart uint16, item api.Name) []int {
	var l []int
	for _, c := range carts()[:3] {
		for _, x := range asked()[:3] {
			if c != cart || x != item {
				l = append(l, Total(s, c, x))
			}
		}
	}
	return l
}

// checkLaws holds changes of the state of s by two replicas against the laws.
func checkLaws(t *testing.T, s []api.Atom, first, second uint8, n, m int) {
	t.Helper()
	item := padded("a")
	before, rest := Total(s, 1, item), otherTotals(s, 1, item)
	a, e := Shift(s, first, 1, item, n)
	b, f := Shift(s, second, 1, item, m)
	if e != api.OK || f != api.OK {
		return
	}
	if !lat.Right(a) || len(a) > 1 {
		t.Fatalf("Shift %v, %d, %d: %v", s, first, n, a)
	}
	for _, after := range [][]api.Atom{lat.Join(s, a), lat.Join(a, s), lat.All(a, s, a)} {
		if Total(after, 1, item) != before+n || !slices.Equal(otherTotals(after, 1, item), rest) {
			t.Fatalf("Shift %v, %d, %d: %v makes %d of %d, or changes other totals", s, first, n, a, Total(after, 1, item), before)
		}
	}
	if first == second {
		return
	}
	for _, both := range [][]api.Atom{lat.All(s, a, b), lat.All(b, a, s), lat.Join(lat.Join(s, a), lat.Join(s, b)), lat.Join(lat.Join(s, b), a)} {
		if Total(both, 1, item) != before+n+m || !slices.Equal(otherTotals(both, 1, item), rest) {
			t.Fatalf("Shift %v, %d and %d, %d and %d: %v and %v make %d of %d, or change other totals", s, first, second, n, m, a, b, Total(both, 1, item), before)
		}
	}
}

// TestP1504Laws: all rows of up to 2 of few, a part of the rows of 3 of them, and rows without a pattern.
func TestP1504Laws(t *testing.T) {
	some := []int{-top, -6, -1, 0, 1, 4, top}
	for n := range 3 {
		listsOf(few(), n, func(l []api.Atom) {
			for _, n := range some {
				checkLaws(t, l, 2, 1, n, 4)
				checkLaws(t, l, 3, 2, -6, n)
			}
		})
	}
	i := 0
	listsOf(few(), 3, func(l []api.Atom) {
		i++
		if i%4 == 0 {
			checkLaws(t, l, 2, 1, some[i/4%7], some[i/28%7])
		}
	})
	next := dice(4)
	for i := range 3000 {
		n, m := int(next()%2001)-1000, int(next()%2001)-1000
		switch i % 4 {
		case 0:
			n = some[next()%7]
		case 1:
			m = int(next()%(2*top)) - top
		}
		checkLaws(t, anyRow(next, i%40), uint8(next()%16), uint8(next()%16), n, m)
	}
}

// TestP1504Reps: what all 16 replicas count for the same state counts after it is joined, in any order.
func TestP1504Reps(t *testing.T) {
	item := padded("a")
	next := dice(5)
	for i := range 300 {
		s := anyRow(next, i%40)
		all := [][]api.Atom{s}
		want := Total(s, 1, item)
		for rep := range uint8(16) {
			n := int(next()%2001) - 1000
			delta, e := Shift(s, rep, 1, item, n)
			if e == api.OK {
				want += n
				all = append(all, delta, delta)
			}
		}
		for j := range all {
			k := next() % uint64(j+1)
			all[j], all[k] = all[k], all[j]
		}
		if got := lat.All(all...); Total(got, 1, item) != want || !slices.Equal(otherTotals(got, 1, item), otherTotals(s, 1, item)) {
			t.Fatalf("%v: %d, not %d", all, Total(got, 1, item), want)
		}
	}
}

// TestP1504Replicas: replicas count one item up and down, and join each other's states: a total is the sum of all changes that its replica knows.
func TestP1504Replicas(t *testing.T) {
	item := padded("cup")
	next := dice(6)
	for range 100 {
		const n = 4
		var states [n][]api.Atom
		var changes [n]map[int]int
		for i := range n {
			changes[i] = map[int]int{}
		}
		for step := range 60 {
			i, j := next()%n, next()%n
			if next()%2 == 0 {
				by := int(next()%200) - 100
				delta, e := Shift(states[i], uint8(i), 3, item, by)
				if e != api.OK {
					t.Fatalf("Shift %v, %d, %d: %v, %d", states[i], i, by, delta, e)
				}
				states[i] = lat.Join(states[i], delta)
				changes[i][step] = by
			} else {
				states[i] = lat.Join(states[i], states[j])
				for at, by := range changes[j] {
					changes[i][at] = by
				}
			}
			want := 0
			for _, by := range changes[i] {
				want += by
			}
			if got := Total(states[i], 3, item); got != want {
				t.Fatalf("%v: %d, not %d", states[i], got, want)
			}
		}
	}
}

// TestP1504Example1: after joining the results of Raise 3 by replica 0 and Lower 1 by replica 1 the total is 2.
func TestP1504Example1(t *testing.T) {
	cup := padded("cup")
	a, e := Raise(nil, 0, 1, cup, 3)
	b, f := Lower(nil, 1, 1, cup, 1)
	if got := Total(lat.Join(a, b), 1, cup); e != api.OK || f != api.OK || got != 2 {
		t.Errorf("%v and %v: %d", a, b, got)
	}
}

// TestMany: rows have no greatest length, and of many values of a half the greatest one counts.
func TestMany(t *testing.T) {
	const n = 1<<16 + 1
	var l []api.Atom
	for i := range uint64(n) {
		// 7919 has no factor in common with n, so each number occurs once.
		l = append(l, plus(9, "cup", 3, i*7919%n+1), minus(9, "cup", 4, i*7919%n+2), plus(uint16(i), "pen", 5, 1))
	}
	if got := Total(l, 9, padded("cup")); got != -1 {
		t.Errorf("Total: %d", got)
	}
	if got := Half(l, plus(9, "cup", 3, 0).K); got != n {
		t.Errorf("Half: %d", got)
	}
	if got, e := Raise(l, 3, 9, padded("cup"), 5); !slices.Equal(got, row(plus(9, "cup", 3, n+5))) || e != api.OK {
		t.Errorf("Raise: %v, %d", got, e)
	}
	if got, e := Shift(l, 4, 9, padded("cup"), -5); !slices.Equal(got, row(minus(9, "cup", 4, n+6))) || e != api.OK {
		t.Errorf("Shift: %v, %d", got, e)
	}
	if got := Total(lat.Norm(l), 65535, padded("pen")); got != 1 {
		t.Errorf("Total of another item: %d", got)
	}
}

// TestArguments: arguments and their spare capacity stay as they are, and results are apart from them.
func TestArguments(t *testing.T) {
	next := dice(7)
	for i := range 300 {
		whole := anyRow(next, i%40+3)
		if i%2 == 0 {
			whole = lat.Norm(whole)
		}
		kept := slices.Clone(whole)
		l := whole[:len(whole)/2]
		for _, n := range []int{3, -3, 0} {
			delta, _ := Shift(l, uint8(next()%16), 1, padded("a"), n)
			clear(delta[:cap(delta)])
		}
		up, _ := Raise(l, 3, 1, padded("a"), 1)
		down, _ := Lower(l, 3, 1, padded("a"), 1)
		clear(up[:cap(up)])
		clear(down[:cap(down)])
		Total(l, 1, padded("a"))
		for _, a := range kept {
			Half(l, a.K)
		}
		if !slices.Equal(whole, kept) {
			t.Fatalf("the row %v has changed", kept)
		}
	}
}

// TestRepeated: the order in which a map is visited is not to be seen, and a row tells what its state tells.
func TestRepeated(t *testing.T) {
	l := anyRow(dice(8), 300)
	s := lat.Norm(l)
	for _, cart := range carts() {
		for _, item := range asked() {
			first := Total(l, cart, item)
			for range 20 {
				if Total(l, cart, item) != first || Total(s, cart, item) != first {
					t.Fatal("a second call of Total has another result")
				}
			}
			for rep := range uint8(17) {
				for _, n := range []int{1, -1, top / 2} {
					got, e := Shift(l, rep, cart, item, n)
					if again, f := Shift(s, rep, cart, item, n); !slices.Equal(got, again) || e != f {
						t.Fatalf("Shift by the replica %d: %v, %d, and %v, %d", rep, got, e, again, f)
					}
				}
			}
		}
	}
}

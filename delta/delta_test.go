package delta

import (
	"math"
	"slices"
	"testing"

	"handcart/api"
	"handcart/atom"
	"handcart/lat"
)

// dice returns a function whose results have no pattern, but are the same in each run.
func dice(seed uint64) func() uint64 {
	x := 88172645463325252 + seed
	return func() uint64 {
		x ^= x << 13
		x ^= x >> 7
		x ^= x << 17
		return x
	}
}

// padded returns s in an api.Name.
func padded(s string) api.Name {
	var n api.Name
	copy(n[:], s)
	return n
}

func tag(cart uint16, item string, rep uint8, seq uint32, n uint64) api.Atom {
	return api.Atom{K: api.Key{Sort: api.Tag, Cart: cart, Item: padded(item), Rep: rep, Seq: seq}, V: api.Val{N: n}}
}

func half(sort uint8, cart uint16, item string, rep uint8, n uint64) api.Atom {
	return api.Atom{K: api.Key{Sort: sort, Cart: cart, Item: padded(item), Rep: rep}, V: api.Val{N: n}}
}

func note(cart uint16, stamp uint64, text string) api.Atom {
	return api.Atom{K: api.Key{Sort: api.Note, Cart: cart}, V: api.Val{N: stamp, Text: padded(text)}}
}

// plus is a half with nothing but a cart and a number.
func plus(cart uint16, n uint64) api.Atom {
	return half(api.Plus, cart, "a", 0, n)
}

// row is a short form, as list is.
func row(l ...api.Atom) []api.Atom { return l }

func list(l ...[]api.Atom) [][]api.Atom { return l }

// ordered is a state with atoms of all sorts, at the bounds of their fields and values.
func ordered() []api.Atom {
	return row(
		tag(0, "a", 0, 1, api.There),
		tag(0, "a", 0, 2, api.Gone),
		tag(0, "a", 1, 1, api.There),
		tag(0, "aa", 0, 1, api.There),
		tag(1, "a", 0, 1, api.There),
		tag(65535, "zzzzzzzz", 15, math.MaxUint32, api.Gone),
		half(api.Plus, 0, "a", 0, 1),
		half(api.Plus, 0, "a", 15, math.MaxUint32),
		half(api.Plus, 0, "b", 0, 7),
		half(api.Minus, 0, "a", 0, math.MaxUint32),
		half(api.Minus, 65535, "z", 15, 1),
		note(0, 256, ""),
		note(1, 271, "a"),
		note(65535, 1<<40-241, "zzzzzzzz"),
	)
}

// wrong are atoms that are not valid: those whose values are beyond a bound or wrong for their sort, and those with wrong keys.
func wrong() []api.Atom {
	text := tag(1, "a", 2, 3, api.There)
	text.V.Text = padded("a")
	owned := note(1, 256, "")
	owned.K.Rep = 1
	return row(
		tag(0, "a", 0, 1, 0), tag(0, "a", 0, 1, 3), text,
		plus(0, 0), plus(0, 1<<32), half(api.Minus, 0, "a", 0, math.MaxUint64),
		note(0, 255, "a"), note(0, 272, "a"), note(0, 1<<40, "a"), note(0, 256, "A"),
		api.Atom{}, owned,
		tag(0, "a", 0, 0, api.There), tag(0, "", 0, 1, api.There), tag(0, "a", 16, 1, api.There),
		half(api.Minus, 0, "a", 255, 1), api.Atom{K: api.Key{Sort: 5}, V: api.Val{N: 1}},
	)
}

// few are valid and invalid atoms with few keys, so that rows of them often have a key twice.
func few() []api.Atom {
	return row(
		tag(1, "a", 2, 3, api.There), tag(1, "a", 2, 3, api.Gone), tag(1, "a", 2, 3, 3),
		half(api.Plus, 0, "b", 0, 1), half(api.Plus, 0, "b", 0, 9), half(api.Plus, 0, "b", 0, 1<<32),
		note(4, 256, ""), note(4, 256, "b"), note(4, 257, "a"), note(4, 16, "z"),
	)
}

// rowsOf are all rows of up to n of the atoms of l.
func rowsOf(l []api.Atom, n int) [][]api.Atom {
	all := [][]api.Atom{nil}
	level := all
	for range n {
		var next [][]api.Atom
		for _, row := range level {
			for _, a := range l {
				next = append(next, append(slices.Clone(row), a))
			}
		}
		all, level = append(all, next...), next
	}
	return all
}

// listsOf calls visit with all lists of n of the rows of l.
func listsOf(l [][]api.Atom, n int, visit func(l [][]api.Atom)) {
	chosen := make([][]api.Atom, n)
	var choose func(i int)
	choose = func(i int) {
		if i == n {
			visit(chosen)
			return
		}
		for _, row := range l {
			chosen[i] = row
			choose(i + 1)
		}
	}
	choose(0)
}

// states are all states with the keys of the given values, which are in order.
func states(keys ...[]api.Atom) [][]api.Atom {
	all := [][]api.Atom{nil}
	for _, values := range keys {
		for _, s := range slices.Clone(all) {
			for _, a := range values {
				all = append(all, append(slices.Clone(s), a))
			}
		}
	}
	return all
}

// twoKeys are the nine states with two keys and two values of each.
func twoKeys() [][]api.Atom {
	return states(row(plus(1, 1), plus(1, 2)), row(note(4, 256, "a"), note(4, 256, "b")))
}

// threeKeys are the 36 states with a key of each of three sorts, and two or three values of each.
func threeKeys() [][]api.Atom {
	return states(
		row(tag(1, "a", 2, 3, api.There), tag(1, "a", 2, 3, api.Gone)),
		row(half(api.Minus, 0, "b", 0, 1), half(api.Minus, 0, "b", 0, 1<<32-1)),
		row(note(4, 256, ""), note(4, 256, "b"), note(4, 257, "a")),
	)
}

// mixed is a row of n atoms, with some keys many times and some atoms that are not valid.
func mixed(next func() uint64, n int) []api.Atom {
	good, bad := ordered(), wrong()
	var l []api.Atom
	for range n {
		a := good[next()%uint64(len(good))]
		switch next() % 6 {
		case 0:
			a = bad[next()%uint64(len(bad))]
		case 1:
			a.V.N = next() >> (next() % 64)
		case 2:
			a.V.N += next() % 3
		case 3:
			a.V = good[next()%uint64(len(good))].V
		}
		l = append(l, a)
	}
	return l
}

// mixedList is a list of n rows of up to most atoms each, some of which are equal to others or below them.
func mixedList(next func() uint64, n, most int) [][]api.Atom {
	var l [][]api.Atom
	for i := range n {
		row := mixed(next, int(next()%uint64(most+1)))
		if i > 0 {
			other := l[next()%uint64(i)]
			switch next() % 5 {
			case 0:
				row = shuffled(next, other)
			case 1:
				row = lat.Join(row, other)
			case 2:
				row = lat.Meet(row, other)
			}
		}
		l = append(l, row)
	}
	return l
}

// shuffled is l in another order.
func shuffled[T any](next func() uint64, l []T) []T {
	out := slices.Clone(l)
	for i := range out {
		j := i + int(next()%uint64(len(out)-i))
		out[i], out[j] = out[j], out[i]
	}
	return out
}

// many is a state of n atoms, n below 2^20.
func many(n int) []api.Atom {
	var l []api.Atom
	for i := range n {
		l = append(l, tag(uint16(i/16), "cup", uint8(i%16), 7, api.There))
	}
	return l
}

// chosen are the rows of l at the indices.
func chosen(l [][]api.Atom, indices []int) [][]api.Atom {
	var out [][]api.Atom
	for _, i := range indices {
		out = append(out, l[i])
	}
	return out
}

// without is l without its row i.
func without(l [][]api.Atom, i int) [][]api.Atom {
	return slices.Delete(slices.Clone(l), i, i+1)
}

func equalRows(a, b [][]api.Atom) bool {
	return slices.EqualFunc(a, b, slices.Equal[[]api.Atom])
}

// checkRow holds what is told of one row against the chapter's definitions, taken literally.
func checkRow(t *testing.T, l []api.Atom) {
	t.Helper()
	state := lat.Norm(l)
	parts := Parts(l)
	if len(parts) != len(state) {
		t.Errorf("Parts %v: %v", l, parts)
		return
	}
	for i, p := range parts {
		if !slices.Equal(p, state[i:i+1]) {
			t.Errorf("Parts %v: %v at %d", l, p, i)
		}
	}
	if got := Irreducible(l); got != (len(state) == 1) {
		t.Errorf("Irreducible %v: %v", l, got)
	}
}

// checkPair holds what is told of two rows against the chapter's definitions, taken literally.
func checkPair(t *testing.T, a, b []api.Atom) {
	t.Helper()
	var lacked []api.Atom
	for _, x := range lat.Norm(a) {
		if !lat.Leq(row(x), b) {
			lacked = append(lacked, x)
		}
	}
	if got := Diff(a, b); !slices.Equal(got, lacked) {
		t.Errorf("Diff %v, %v: %v, not %v", a, b, got, lacked)
	}
	want := 3
	switch {
	case lat.Same(a, b):
		want = 0
	case lat.Leq(a, b):
		want = 1
	case lat.Leq(b, a):
		want = 2
	}
	if got := Compare(a, b); got != want {
		t.Errorf("Compare %v, %v: %v, not %v", a, b, got, want)
	}
}

// needless is the chapter's definition of Needless, taken literally.
func needless(l [][]api.Atom) []int {
	var kept [][]api.Atom
	var omitted []int
	for i, row := range l {
		if lat.Leq(row, lat.All(slices.Concat(kept, l[i+1:])...)) {
			omitted = append(omitted, i)
		} else {
			kept = append(kept, row)
		}
	}
	return omitted
}

// irredundant is the chapter's definition of irredundant rows, taken literally.
func irredundant(l [][]api.Atom) bool {
	for i, row := range l {
		if lat.Leq(row, lat.All(without(l, i)...)) {
			return false
		}
	}
	return true
}

// tops is the chapter's definition of Tops, taken literally.
func tops(l [][]api.Atom) []int {
	var out []int
	for i, a := range l {
		if !slices.ContainsFunc(without(l, i), func(b []api.Atom) bool { return lat.Leq(a, b) && !lat.Same(a, b) }) {
			out = append(out, i)
		}
	}
	return out
}

// chain is the chapter's definition of Chain, taken literally.
func chain(l [][]api.Atom) bool {
	for i := range l {
		if i > 0 && !lat.Leq(l[i-1], l[i]) {
			return false
		}
	}
	return true
}

// checkList holds what is told of a list of rows against the chapter's definitions.
func checkList(t *testing.T, l [][]api.Atom) {
	t.Helper()
	if got, want := Needless(l), needless(l); !slices.Equal(got, want) {
		t.Errorf("Needless %v: %v, not %v", l, got, want)
	}
	if got := Irredundant(l); got != irredundant(l) {
		t.Errorf("Irredundant %v: %v", l, got)
	}
	if got, want := Tops(l), tops(l); !slices.Equal(got, want) {
		t.Errorf("Tops %v: %v, not %v", l, got, want)
	}
	if got := Chain(l); got != chain(l) {
		t.Errorf("Chain %v: %v", l, got)
	}
}

// TestLists: the lists of this file are what they say.
func TestLists(t *testing.T) {
	if !lat.Right(ordered()) {
		t.Error("ordered is not a state")
	}
	for _, a := range wrong() {
		if atom.Right(a) {
			t.Errorf("wrong has %v", a)
		}
	}
	for _, l := range [][][]api.Atom{twoKeys(), threeKeys()} {
		for _, s := range l {
			if !lat.Right(s) {
				t.Errorf("%v is not a state", s)
			}
		}
	}
}

func TestP1101Parts(t *testing.T) {
	var single [][]api.Atom
	for _, a := range ordered() {
		single = append(single, row(a))
	}
	backward := ordered()
	slices.Reverse(backward)
	for _, c := range []struct {
		row  []api.Atom
		want [][]api.Atom
	}{
		{nil, nil},
		{row(), nil},
		{wrong(), nil},
		{row(plus(1, 5)), list(row(plus(1, 5)))},
		{row(plus(1, 5), plus(2, 2), plus(3, 1)), list(row(plus(1, 5)), row(plus(2, 2)), row(plus(3, 1)))},
		{row(plus(2, 2), plus(1, 5), plus(2, 3)), list(row(plus(1, 5)), row(plus(2, 3)))},
		{row(plus(1, 1<<32-1), plus(1, 1<<32), plus(2, 0)), list(row(plus(1, 1<<32-1)))},
		{row(note(1, 256, "b"), note(1, 256, "c"), note(1, 256, "a")), list(row(note(1, 256, "c")))},
		{row(tag(1, "a", 2, 3, api.Gone), tag(1, "a", 2, 3, api.There)), list(row(tag(1, "a", 2, 3, api.Gone)))},
		{ordered(), single},
		{backward, single},
		{append(wrong(), append(backward, backward...)...), single},
	} {
		if got := Parts(c.row); !equalRows(got, c.want) {
			t.Errorf("Parts %v: %v, not %v", c.row, got, c.want)
		}
	}
}

func TestP1101Irreducible(t *testing.T) {
	for _, c := range []struct {
		row  []api.Atom
		want bool
	}{
		{nil, false},
		{row(), false},
		{wrong(), false},
		{row(plus(1, 0)), false},
		{row(plus(1, 1)), true},
		{row(plus(1, 1<<32-1)), true},
		{row(plus(1, 1<<32)), false},
		{row(plus(1, 5), plus(1, 6), plus(1, 5)), true},
		{row(plus(1, 5), plus(2, 5)), false},
		{row(plus(1, 5), plus(2, 0)), true},
		{row(plus(1, 5), half(api.Minus, 1, "a", 0, 5)), false},
		{row(note(1, 256, ""), note(1, 256, "a")), true},
		{row(note(1, 256, ""), note(2, 256, "")), false},
		{append(wrong(), tag(1, "a", 2, 3, api.There)), true},
		{ordered(), false},
		{ordered()[:2], false},
	} {
		if got := Irreducible(c.row); got != c.want {
			t.Errorf("Irreducible %v: %v", c.row, got)
		}
	}
	for _, a := range ordered() {
		if !Irreducible(row(a)) {
			t.Errorf("Irreducible %v: false", a)
		}
	}
}

// TestP1101Definition: irreducible states are those that are not empty, and not the join of two states that both differ.
func TestP1101Definition(t *testing.T) {
	all := threeKeys()
	for _, s := range all {
		joined := slices.ContainsFunc(all, func(x []api.Atom) bool {
			return slices.ContainsFunc(all, func(y []api.Atom) bool {
				return !lat.Same(x, s) && !lat.Same(y, s) && lat.Same(lat.Join(x, y), s)
			})
		})
		if got := Irreducible(s); got != (len(s) > 0 && !joined) {
			t.Errorf("Irreducible %v: %v", s, got)
		}
	}
}

// TestP1101Rows: all rows of up to 4 of a few atoms, and long ones without a pattern.
func TestP1101Rows(t *testing.T) {
	for _, l := range rowsOf(few(), 4) {
		checkRow(t, l)
	}
	next := dice(1)
	for i := range 600 {
		checkRow(t, mixed(next, i%60))
	}
}

func TestP1102Needless(t *testing.T) {
	x, y, z := plus(1, 5), plus(2, 5), plus(3, 5)
	for _, c := range []struct {
		l    [][]api.Atom
		want []int
	}{
		{nil, nil},
		{list(), nil},
		{list(nil), []int{0}},
		{list(nil, row(), wrong()), []int{0, 1, 2}},
		{list(row(x)), nil},
		{list(row(x), row(x)), []int{0}},
		{list(row(x), row(x), row(x)), []int{0, 1}},
		{list(row(x), row(y)), nil},
		{list(row(x), nil, row(y)), []int{1}},
		{list(row(x, y), row(x), row(y)), []int{0}},
		{list(row(x), row(x, y), row(y)), []int{0, 2}},
		{list(row(x), row(y), row(x, y)), []int{0, 1}},
		{list(row(x), row(y), row(y, x), row(z)), []int{0, 1}},
		{list(row(x, y), row(y, z), row(x, z)), []int{0}},
		{list(row(x, y), row(y, z), row(z, x), row(x, y, z)), []int{0, 1, 2}},
		{list(row(x, y, z), row(y, z), row(z, x), row(x, y)), []int{0, 1}},
		{list(row(plus(1, 4), y), row(x), row(y)), []int{0}},
		{list(row(plus(1, 4)), row(x), row(plus(1, 6))), []int{0, 1}},
		{list(row(plus(1, 6)), row(x), row(plus(1, 4))), []int{1, 2}},
		{list(row(plus(1, 6), plus(2, 4)), row(plus(1, 4), plus(2, 6)), row(plus(1, 6), plus(2, 6))), []int{0, 1}},
		{list(row(plus(1, 6), plus(2, 4)), row(plus(1, 4), plus(2, 6)), row(plus(1, 5), plus(2, 5))), []int{2}},
		{list(row(plus(1, 4), plus(1, 6)), row(plus(1, 5))), []int{1}},
		{list(row(plus(1, 1<<32-1)), row(plus(1, 1<<32)), row(plus(1, 1<<32-2))), []int{1, 2}},
		{list(row(plus(1, 1)), row(plus(1, 0))), []int{1}},
		{list(row(note(1, 256, "a")), row(note(1, 256, "b")), row(note(1, 256, ""))), []int{0, 2}},
		{list(row(note(1, 256, "z")), row(note(1, 257, ""))), []int{0}},
		{list(row(tag(1, "a", 2, 3, api.Gone)), row(tag(1, "a", 2, 3, api.There))), []int{1}},
		{list(row(tag(1, "a", 2, 3, api.There)), row(tag(1, "a", 2, 4, api.There))), nil},
		{list(ordered(), append(wrong(), ordered()...)), []int{0}},
	} {
		if got := Needless(c.l); !slices.Equal(got, c.want) {
			t.Errorf("Needless %v: %v, not %v", c.l, got, c.want)
		}
		if got := Irredundant(c.l); got != (len(c.want) == 0) {
			t.Errorf("Irredundant %v: %v", c.l, got)
		}
	}
}

// TestP1102Omitted: what is left without the needless rows is irredundant and has the same join.
func TestP1102Omitted(t *testing.T) {
	next := dice(2)
	for i := range 1000 {
		l := mixedList(next, i%12, i%10)
		omitted := Needless(l)
		left := slices.Clone(l)
		for _, j := range slices.Backward(omitted) {
			left = without(left, j)
		}
		if !irredundant(left) || !Irredundant(left) || !lat.Same(lat.All(left...), lat.All(l...)) {
			t.Errorf("Needless %v: %v", l, omitted)
		}
	}
}

// TestP1102P1105Lists: all lists of up to 4 of nine states, all of 3 rows of up to 2 atoms of few keys, and long ones without a pattern.
func TestP1102P1105Lists(t *testing.T) {
	for n := range 5 {
		listsOf(twoKeys(), n, func(l [][]api.Atom) { checkList(t, l) })
	}
	short := rowsOf(row(plus(1, 1), plus(1, 2), plus(2, 1), plus(2, 1<<32)), 2)
	listsOf(short, 3, func(l [][]api.Atom) { checkList(t, l) })
	next := dice(3)
	for i := range 1000 {
		checkList(t, mixedList(next, i%20, i%13))
	}
}

func TestP1103Diff(t *testing.T) {
	there, gone := tag(1, "a", 2, 3, api.There), tag(1, "a", 2, 3, api.Gone)
	for _, c := range []struct{ a, b, want []api.Atom }{
		{nil, nil, nil},
		{nil, ordered(), nil},
		{ordered(), nil, ordered()},
		{ordered(), row(), ordered()},
		{ordered(), ordered(), nil},
		{ordered(), wrong(), ordered()},
		{wrong(), nil, nil},
		{wrong(), ordered(), nil},
		{append(wrong(), ordered()...), nil, ordered()},
		{row(plus(1, 5), plus(2, 2), plus(3, 1)), row(plus(1, 4), plus(2, 2)), row(plus(1, 5), plus(3, 1))},
		{row(plus(1, 4), plus(2, 2)), row(plus(1, 5), plus(2, 2), plus(3, 1)), nil},
		{row(plus(3, 1), plus(1, 5), plus(2, 2), plus(1, 3)), row(plus(2, 2), plus(1, 4), plus(1, 1)), row(plus(1, 5), plus(3, 1))},
		{row(plus(1, 5)), row(plus(1, 4), plus(1, 6)), nil},
		{row(plus(1, 5), plus(1, 7)), row(plus(1, 6)), row(plus(1, 7))},
		{row(plus(1, 1)), row(plus(1, 0)), row(plus(1, 1))},
		{row(plus(1, 1<<32-1)), row(plus(1, 1<<32-2)), row(plus(1, 1<<32-1))},
		{row(plus(1, 1<<32-1)), row(plus(1, 1<<32)), row(plus(1, 1<<32-1))},
		{row(plus(1, 1<<32)), row(plus(1, 1)), nil},
		{row(gone), row(there), row(gone)},
		{row(there), row(gone), nil},
		{row(there), row(tag(1, "a", 2, 3, 3)), row(there)},
		{row(there), row(tag(1, "a", 2, 4, api.Gone)), row(there)},
		{row(note(1, 256, "b")), row(note(1, 256, "a")), row(note(1, 256, "b"))},
		{row(note(1, 256, "a")), row(note(1, 256, "b")), nil},
		{row(note(1, 256, "a")), row(note(1, 256, "")), row(note(1, 256, "a"))},
		{row(note(1, 257, "")), row(note(1, 256, "z")), row(note(1, 257, ""))},
		{row(note(1, 256, "")), row(note(2, 512, "")), row(note(1, 256, ""))},
		{row(half(api.Plus, 1, "a", 0, 1)), row(half(api.Minus, 1, "a", 0, 1)), row(half(api.Plus, 1, "a", 0, 1))},
	} {
		if got := Diff(c.a, c.b); !slices.Equal(got, c.want) {
			t.Errorf("Diff %v, %v: %v, not %v", c.a, c.b, got, c.want)
		}
	}
	for i, a := range ordered() {
		if got := Diff(ordered(), slices.Delete(ordered(), i, i+1)); !slices.Equal(got, row(a)) {
			t.Errorf("Diff of a state and the same without %v: %v", a, got)
		}
	}
}

// TestP1103P1105Pairs: all pairs of rows of up to 2 of a few atoms, and long ones without a pattern.
func TestP1103P1105Pairs(t *testing.T) {
	all := rowsOf(few(), 2)
	for _, a := range all {
		for _, b := range all {
			checkPair(t, a, b)
		}
	}
	next := dice(4)
	for i := range 2000 {
		a, b := mixed(next, i%40), mixed(next, i%50)
		checkPair(t, a, b)
		checkPair(t, a, lat.Join(a, b))
		checkPair(t, lat.Join(a, b), b)
		checkPair(t, lat.Meet(a, b), b)
		checkPair(t, a, shuffled(next, a))
	}
}

func TestP1103Split(t *testing.T) {
	a, b, c := plus(1, 5), plus(2, 2), plus(3, 1)
	big := func(x api.Atom) bool { return x.V.N > 1 }
	all := func(api.Atom) bool { return true }
	none := func(api.Atom) bool { return false }
	for _, d := range []struct {
		row          []api.Atom
		own          func(api.Atom) bool
		mine, others []api.Atom
	}{
		{nil, all, nil, nil},
		{row(), none, nil, nil},
		{wrong(), all, nil, nil},
		{row(a, b, c), big, row(a, b), row(c)},
		{row(a, b, c), all, row(a, b, c), nil},
		{row(a, b, c), none, nil, row(a, b, c)},
		{row(c, b, a), all, row(a, b, c), nil},
		{row(c, b, a), none, nil, row(a, b, c)},
		{row(c, plus(3, 4), plus(2, 0), a), big, row(a, plus(3, 4)), nil},
		{row(plus(1, 1), plus(1, 1<<32)), big, nil, row(plus(1, 1))},
		{ordered(), func(x api.Atom) bool { return x.K.Sort == api.Plus }, ordered()[6:9], slices.Delete(ordered(), 6, 9)},
		{append(wrong(), ordered()...), func(x api.Atom) bool { return x.K.Sort != api.Tag }, ordered()[6:], ordered()[:6]},
		{ordered(), nil, nil, ordered()},
		{wrong(), nil, nil, nil},
		{nil, nil, nil, nil},
	} {
		mine, others := Split(d.row, d.own)
		if !slices.Equal(mine, d.mine) || !slices.Equal(others, d.others) {
			t.Errorf("Split %v: %v, %v, not %v, %v", d.row, mine, others, d.mine, d.others)
		}
	}
}

// TestP1103SplitCalls: own is called once with each atom of the state, in order, whatever it returned before.
func TestP1103SplitCalls(t *testing.T) {
	next := dice(5)
	for i := range 300 {
		l := mixed(next, i%40)
		var asked, mine, others []api.Atom
		gotMine, gotOthers := Split(l, func(a api.Atom) bool {
			asked = append(asked, a)
			if next()%2 == 0 {
				mine = append(mine, a)
				return true
			}
			others = append(others, a)
			return false
		})
		if !slices.Equal(asked, lat.Norm(l)) {
			t.Errorf("Split %v has asked for %v", l, asked)
		}
		if !slices.Equal(gotMine, mine) || !slices.Equal(gotOthers, others) {
			t.Errorf("Split %v: %v, %v, not %v, %v", l, gotMine, gotOthers, mine, others)
		}
	}
}

// TestP1103SplitPanic: no call panics, for all arguments; own returns true for none of the atoms at which it panics, and the next ones are asked for all the same.
func TestP1103SplitPanic(t *testing.T) {
	var asked []api.Atom
	mine, others := Split(append(wrong(), ordered()...), func(a api.Atom) bool {
		asked = append(asked, a)
		switch a.K.Sort {
		case api.Plus:
			panic("plus")
		case api.Minus:
			panic(nil)
		case api.Note:
			return a.K.Item[a.K.Cart] == 0
		}
		return true
	})
	if !slices.Equal(asked, ordered()) {
		t.Errorf("Split has asked for %v", asked)
	}
	want := append(slices.Clone(ordered()[:6]), ordered()[11:13]...)
	rest := append(slices.Clone(ordered()[6:11]), ordered()[13])
	if !slices.Equal(mine, want) || !slices.Equal(others, rest) {
		t.Errorf("Split: %v, %v", mine, others)
	}
}

func TestP1105Compare(t *testing.T) {
	if Same != 0 || Below != 1 || Above != 2 || Apart != 3 {
		t.Error("the results of Compare have other numbers")
	}
	there, gone := tag(1, "a", 2, 3, api.There), tag(1, "a", 2, 3, api.Gone)
	for _, c := range []struct {
		a, b []api.Atom
		want int
	}{
		{nil, nil, Same},
		{nil, row(), Same},
		{nil, wrong(), Same},
		{nil, ordered(), Below},
		{ordered(), ordered(), Same},
		{append(wrong(), ordered()...), ordered(), Same},
		{ordered()[1:], ordered(), Below},
		{ordered()[1:], ordered()[:2], Apart},
		{row(there), row(gone), Below},
		{row(there, gone), row(gone), Same},
		{row(there), row(there, there), Same},
		{row(gone), row(tag(1, "a", 2, 3, 3)), Above},
		{row(plus(1, 5)), row(plus(2, 5)), Apart},
		{row(plus(1, 5), plus(2, 5)), row(plus(2, 5), plus(1, 5)), Same},
		{row(plus(1, 5), plus(2, 5)), row(plus(1, 5), plus(2, 6)), Below},
		{row(plus(1, 6), plus(2, 5)), row(plus(1, 5), plus(2, 6)), Apart},
		{row(plus(1, 6)), row(plus(1, 5), plus(2, 6)), Apart},
		{row(plus(1, 5)), row(plus(1, 5), plus(2, 6)), Below},
		{row(plus(1, 1<<32)), row(plus(1, 1)), Below},
		{row(plus(1, 1<<32-1)), row(plus(1, 1<<32-2)), Above},
		{row(note(1, 256, "a")), row(note(1, 256, "b")), Below},
		{row(note(1, 256, "z")), row(note(1, 257, "")), Below},
		{row(note(1, 256, "")), row(note(2, 256, "")), Apart},
	} {
		if got := Compare(c.a, c.b); got != c.want {
			t.Errorf("Compare %v, %v: %d, not %d", c.a, c.b, got, c.want)
		}
		back := []int{Same, Above, Below, Apart}[c.want]
		if got := Compare(c.b, c.a); got != back {
			t.Errorf("Compare %v, %v: %d, not %d", c.b, c.a, got, back)
		}
	}
}

func TestP1105Tops(t *testing.T) {
	x, y := plus(1, 5), plus(2, 5)
	for _, c := range []struct {
		l    [][]api.Atom
		want []int
	}{
		{nil, nil},
		{list(), nil},
		{list(nil), []int{0}},
		{list(nil, row(), wrong()), []int{0, 1, 2}},
		{list(nil, row(x), wrong()), []int{1}},
		{list(row(x), row(x)), []int{0, 1}},
		{list(row(x), row(y)), []int{0, 1}},
		{list(row(x, y), row(x), row(y), row(y, x, x)), []int{0, 3}},
		{list(row(x), row(y), row(x, y)), []int{2}},
		{list(row(plus(1, 4)), row(x), row(plus(1, 6)), row(y)), []int{2, 3}},
		{list(row(plus(1, 6)), row(x), row(plus(1, 4)), row(plus(1, 6))), []int{0, 3}},
		{list(row(plus(1, 6), plus(2, 4)), row(plus(1, 4), plus(2, 6)), row(plus(1, 5), plus(2, 5))), []int{0, 1, 2}},
		{list(row(x, y), row(y, plus(3, 1)), row(plus(3, 1), x)), []int{0, 1, 2}},
		{list(row(plus(1, 4), plus(1, 6)), row(plus(1, 5))), []int{0}},
		{list(row(plus(1, 1<<32-1)), row(plus(1, 1<<32)), row(plus(1, 1<<32-2))), []int{0}},
		{list(row(note(1, 256, "a")), row(note(1, 256, "b")), row(note(1, 256, ""))), []int{1}},
		{list(row(note(1, 256, "z")), row(note(1, 257, ""))), []int{1}},
		{list(row(tag(1, "a", 2, 3, api.There)), row(tag(1, "a", 2, 3, api.Gone)), row(tag(1, "a", 2, 4, api.There))), []int{1, 2}},
		{list(ordered(), append(wrong(), ordered()...), ordered()[1:]), []int{0, 1}},
	} {
		if got := Tops(c.l); !slices.Equal(got, c.want) {
			t.Errorf("Tops %v: %v, not %v", c.l, got, c.want)
		}
	}
}

func TestP1105Chain(t *testing.T) {
	x, y := plus(1, 5), plus(2, 5)
	for _, c := range []struct {
		l    [][]api.Atom
		want bool
	}{
		{nil, true},
		{list(), true},
		{list(nil), true},
		{list(row(x)), true},
		{list(nil, row(), wrong()), true},
		{list(nil, row(x), row(x), row(y, x)), true},
		{list(row(x), row(y)), false},
		{list(row(x), nil), false},
		{list(row(x), row(x, y), row(x)), false},
		{list(row(x, y), row(x), row(x, y)), false},
		{list(nil, row(x), row(y), row(x, y)), false},
		{list(row(x), row(plus(1, 6)), row(plus(1, 6), y)), true},
		{list(row(x), row(plus(1, 4))), false},
		{list(row(plus(1, 4), x), row(x, plus(1, 4))), true},
		{list(row(x), wrong(), row(x)), false},
		{list(row(plus(1, 1<<32-1)), row(plus(1, 1<<32))), false},
		{list(row(plus(1, 1<<32)), row(plus(1, 1))), true},
		{list(row(note(1, 256, "")), row(note(1, 256, "a")), row(note(1, 256, "b")), row(note(1, 257, ""))), true},
		{list(row(note(1, 256, "b")), row(note(1, 256, "a"))), false},
		{list(ordered(), append(wrong(), ordered()...), ordered()), true},
	} {
		if got := Chain(c.l); got != c.want {
			t.Errorf("Chain %v: %v", c.l, got)
		}
	}
}

// TestP1105ChainCompare: a chain is a list in which Compare of neighbors is Same or Below, and its last state is a top.
func TestP1105ChainCompare(t *testing.T) {
	for n := 1; n < 5; n++ {
		listsOf(twoKeys(), n, func(l [][]api.Atom) {
			rising := true
			for i := 1; i < n; i++ {
				c := Compare(l[i-1], l[i])
				rising = rising && (c == Same || c == Below)
			}
			if Chain(l) != rising {
				t.Fatalf("Chain %v: %v", l, !rising)
			}
			if rising && !slices.Contains(Tops(l), n-1) {
				t.Fatalf("Tops %v: %v", l, Tops(l))
			}
		})
	}
}

// checkParts holds a row against the laws of Parts.
func checkParts(t *testing.T, l []api.Atom) {
	t.Helper()
	parts := Parts(l)
	for _, p := range parts {
		if !Irreducible(p) || !lat.Right(p) {
			t.Fatalf("the part %v of %v is not irreducible, or not a state", p, l)
		}
	}
	if !Irredundant(parts) || !irredundant(parts) || len(Needless(parts)) != 0 || len(Tops(parts)) != len(parts) {
		t.Fatalf("the parts %v of %v are not irredundant", parts, l)
	}
	if !slices.Equal(lat.All(parts...), lat.Norm(l)) {
		t.Fatalf("the join of the parts %v is not %v", parts, lat.Norm(l))
	}
}

func TestP1104Parts(t *testing.T) {
	for _, l := range threeKeys() {
		checkParts(t, l)
	}
	for _, l := range rowsOf(few(), 3) {
		checkParts(t, l)
	}
	next := dice(6)
	for i := range 200 {
		checkParts(t, mixed(next, i%50))
	}
}

// checkDiff holds two rows against the first law of Diff.
func checkDiff(t *testing.T, a, b []api.Atom) {
	t.Helper()
	d := Diff(a, b)
	if !lat.Right(d) || !lat.Leq(d, a) {
		t.Fatalf("Diff %v, %v: %v is not a state below the first one", a, b, d)
	}
	if !slices.Equal(lat.Join(d, b), lat.Join(a, b)) {
		t.Fatalf("Diff %v, %v: %v joined with the second one is not the join of both", a, b, d)
	}
}

// TestP1104Diff: Diff(a, b) is below all states whose join with b is that of a and b, and is one of them.
func TestP1104Diff(t *testing.T) {
	all := threeKeys()
	for _, a := range all {
		for _, b := range all {
			checkDiff(t, a, b)
			d, join := Diff(a, b), lat.Join(a, b)
			for _, x := range all {
				if lat.Same(lat.Join(x, b), join) && !lat.Leq(d, x) {
					t.Fatalf("Diff %v, %v: %v, but %v is enough", a, b, d, x)
				}
			}
		}
	}
}

// TestP1104DiffRows: the laws of Diff once more, of rows: no atom of it can be left out.
func TestP1104DiffRows(t *testing.T) {
	next := dice(7)
	for i := range 1000 {
		a, b := mixed(next, i%30), mixed(next, i%40)
		checkDiff(t, a, b)
		d := Diff(a, b)
		for j := range d {
			less := slices.Delete(slices.Clone(d), j, j+1)
			if lat.Same(lat.Join(less, b), lat.Join(a, b)) {
				t.Fatalf("Diff %v, %v: %v, but %v is enough", a, b, d, less)
			}
		}
		if len(Diff(d, b)) != len(d) || len(Diff(a, lat.Join(b, d))) != 0 {
			t.Fatalf("Diff %v, %v: %v is not what is lacked", a, b, d)
		}
	}
}

// TestP1104Tops: the join of the Tops is that of all states, and no Top is below another one.
func TestP1104Tops(t *testing.T) {
	check := func(l [][]api.Atom) {
		t.Helper()
		high := chosen(l, Tops(l))
		if !slices.Equal(lat.All(high...), lat.All(l...)) {
			t.Fatalf("Tops %v: %v, with another join", l, Tops(l))
		}
		for _, a := range high {
			for _, b := range high {
				if c := Compare(a, b); c != Same && c != Apart {
					t.Fatalf("Tops %v: %v, with states below others", l, Tops(l))
				}
			}
		}
	}
	for n := range 5 {
		listsOf(twoKeys(), n, check)
	}
	listsOf(threeKeys(), 2, check)
	next := dice(8)
	for i := range 500 {
		check(mixedList(next, i%15, i%20))
	}
}

// TestP1103Example1: Diff of a state and itself is empty; Diff of a state and the empty state is the state.
func TestP1103Example1(t *testing.T) {
	for _, s := range append(threeKeys(), ordered(), many(api.MaxAtoms)) {
		if got := Diff(s, s); len(got) != 0 {
			t.Errorf("Diff of %v and itself: %v", s, got)
		}
		if got := Diff(s, nil); !slices.Equal(got, s) {
			t.Errorf("Diff of %v and nothing: %v", s, got)
		}
	}
}

// TestManyAtoms: states have no greatest length here; api's limits are for layers above.
func TestManyAtoms(t *testing.T) {
	next := dice(9)
	for _, n := range []int{255, 256, api.MaxAtoms - 1, api.MaxAtoms, api.MaxAtoms + 1, 1<<16 + 1} {
		l := many(n)
		mess := shuffled(next, append(many(n), many(n/2)...))
		parts := Parts(mess)
		if len(parts) != n || !slices.Equal(slices.Concat(parts...), l) || !Irredundant(parts) || Irreducible(l) {
			t.Errorf("Parts, Irredundant or Irreducible: wrong for %d atoms", n)
		}
		if got := Diff(mess, l[n/3:]); !slices.Equal(got, l[:n/3]) {
			t.Errorf("Diff: %d atoms, not %d", len(got), n/3)
		}
		mine, others := Split(mess, func(a api.Atom) bool { return a.K.Cart < 9 })
		if !slices.Equal(mine, l[:144]) || !slices.Equal(others, l[144:]) {
			t.Errorf("Split: %d and %d atoms", len(mine), len(others))
		}
		if Compare(l, mess) != Same || Compare(l[1:], mess) != Below || Compare(mess, l[:n-1]) != Above || Compare(l[1:], l[:n-1]) != Apart {
			t.Errorf("Compare: wrong for %d atoms", n)
		}
		rows := list(l[1:], mess, l[:n-1], l)
		if !slices.Equal(Tops(rows), []int{1, 3}) || !slices.Equal(Needless(rows), []int{0, 1, 2}) || Chain(rows) || !Chain(list(l[1:], l, mess)) {
			t.Errorf("Tops, Needless or Chain: wrong for %d atoms", n)
		}
	}
}

// TestManyRows: lists of many rows, with and without rows that can be omitted.
func TestManyRows(t *testing.T) {
	const n = 2000
	parts := Parts(many(n))
	var twice, rising [][]api.Atom
	var odd, last []int
	for i, p := range parts {
		twice = append(twice, p, p)
		rising = append(rising, row(plus(1, uint64(i/2+1))))
		odd = append(odd, 2*i)
		last = append(last, i)
	}
	if got := Needless(twice); !slices.Equal(got, odd) || len(Tops(twice)) != 2*n || Irredundant(twice) || Chain(twice) {
		t.Errorf("Needless or Tops: wrong for %d rows, each twice", n)
	}
	if !slices.Equal(Needless(rising), last[:n-1]) || !slices.Equal(Tops(rising), last[n-2:]) || !Chain(rising) {
		t.Errorf("Needless, Tops or Chain: wrong for %d rising rows", n)
	}
	slices.Reverse(rising)
	if !slices.Equal(Needless(rising), append([]int{0}, last[2:]...)) || !slices.Equal(Tops(rising), []int{0, 1}) || Chain(rising) {
		t.Errorf("Needless, Tops or Chain: wrong for %d falling rows", n)
	}
}

// results are the states that the functions return for two rows.
func results(a, b []api.Atom) [][]api.Atom {
	mine, others := Split(a, func(x api.Atom) bool { return x.K.Sort == api.Tag })
	all, none := Split(b, func(api.Atom) bool { return true })
	return append(append(Parts(a), Parts(b)...), Diff(a, b), Diff(a, nil), Diff(b, a), mine, others, all, none)
}

// TestArguments: arguments and their spare capacity stay as they are, and results are apart from them and from one another.
func TestArguments(t *testing.T) {
	next := dice(10)
	for i := range 300 {
		whole := mixed(next, i%40+3)
		if i%2 == 0 {
			whole = lat.Norm(whole)
		}
		kept := slices.Clone(whole)
		// Both rows end ahead of what lies behind them in memory, and so does their list.
		a, b := whole[:len(whole)/3], whole[len(whole)/3:len(whole)*2/3]
		spare := list(a, b, nil, a, ordered())
		l := spare[:4]
		got := results(a, b)
		want := results(slices.Clone(a), slices.Clone(b))
		checkList(t, l)
		Compare(a, b)
		Irreducible(a)
		if !slices.Equal(whole, kept) || !equalRows(spare, list(a, b, nil, a, ordered())) {
			t.Fatalf("the row %v has become %v, or their list has changed", kept, whole)
		}
		for j, s := range got {
			if !slices.Equal(s, want[j]) {
				t.Fatalf("the result %d is %v, not %v", j, s, want[j])
			}
			clear(s[:cap(s)])
		}
		if !slices.Equal(whole, kept) {
			t.Fatal("a result shares memory with its row")
		}
	}
}

// TestRepeated: the order in which a map is visited is not to be seen.
func TestRepeated(t *testing.T) {
	next := dice(11)
	a, b := mixed(next, 200), mixed(next, 50)
	l := mixedList(next, 30, 10)
	first, omitted, high := results(a, b), Needless(l), Tops(l)
	for range 100 {
		if !equalRows(results(a, b), first) || !slices.Equal(Needless(l), omitted) || !slices.Equal(Tops(l), high) {
			t.Fatal("a second call has another result")
		}
	}
}

package cart

import (
	"bytes"
	"maps"
	"math"
	"slices"
	"testing"

	"handcart/api"
	"handcart/atom"
	"handcart/count"
	"handcart/lat"
	"handcart/note"
	"handcart/tags"
)

// top is the greatest value of a half, the greatest number of a tag, and that of a note.
const top = math.MaxUint32

// dice returns a function whose results have no pattern, but are the same in each run.
func dice(seed uint64) func() uint64 {
	x := 88172645463325252 + seed
	return func() uint64 {
		x ^= x << 13
		x ^= x >> 7
		x ^= x << 17
		return x
	}
}

// padded returns s in an api.Name.
func padded(s string) api.Name {
	var n api.Name
	copy(n[:], s)
	return n
}

// keyed is an atom with an empty text.
func keyed(sort uint8, cart uint16, item string, rep uint8, seq uint32, n uint64) api.Atom {
	return api.Atom{K: api.Key{Sort: sort, Cart: cart, Item: padded(item), Rep: rep, Seq: seq}, V: api.Val{N: n}}
}

func there(cart uint16, item string, rep uint8, seq uint32) api.Atom {
	return keyed(1, cart, item, rep, seq, 1)
}

func gone(cart uint16, item string, rep uint8, seq uint32) api.Atom {
	return keyed(1, cart, item, rep, seq, 2)
}

func plus(cart uint16, item string, rep uint8, n uint64) api.Atom {
	return keyed(2, cart, item, rep, 0, n)
}

func minus(cart uint16, item string, rep uint8, n uint64) api.Atom {
	return keyed(3, cart, item, rep, 0, n)
}

// written is a note with a stamp that is computed as the chapter of atoms says.
func written(cart uint16, n uint64, rep uint64, text string) api.Atom {
	return texted(keyed(4, cart, "", 0, 0, n*256+rep), text)
}

// texted is an atom with another text.
func texted(a api.Atom, text string) api.Atom {
	a.V.Text = padded(text)
	return a
}

// row is a short form, as line and viewed are.
func row(l ...api.Atom) []api.Atom { return l }

func line(item string, n int) api.Line { return api.Line{Item: padded(item), N: n} }

func viewed(text string, l ...api.Line) View { return View{Lines: l, Note: padded(text)} }

// joined is a row of several rows.
func joined(rows ...[]api.Atom) []api.Atom { return slices.Concat(rows...) }

// wrong are atoms that are not valid, most of them almost tags, halves and notes of what the tests ask for.
func wrong() []api.Atom {
	return row(
		keyed(1, 1, "a", 2, 3, 0), keyed(1, 1, "a", 2, 3, 3), keyed(1, 1, "a", 2, 3, 1<<32+1), there(1, "a", 2, 0), there(1, "a", 16, 3), gone(1, "a", 255, 3),
		there(1, "", 2, 3), there(1, "A", 2, 3), there(1, "a\x00b", 2, 3), there(1, "9", 2, 3), texted(there(1, "a", 2, 3), "a"), texted(gone(1, "a", 2, 3), "a"),
		plus(1, "a", 2, 0), plus(1, "a", 2, top+1), plus(1, "a", 2, math.MaxUint64), plus(1, "a", 16, 9), plus(1, "", 2, 9), plus(1, "A", 2, 9), keyed(2, 1, "a", 2, 3, 9), texted(plus(1, "a", 2, 9), "a"),
		minus(1, "a", 2, 0), minus(1, "a", 2, top+1), minus(1, "a", 17, 9), minus(1, "a\x00b", 2, 9), keyed(3, 1, "a", 2, 3, 9), texted(minus(1, "a", 2, 9), "B"),
		written(1, 0, 2, "z"), written(1, 9, 16, "z"), written(1, top+1, 2, "z"), written(1, 9, 2, "Z"), written(1, 9, 2, "a\x00b"), texted(keyed(4, 1, "a", 0, 0, 9*256), "z"), texted(keyed(4, 1, "", 0, 1, 9*256), "z"), texted(keyed(4, 1, "", 2, 0, 9*256), "z"),
		keyed(0, 1, "a", 2, 3, 1), keyed(5, 1, "a", 2, 3, 1), keyed(255, 1, "a", 2, 3, 1), texted(keyed(0, 1, "", 0, 0, 9*256), "z"), api.Atom{}, keyed(0, 0, "", 0, 9, 0),
	)
}

// silent are valid atoms that give no cart a line or a text.
func silent() []api.Atom {
	return row(
		gone(0, "a", 0, 1), gone(1, "a", 9, top), gone(1, "b", 15, 1), gone(65535, "zzzzzzzz", 15, top), plus(0, "a", 0, 1), plus(2, "cup", 15, top), minus(2, "b", 3, 7), minus(65535, "zzzzzzzz", 15, top),
		written(0, 1, 0, ""), written(2, 9, 9, ""), written(65535, top, 15, ""),
	)
}

// present reports whether a tag of the item has the value There, by the chapters' definitions.
func present(l []api.Atom, cart uint16, item api.Name) bool {
	return slices.ContainsFunc(l, func(a api.Atom) bool {
		return atom.Right(a) && a.K.Sort == 1 && a.K.Cart == cart && a.K.Item == item && a.V.N == 1 && !slices.Contains(l, api.Atom{K: a.K, V: api.Val{N: 2}})
	})
}

// total is the sum of the greatest Plus of each replica minus that of the greatest Minus of each.
func total(l []api.Atom, cart uint16, item api.Name) int {
	var halves [2][16]int
	for _, a := range l {
		if atom.Right(a) && (a.K.Sort == 2 || a.K.Sort == 3) && a.K.Cart == cart && a.K.Item == item {
			half := &halves[a.K.Sort-2][a.K.Rep]
			*half = max(*half, int(a.V.N))
		}
	}
	sum := 0
	for rep := range 16 {
		sum += halves[0][rep] - halves[1][rep]
	}
	return sum
}

// quantity is the result of Quantity, by the chapter's definition.
func quantity(l []api.Atom, cart uint16, item api.Name) (int, bool) {
	switch n := total(l, cart, item); {
	case !present(l, cart, item):
		return 0, false
	case n < 0:
		return 0, true
	default:
		return n, true
	}
}

// lines are those of a cart, by the chapter's definition.
func lines(l []api.Atom, cart uint16) []api.Line {
	var items []api.Name
	for _, a := range l {
		if a.K.Sort == 1 && a.K.Cart == cart && !slices.Contains(items, a.K.Item) {
			items = append(items, a.K.Item)
		}
	}
	slices.SortFunc(items, func(x, y api.Name) int { return bytes.Compare(x[:], y[:]) })
	var all []api.Line
	for _, item := range items {
		if n, ok := quantity(l, cart, item); ok {
			all = append(all, api.Line{Item: item, N: n})
		}
	}
	return all
}

// text is that of the note of a cart, which is over all others of the row.
func text(l []api.Atom, cart uint16) api.Name {
	var last api.Val
	for _, a := range l {
		if atom.Right(a) && a.K.Sort == 4 && a.K.Cart == cart && (a.V.N > last.N || a.V.N == last.N && bytes.Compare(a.V.Text[:], last.Text[:]) > 0) {
			last = a.V
		}
	}
	return last.Text
}

// view is the result of Of, by the chapter's definition.
func view(l []api.Atom, cart uint16) View {
	return View{Lines: lines(l, cart), Note: text(l, cart)}
}

// carts are those with a line or a text, by the chapter's definition.
func carts(l []api.Atom) []uint16 {
	var all []uint16
	for _, a := range l {
		all = append(all, a.K.Cart)
	}
	slices.Sort(all)
	return slices.DeleteFunc(slices.Compact(all), func(cart uint16) bool {
		return len(lines(l, cart)) == 0 && text(l, cart) == api.Name{}
	})
}

// alike reports whether two views have the same lines, one after another, and the same text.
func alike(a, b View) bool {
	if len(a.Lines) != len(b.Lines) || string(a.Note[:]) != string(b.Note[:]) {
		return false
	}
	for i, x := range a.Lines {
		if y := b.Lines[i]; string(x.Item[:]) != string(y.Item[:]) || x.N != y.N {
			return false
		}
	}
	return true
}

// listsOf calls visit with all lists of n of the elements of l.
func listsOf[T any](l []T, n int, visit func(l []T)) {
	chosen := make([]T, n)
	var choose func(i int)
	choose = func(i int) {
		if i == n {
			visit(chosen)
			return
		}
		for _, x := range l {
			chosen[i] = x
			choose(i + 1)
		}
	}
	choose(0)
}

// few are atoms that differ from the first one of their sort in one thing each, valid and not.
func few() []api.Atom {
	return row(
		there(1, "a", 2, 3), gone(1, "a", 2, 3), plus(1, "a", 2, 5), minus(1, "a", 3, 4), minus(1, "a", 3, 7), written(1, 5, 2, "b"), written(1, 6, 2, ""),
		there(1, "a", 2, 4), there(1, "b", 2, 3), there(0, "a", 2, 3), there(1, "a", 16, 3), plus(1, "a", 2, top), plus(1, "b", 2, 5), plus(0, "a", 2, 5), plus(1, "a", 2, 0),
		written(0, 5, 2, "b"), written(1, 5, 2, "c"), written(1, 9, 16, "z"),
	)
}

// asked and wanted are the carts and items of which the tests want to know.
func asked() []uint16 { return []uint16{0, 1, 2, 257, 65535} }

func wanted() []api.Name {
	var all []api.Name
	for _, s := range []string{"a", "b", "cup", "zzzzzzzz", "", "A", "aa", "a\x00b"} {
		all = append(all, padded(s))
	}
	return all
}

// anyAtom is an atom of one of few keys, and not always valid.
func anyAtom(next func() uint64) api.Atom {
	cart, item, rep := uint16(next()%3), []string{"a", "b", "cup"}[next()%3], uint8(next()%17)
	n := next() % 12
	if next()%6 == 0 {
		n = next() >> (next() % 64)
	}
	switch next() % 8 {
	case 0, 1:
		return there(cart, item, rep, uint32(next()%3+1))
	case 2:
		return gone(cart, item, rep, uint32(next()%3+1))
	case 3, 4:
		return plus(cart, item, rep, n)
	case 5, 6:
		return minus(cart, item, rep, n)
	default:
		return written(cart, n, uint64(rep), []string{"", "hi", "yo", "Z"}[next()%4])
	}
}

// anyRow is a row of n atoms: some of few keys, others that are silent, and atoms that are not valid.
func anyRow(next func() uint64, n int) []api.Atom {
	rest := append(silent(), wrong()...)
	var l []api.Atom
	for range n {
		a := anyAtom(next)
		if next()%6 == 0 {
			a = rest[next()%uint64(len(rest))]
		}
		if next()%16 == 0 {
			a.K.Cart = uint16(next())
		}
		l = append(l, a)
	}
	return l
}

// shuffled are the atoms of l in another order.
func shuffled[T any](next func() uint64, l []T) []T {
	l = slices.Clone(l)
	for i := range l {
		j := next() % uint64(i+1)
		l[i], l[j] = l[j], l[i]
	}
	return l
}

// checkCart holds what is told of a cart against a view.
func checkCart(t *testing.T, l []api.Atom, cart uint16, want View) {
	t.Helper()
	if got := Lines(l, cart); !slices.Equal(got, want.Lines) {
		t.Fatalf("Lines %v, %d: %v, not %v", l, cart, got, want.Lines)
	}
	if got := Of(l, cart); !alike(got, want) {
		t.Fatalf("Of %v, %d: %v, not %v", l, cart, got, want)
	}
	pieces := 0
	for _, x := range want.Lines {
		pieces += x.N
		if n, ok := Quantity(l, cart, x.Item); n != x.N || !ok {
			t.Fatalf("Quantity %v, %d, %q: %d, %t, not %d", l, cart, x.Item, n, ok, x.N)
		}
	}
	if got := Pieces(l, cart); got != pieces {
		t.Fatalf("Pieces %v, %d: %d, not %d", l, cart, got, pieces)
	}
}

// checkCarts holds the carts of a row against those that are wanted.
func checkCarts(t *testing.T, l []api.Atom, want []uint16) {
	t.Helper()
	if got := Carts(l); !slices.Equal(got, want) {
		t.Fatalf("Carts %v: %v, not %v", l, got, want)
	}
	i := 0
	for cart, v := range Each(l) {
		if i >= len(want) || cart != want[i] || !alike(v, Of(l, cart)) {
			t.Fatalf("Each %v: %d, %v is number %d of %v", l, cart, v, i, want)
		}
		i++
	}
	if i != len(want) {
		t.Fatalf("Each %v: %d of %v", l, i, want)
	}
}

// checkQuantities holds the quantities of a row against the chapter's definition, taken literally.
func checkQuantities(t *testing.T, l []api.Atom, cart uint16) {
	t.Helper()
	for _, item := range wanted() {
		want, present := quantity(l, cart, item)
		if n, ok := Quantity(l, cart, item); n != want || ok != present {
			t.Fatalf("Quantity %v, %d, %q: %d, %t, not %d, %t", l, cart, item, n, ok, want, present)
		}
	}
}

// checkRow holds how a row is read against the chapter's definitions, taken literally.
func checkRow(t *testing.T, l []api.Atom) {
	t.Helper()
	own := carts(l)
	for _, cart := range asked() {
		checkQuantities(t, l, cart)
		checkCart(t, l, cart, view(l, cart))
	}
	for _, cart := range own {
		checkCart(t, l, cart, view(l, cart))
	}
	checkCarts(t, l, own)
}

func TestP1701Quantity(t *testing.T) {
	a := there(1, "a", 2, 3)
	for _, c := range []struct {
		l    []api.Atom
		cart uint16
		item string
		n    int
		ok   bool
	}{
		{nil, 0, "", 0, false},
		{nil, 1, "a", 0, false},
		{row(), 1, "a", 0, false},
		{silent(), 0, "a", 0, false},
		{silent(), 1, "a", 0, false},
		{silent(), 2, "cup", 0, false},
		{silent(), 2, "b", 0, false},
		{silent(), 65535, "zzzzzzzz", 0, false},
		{wrong(), 1, "a", 0, false},
		{wrong(), 1, "", 0, false},
		{wrong(), 1, "A", 0, false},
		{wrong(), 1, "9", 0, false},
		{wrong(), 1, "a\x00b", 0, false},
		{wrong(), 0, "", 0, false},
		{row(a), 1, "a", 0, true},
		{row(a), 0, "a", 0, false},
		{row(a), 2, "a", 0, false},
		{row(a), 257, "a", 0, false},
		{row(a), 1, "b", 0, false},
		{row(a), 1, "aa", 0, false},
		{row(a), 1, "a\x00b", 0, false},
		{row(a), 1, "", 0, false},
		{row(plus(1, "a", 2, 5)), 1, "a", 0, false},
		{row(minus(1, "a", 2, 5)), 1, "a", 0, false},
		{row(a, plus(1, "a", 2, 5)), 1, "a", 5, true},
		{row(plus(1, "a", 2, 5), a), 1, "a", 5, true},
		{row(a, plus(1, "a", 0, 5)), 1, "a", 5, true},
		{row(a, minus(1, "a", 2, 1)), 1, "a", 0, true},
		{row(a, minus(1, "a", 2, top)), 1, "a", 0, true},
		{row(a, plus(1, "a", 2, 5), minus(1, "a", 2, 4)), 1, "a", 1, true},
		{row(a, plus(1, "a", 2, 5), minus(1, "a", 2, 5)), 1, "a", 0, true},
		{row(a, plus(1, "a", 2, 5), minus(1, "a", 2, 6)), 1, "a", 0, true},
		{row(a, plus(1, "a", 2, 5), minus(1, "a", 3, 6), plus(1, "a", 4, 2)), 1, "a", 1, true},
		{row(a, plus(1, "a", 2, 5), plus(1, "a", 2, 7), plus(1, "a", 2, 6)), 1, "a", 7, true},
		{row(a, plus(1, "b", 2, 5), plus(0, "a", 2, 5), plus(257, "a", 2, 5), plus(1, "aa", 2, 5)), 1, "a", 0, true},
		{row(gone(1, "a", 2, 3), plus(1, "a", 2, 5)), 1, "a", 0, false},
		{row(a, gone(1, "a", 2, 3), plus(1, "a", 2, 5)), 1, "a", 0, false},
		{row(gone(1, "a", 2, 3), a, plus(1, "a", 2, 5)), 1, "a", 0, false},
		{row(a, gone(1, "a", 2, 4), plus(1, "a", 2, 5)), 1, "a", 5, true},
		{row(a, gone(1, "a", 3, 3), plus(1, "a", 2, 5)), 1, "a", 5, true},
		{row(a, gone(1, "b", 2, 3), plus(1, "a", 2, 5)), 1, "a", 5, true},
		{row(a, gone(0, "a", 2, 3), plus(1, "a", 2, 5)), 1, "a", 5, true},
		{row(a, there(1, "a", 2, 4), there(1, "a", 3, 3), plus(1, "a", 2, 5)), 1, "a", 5, true},
		{row(a, gone(1, "a", 2, 3), there(1, "a", 2, 4), plus(1, "a", 2, 5)), 1, "a", 5, true},
		{row(a, plus(1, "a", 2, top), plus(1, "a", 3, top)), 1, "a", 2 * top, true},
		{row(a, plus(1, "a", 2, top), minus(1, "a", 2, top)), 1, "a", 0, true},
		{row(a, plus(1, "a", 2, top), minus(1, "a", 2, top-1)), 1, "a", 1, true},
		{row(a, plus(1, "a", 2, top-1), minus(1, "a", 2, top)), 1, "a", 0, true},
		{row(a, plus(1, "a", 2, 1<<31), minus(1, "a", 9, 1)), 1, "a", 1<<31 - 1, true},
		{row(there(65535, "zzzzzzzz", 15, top), plus(65535, "zzzzzzzz", 15, top)), 65535, "zzzzzzzz", top, true},
		{row(there(0, "a", 0, 1), plus(0, "a", 0, 1)), 0, "a", 1, true},
		{joined(wrong(), row(a, plus(1, "a", 2, 5)), silent()), 1, "a", 5, true},
		{joined(silent(), row(a, minus(1, "a", 2, 5)), wrong()), 1, "a", 0, true},
	} {
		item := padded(c.item)
		if n, ok := Quantity(c.l, c.cart, item); n != c.n || ok != c.ok {
			t.Errorf("Quantity %v, %d, %q: %d, %t, not %d, %t", c.l, c.cart, c.item, n, ok, c.n, c.ok)
		}
		if n, ok := quantity(c.l, c.cart, item); n != c.n || ok != c.ok {
			t.Errorf("the second reading of Quantity %v, %d, %q: %d, %t, not %d, %t", c.l, c.cart, c.item, n, ok, c.n, c.ok)
		}
	}
}

func TestP1701Lines(t *testing.T) {
	a, b := there(1, "a", 2, 3), there(1, "b", 2, 3)
	for _, c := range []struct {
		l      []api.Atom
		cart   uint16
		want   []api.Line
		pieces int
	}{
		{nil, 0, nil, 0},
		{row(), 1, nil, 0},
		{silent(), 0, nil, 0},
		{silent(), 1, nil, 0},
		{silent(), 2, nil, 0},
		{silent(), 65535, nil, 0},
		{wrong(), 0, nil, 0},
		{wrong(), 1, nil, 0},
		{row(written(1, 5, 2, "hi")), 1, nil, 0},
		{row(plus(1, "a", 2, 5)), 1, nil, 0},
		{row(a), 1, []api.Line{line("a", 0)}, 0},
		{row(a), 0, nil, 0},
		{row(a), 257, nil, 0},
		{row(a, gone(1, "a", 2, 3), plus(1, "a", 2, 5)), 1, nil, 0},
		{row(a, plus(1, "a", 2, 5)), 1, []api.Line{line("a", 5)}, 5},
		{row(b, a), 1, []api.Line{line("a", 0), line("b", 0)}, 0},
		{row(a, a, there(1, "a", 3, 3), there(1, "a", 2, 1), plus(1, "a", 2, 5)), 1, []api.Line{line("a", 5)}, 5},
		{row(b, a, plus(1, "b", 2, 7), plus(1, "a", 2, 5)), 1, []api.Line{line("a", 5), line("b", 7)}, 12},
		{row(b, a, plus(1, "b", 2, 7), plus(1, "c", 2, 5)), 1, []api.Line{line("a", 0), line("b", 7)}, 7},
		{row(b, a, plus(1, "b", 2, 7), minus(1, "a", 2, 5)), 1, []api.Line{line("a", 0), line("b", 7)}, 7},
		{row(b, a, minus(1, "b", 2, 7), minus(1, "a", 2, 5)), 1, []api.Line{line("a", 0), line("b", 0)}, 0},
		{row(b, a, gone(1, "a", 2, 3), plus(1, "b", 2, 7), plus(1, "a", 2, 5)), 1, []api.Line{line("b", 7)}, 7},
		{row(there(0, "b", 2, 3), a, there(2, "c", 2, 3), plus(0, "b", 2, 7), plus(1, "a", 2, 5), plus(2, "c", 0, 9)), 1, []api.Line{line("a", 5)}, 5},
		{row(a, b, plus(1, "a", 2, top), plus(1, "b", 2, top), plus(1, "b", 3, top)), 1, []api.Line{line("a", top), line("b", 2*top)}, 3 * top},
		{row(a, b, minus(1, "a", 2, top), plus(1, "b", 2, top), plus(1, "b", 3, top)), 1, []api.Line{line("a", 0), line("b", 2*top)}, 2 * top},
		{row(there(65535, "zzzzzzzz", 15, top), there(0, "a", 0, 1), plus(65535, "zzzzzzzz", 15, top)), 65535, []api.Line{line("zzzzzzzz", top)}, top},
		{joined(silent(), wrong(), row(a, plus(1, "a", 2, 5))), 1, []api.Line{line("a", 5)}, 5},
	} {
		if got := Lines(c.l, c.cart); !slices.Equal(got, c.want) {
			t.Errorf("Lines %v, %d: %v, not %v", c.l, c.cart, got, c.want)
		}
		if got := Pieces(c.l, c.cart); got != c.pieces {
			t.Errorf("Pieces %v, %d: %d, not %d", c.l, c.cart, got, c.pieces)
		}
		if got := lines(c.l, c.cart); !slices.Equal(got, c.want) {
			t.Errorf("the second reading of Lines %v, %d: %v, not %v", c.l, c.cart, got, c.want)
		}
	}
}

// TestP1701Order: the lines are in the order of the Numbers of their names, whatever the order of the row, of their replicas and of their numbers.
func TestP1701Order(t *testing.T) {
	items := []string{"a", "a-", "a-------", "a0", "a9", "aa", "aaaaaaaa", "aaaaaaab", "ab", "b", "cup", "cups", "pen", "tea", "tea-9", "z", "z9", "zz", "zzzzzzzz"}
	next := dice(1)
	for range 200 {
		var l []api.Atom
		var want []api.Line
		pieces := 0
		for _, item := range items {
			n := next() % 1000
			for range next()%3 + 1 {
				l = append(l, there(5, item, uint8(next()%16), uint32(next()%1000+1)))
			}
			l = append(l, plus(5, item, uint8(next()%16), n+1), minus(5, item, uint8(next()%16), 1), there(4, item, 1, 1), plus(6, item, 1, 7), gone(5, item+"x", 1, 1))
			want = append(want, line(item, int(n)))
			pieces += int(n)
		}
		l = shuffled(next, l)
		for _, s := range [][]api.Atom{l, lat.Norm(l)} {
			if got := Lines(s, 5); !slices.Equal(got, want) || Pieces(s, 5) != pieces {
				t.Fatalf("Lines: %v, not %v, and %d pieces, not %d", got, want, Pieces(s, 5), pieces)
			}
		}
	}
}

// everyHalf are the halves of all replicas of an item, each with the value n.
func everyHalf(sort uint8, cart uint16, item string, n uint64) []api.Atom {
	var l []api.Atom
	for rep := range uint8(17) {
		l = append(l, keyed(sort, cart, item, rep, 0, n))
	}
	return l
}

// TestP1701Bounds: quantities at each bound of a half, of one replica and of all, for carts and tags at each bound.
func TestP1701Bounds(t *testing.T) {
	numbers := []uint64{0, 1, 255, 256, 1<<31 - 1, 1 << 31, top - 1, top, top + 1}
	for _, cart := range []uint16{0, 1, 255, 256, 1<<15 - 1, 1 << 15, math.MaxUint16 - 1, math.MaxUint16} {
		for _, up := range numbers {
			for _, down := range numbers {
				one := row(there(cart, "cup", 15, top), plus(cart, "cup", 0, up), minus(cart, "cup", 15, down))
				all := joined(row(there(cart, "cup", 0, 1), there(cart, "pen", 0, 1)), everyHalf(2, cart, "cup", up), everyHalf(3, cart, "cup", down), everyHalf(2, cart, "pen", up))
				// A half of 0, or one beyond top, is not valid.
				n, m := int(up%(top+1)), int(down%(top+1))
				checkCart(t, one, cart, viewed("", line("cup", max(0, n-m))))
				checkCart(t, all, cart, viewed("", line("cup", max(0, 16*n-16*m)), line("pen", 16*n)))
				for _, x := range []uint16{cart + 1, cart - 1, cart ^ 256, cart ^ 1<<15} {
					checkCart(t, one, x, View{})
				}
			}
		}
	}
}

// TestP1701Names: only what can be an item has a line.
func TestP1701Names(t *testing.T) {
	for size := range 9 {
		for place := range 8 {
			for c := range 256 {
				item := padded("abc-e9gh"[:size])
				item[place] = byte(c)
				l := row(there(1, string(item[:]), 2, 3), plus(1, string(item[:]), 2, 5))
				want, ok := quantity(l, 1, item)
				if n, is := Quantity(l, 1, item); n != want || is != ok {
					t.Fatalf("Quantity of %q: %d, %t", item, n, is)
				}
				if got := Lines(l, 1); !slices.Equal(got, lines(l, 1)) || Pieces(l, 1) != want || len(Carts(l)) > 0 != ok {
					t.Fatalf("Lines of %q: %v", item, got)
				}
			}
		}
	}
}

// TestRows: all rows of up to 3 of few, of up to 5 of the first ones, and rows without a pattern.
func TestRows(t *testing.T) {
	for n := range 4 {
		listsOf(few(), n, func(l []api.Atom) { checkRow(t, l) })
	}
	for n := 4; n <= 5; n++ {
		listsOf(few()[:6-n%2*2], n, func(l []api.Atom) { checkRow(t, l) })
	}
	next := dice(2)
	for i := range 500 {
		checkRow(t, anyRow(next, i%90))
	}
}

func TestP1702Of(t *testing.T) {
	a := there(1, "a", 2, 3)
	for _, c := range []struct {
		l    []api.Atom
		cart uint16
		want View
	}{
		{nil, 0, View{}},
		{row(), 1, View{}},
		{silent(), 0, View{}},
		{silent(), 1, View{}},
		{silent(), 65535, View{}},
		{wrong(), 0, View{}},
		{wrong(), 1, View{}},
		{row(a), 1, viewed("", line("a", 0))},
		{row(a), 0, View{}},
		{row(written(1, 5, 2, "hi")), 1, viewed("hi")},
		{row(written(1, 5, 2, "hi")), 0, View{}},
		{row(written(1, 5, 2, "hi")), 257, View{}},
		{row(written(1, 5, 2, "")), 1, View{}},
		{row(written(1, 5, 2, "hi"), written(1, 6, 0, "")), 1, View{}},
		{row(written(1, 5, 2, "hi"), written(1, 5, 3, "")), 1, View{}},
		{row(written(1, 5, 2, "hi"), written(1, 5, 2, "")), 1, viewed("hi")},
		{row(written(1, 5, 2, ""), written(1, 6, 0, "hi")), 1, viewed("hi")},
		{row(written(1, 5, 2, "hi"), written(1, 4, 15, "yo")), 1, viewed("hi")},
		{row(written(1, 5, 2, "hi"), written(1, 5, 1, "yo")), 1, viewed("hi")},
		{row(written(1, 5, 2, "hi"), written(1, 5, 2, "yo")), 1, viewed("yo")},
		{row(written(1, 5, 2, "hi"), written(0, 9, 2, "yo"), written(2, 9, 2, "yo")), 1, viewed("hi")},
		{row(written(65535, top, 15, "zzzzzzzz"), written(0, 1, 0, "a")), 65535, viewed("zzzzzzzz")},
		{row(written(65535, top, 15, "zzzzzzzz"), written(0, 1, 0, "a")), 0, viewed("a")},
		{row(written(1, 5, 2, "hi"), a, plus(1, "a", 2, 5)), 1, viewed("hi", line("a", 5))},
		{row(written(1, 5, 2, "hi"), a, plus(1, "a", 2, 5), there(1, "cup", 0, 1)), 1, viewed("hi", line("a", 5), line("cup", 0))},
		{row(written(1, 5, 2, "hi"), a, gone(1, "a", 2, 3), plus(1, "a", 2, 5)), 1, viewed("hi")},
		{row(written(0, 5, 2, "hi"), a, plus(1, "a", 2, 5)), 1, viewed("", line("a", 5))},
		{joined(wrong(), row(written(1, 5, 2, "hi"), a), silent()), 1, viewed("hi", line("a", 0))},
	} {
		if got := Of(c.l, c.cart); !alike(got, c.want) {
			t.Errorf("Of %v, %d: %v, not %v", c.l, c.cart, got, c.want)
		}
		if got := view(c.l, c.cart); !alike(got, c.want) {
			t.Errorf("the second reading of Of %v, %d: %v, not %v", c.l, c.cart, got, c.want)
		}
	}
}

func TestP1702Carts(t *testing.T) {
	a := there(1, "a", 2, 3)
	for _, c := range []struct {
		l    []api.Atom
		want []uint16
	}{
		{nil, nil},
		{row(), nil},
		{silent(), nil},
		{wrong(), nil},
		{row(a), []uint16{1}},
		{row(a, minus(1, "a", 2, 5)), []uint16{1}},
		{row(gone(1, "a", 2, 3), plus(1, "a", 2, 5)), nil},
		{row(a, gone(1, "a", 2, 3)), nil},
		{row(a, gone(1, "a", 2, 3), written(1, 1, 0, "a")), []uint16{1}},
		{row(a, gone(1, "a", 2, 3), there(1, "b", 2, 3)), []uint16{1}},
		{row(plus(1, "a", 2, 5)), nil},
		{row(written(1, 1, 0, "a")), []uint16{1}},
		{row(written(1, 1, 0, "")), nil},
		{row(written(1, 1, 0, "a"), written(1, 2, 0, "")), nil},
		{row(written(1, 1, 0, ""), written(1, 2, 0, "a")), []uint16{1}},
		{row(written(1, 1, 0, ""), a), []uint16{1}},
		{row(written(1, 1, 0, "a"), a), []uint16{1}},
		{row(there(0, "z", 0, 1)), []uint16{0}},
		{row(written(0, 1, 0, "z")), []uint16{0}},
		{row(there(65535, "z", 0, 1), written(0, 1, 0, "z")), []uint16{0, 65535}},
		{row(there(256, "a", 0, 1), there(255, "b", 0, 1), written(2, 1, 0, "z"), there(65535, "a", 0, 1), written(257, 1, 0, "a"), there(1, "z", 0, 1)), []uint16{1, 2, 255, 256, 257, 65535}},
		{row(written(9, 1, 0, "a"), there(7, "a", 0, 1), written(8, 1, 0, ""), there(6, "a", 0, 1), gone(6, "a", 0, 1), written(5, 1, 0, "a")), []uint16{5, 7, 9}},
		{joined(silent(), row(written(2, 10, 0, "a"), a), wrong()), []uint16{1, 2}},
	} {
		checkCarts(t, c.l, c.want)
		if got := carts(c.l); !slices.Equal(got, c.want) {
			t.Errorf("the second reading of Carts %v: %v, not %v", c.l, got, c.want)
		}
	}
}

// TestP1702Order: the carts are in increasing order, whatever the order of the row.
func TestP1702Order(t *testing.T) {
	next := dice(3)
	for range 60 {
		l := append(silent(), wrong()...)
		want := map[uint16]struct{}{}
		for i := range uint16(300) {
			cart := i<<8 | i>>8
			switch next() % 5 {
			case 0:
				l = append(l, there(cart, "cup", 2, 1))
			case 1:
				l = append(l, written(cart, 2*top/3, 2, "hi"))
			case 2:
				l = append(l, there(cart, "cup", 2, 1), there(cart, "pen", 2, 3), written(cart, 2*top/3, 2, "hi"))
			default:
				l = append(l, plus(cart, "cup", 2, 3), there(cart, "pen", 1, 4), gone(cart, "pen", 1, 4))
				continue
			}
			want[cart] = struct{}{}
		}
		all := slices.Sorted(maps.Keys(want))
		checkCarts(t, l, all)
		checkCarts(t, shuffled(next, l), all)
		checkCarts(t, lat.Norm(l), all)
	}
}

// three is a row with the carts 1, 2 and 4, and others without a line and a text.
func three() []api.Atom {
	return row(
		written(4, 1, 0, "hi"), plus(2, "cup", 0, 3), there(2, "cup", 1, 1), there(1, "pen", 0, 1), there(1, "cup", 0, 2), written(1, 3, 2, "yo"), plus(1, "pen", 0, 5),
		written(0, 2, 0, ""), gone(3, "cup", 0, 4), plus(3, "cup", 0, 4), written(5, 2, 0, ""), minus(6, "pen", 2, 1),
	)
}

// viewsOf are those of three.
func viewsOf() []View {
	return []View{viewed("yo", line("cup", 0), line("pen", 5)), viewed("", line("cup", 3)), viewed("hi")}
}

// TestP1702EachStopped: after the iteration was stopped nothing more is told, and it can be repeated.
func TestP1702EachStopped(t *testing.T) {
	each := Each(three())
	for stop := range 5 {
		var told []uint16
		var views []View
		each(func(cart uint16, v View) bool {
			told, views = append(told, cart), append(views, v)
			return len(told) != stop
		})
		want := []uint16{1, 2, 4}
		if stop > 0 && stop < 3 {
			want = want[:stop]
		}
		if !slices.Equal(told, want) || !slices.EqualFunc(views, viewsOf()[:len(want)], alike) {
			t.Errorf("Each, stopped at %d: %v, %v", stop, told, views)
		}
	}
	pairs := 0
	for first, v := range each {
		for second, w := range each {
			if alike(v, w) != (first == second) {
				t.Errorf("Each within Each: %d, %v and %d, %v", first, v, second, w)
			}
			pairs++
		}
	}
	if pairs != 9 {
		t.Errorf("Each within Each: %d pairs", pairs)
	}
	for cart := range Each(append(silent(), wrong()...)) {
		t.Errorf("Each tells of the cart %d", cart)
	}
}

// TestP1702EachKept: what is told is that of the row at the time of the call, whatever becomes of the row and of the views.
func TestP1702EachKept(t *testing.T) {
	for _, l := range [][]api.Atom{three(), lat.Norm(three())} {
		each := Each(l)
		clear(l)
		for range 3 {
			var told []uint16
			for cart, v := range each {
				if len(told) < 3 && !alike(v, viewsOf()[len(told)]) {
					t.Errorf("Each: the cart %d is %v", cart, v)
				}
				told = append(told, cart)
				clear(v.Lines[:cap(v.Lines)])
			}
			if !slices.Equal(told, []uint16{1, 2, 4}) {
				t.Errorf("Each: %v", told)
			}
		}
	}
}

// views are different ones, most of which no state has.
func views() []View {
	a, b, c := line("a", 1), line("b", 1), line("c", 1)
	lists := [][]api.Line{
		nil, {a}, {b}, {line("a", 2)}, {line("a", 0)}, {line("a", -1)}, {line("a", math.MaxInt)}, {line("a", math.MinInt)}, {line("", 0)}, {line("", 1)}, {line("A", 1)}, {line("a\x00b", 1)}, {line("a\x00c", 1)}, {line("aaaaaaaa", 1)}, {line("aaaaaaab", 1)},
		{a, a}, {a, b}, {b, a}, {a, line("b", 2)}, {line("a", 2), b}, {a, c}, {c, b}, {a, b, c}, {a, c, b}, {b, c}, {a, b, b}, {a, a, b}, {a, b, c, a},
	}
	var all []View
	for _, l := range lists {
		for _, text := range []string{"", "a", "b", "A", "aa", "a\x00\x00\x00\x00\x00\x00b", "\x00\x00\x00\x00\x00\x00\x00a", "zzzzzzzz", "zzzzzzzy"} {
			all = append(all, viewed(text, l...))
		}
	}
	return all
}

func TestP1702Same(t *testing.T) {
	for i, a := range views() {
		for j, b := range views() {
			// The second one has its lines in another place, with others behind them.
			b.Lines = append(slices.Clone(b.Lines), line("d", 1))[:len(b.Lines)]
			if got := Same(a, b); got != (i == j) || got != alike(a, b) {
				t.Fatalf("Same %v, %v: %t", a, b, got)
			}
		}
	}
	for _, lines := range [][]api.Line{nil, {}, make([]api.Line, 0, 9)} {
		if v := (View{Lines: lines}); !Same(v, View{}) || !Same(View{}, v) || !Same(v, Of(nil, 1)) {
			t.Errorf("Same %v, and a view without lines: false", v)
		}
	}
}

// TestP1702SameRows: the views of carts are the same if their lines and texts are.
func TestP1702SameRows(t *testing.T) {
	next := dice(4)
	equal := 0
	for range 4000 {
		l, m := anyRow(next, int(next()%6)), anyRow(next, int(next()%6))
		want := alike(view(l, 1), view(m, 1))
		if got := Same(Of(l, 1), Of(m, 1)); got != want {
			t.Fatalf("Same views of %v, %v: %t", l, m, got)
		}
		if want {
			equal++
		}
	}
	if equal < 100 || equal > 3900 {
		t.Errorf("%d views of 4000 are the same", equal)
	}
}

// checkSame holds how two rows with the same state are read against each other.
func checkSame(t *testing.T, l, m []api.Atom) {
	t.Helper()
	own := Carts(l)
	checkCarts(t, m, own)
	for _, cart := range append(own, asked()...) {
		v := Of(l, cart)
		if !Same(v, Of(m, cart)) || !Same(Of(m, cart), v) {
			t.Fatalf("the cart %d of %v is %v, and that of %v is %v", cart, l, v, m, Of(m, cart))
		}
		checkCart(t, m, cart, v)
		for _, item := range wanted() {
			n, ok := Quantity(l, cart, item)
			if got, is := Quantity(m, cart, item); got != n || is != ok {
				t.Fatalf("Quantity %v, %d, %q: %d, %t, not %d, %t", m, cart, item, got, is, n, ok)
			}
		}
	}
}

// below are atoms that have no influence on the state of l, each one below one of l or not valid.
func below(l []api.Atom) []api.Atom {
	var all []api.Atom
	for _, a := range l {
		switch {
		case !atom.Right(a):
			continue
		case a.K.Sort < 4 && a.V.N > 1:
			a.V.N--
		case a.K.Sort == 4 && a.V.N >= 512:
			a.V = api.Val{N: a.V.N - 256, Text: padded("zzzzzzzz")}
		}
		all = append(all, a)
	}
	return append(all, wrong()...)
}

// TestP1703State: rows with the same state are read in the same way, in whatever order and however often their atoms were joined.
func TestP1703State(t *testing.T) {
	for n := range 3 {
		listsOf(few(), n, func(l []api.Atom) {
			checkSame(t, l, lat.Norm(l))
			slices.Reverse(l)
			checkSame(t, lat.Norm(l), joined(l, l))
			slices.Reverse(l)
		})
	}
	next := dice(5)
	for i := range 150 {
		l := anyRow(next, i%60)
		s := lat.Norm(l)
		checkSame(t, s, l)
		checkSame(t, s, shuffled(next, l))
		checkSame(t, s, shuffled(next, joined(l, s, l)))
		checkSame(t, l, shuffled(next, joined(l, below(l))))
		var parts [4][]api.Atom
		for _, a := range l {
			j, k := next()%4, next()%4
			parts[j], parts[k] = append(parts[j], a), append(parts[k], a)
		}
		checkSame(t, s, lat.All(parts[:]...))
		checkSame(t, s, lat.Join(lat.Join(parts[3], parts[1]), lat.Join(parts[1], lat.Join(parts[2], parts[0]))))
		if !lat.Same(l, joined(l, below(l))) {
			t.Fatalf("the atoms below %v change its state", l)
		}
	}
}

// act is something that replica rep does with a cart of the state of s: its delta.
func act(t *testing.T, next func() uint64, s []api.Atom, rep uint8) []api.Atom {
	t.Helper()
	cart, item := uint16(next()%4), padded([]string{"a", "b", "cup"}[next()%3])
	var delta []api.Atom
	var e api.Errno
	switch next() % 6 {
	case 0, 1:
		delta, e = tags.Add(s, rep, cart, item)
	case 2:
		delta = tags.Drop(s, cart, item)
	case 3, 4:
		delta, e = count.Shift(s, rep, cart, item, int(next()%9)-4)
	default:
		delta, e = note.Put(s, rep, cart, padded([]string{"hi", "yo", ""}[next()%3]))
	}
	if e != api.OK {
		t.Fatalf("replica %d, cart %d, %q: %d", rep, cart, item, e)
	}
	return delta
}

// TestP1703Replicas: replicas act and join each other's states; all that have reached the same state read the same carts, as they are read from the deltas in any order.
func TestP1703Replicas(t *testing.T) {
	next := dice(6)
	for range 40 {
		const n = 4
		var states [n][]api.Atom
		var deltas [][]api.Atom
		for range 80 {
			i, j := next()%n, next()%n
			if next()%2 == 0 {
				delta := act(t, next, states[i], uint8(i))
				deltas = append(deltas, delta)
				states[i] = lat.Join(states[i], delta)
			} else {
				states[i] = lat.Join(states[i], states[j])
			}
		}
		all := slices.Concat(deltas...)
		for i := range states {
			s := states[i]
			for j := range states {
				s = lat.Join(states[(i+j)%n], s)
			}
			checkSame(t, all, s)
		}
		checkSame(t, all, slices.Concat(shuffled(next, slices.Concat(deltas, deltas))...))
	}
}

// moved are the atoms of l in carts that are by d further.
func moved(l []api.Atom, d uint16) []api.Atom {
	l = slices.Clone(l)
	for i := range l {
		l[i].K.Cart += d
	}
	return l
}

// checkApart holds the carts of a join against those of both rows, whose atoms are in different carts.
func checkApart(t *testing.T, a, b []api.Atom) {
	t.Helper()
	first, second := Carts(a), Carts(b)
	both := slices.Concat(first, second)
	slices.Sort(both)
	for _, s := range [][]api.Atom{lat.Join(a, b), lat.Join(b, a)} {
		checkCarts(t, s, both)
		for _, cart := range first {
			checkCart(t, s, cart, Of(a, cart))
		}
		for _, cart := range second {
			checkCart(t, s, cart, Of(b, cart))
		}
	}
}

// TestP1703Apart: the join of states with different carts has the carts of both.
func TestP1703Apart(t *testing.T) {
	for n := range 3 {
		listsOf(few(), n, func(l []api.Atom) {
			l = slices.Clone(l)
			for m := range 2 {
				// The carts of few are 0 and 1.
				listsOf(few(), m, func(m []api.Atom) {
					checkApart(t, l, moved(m, 2))
					checkApart(t, moved(l, 256), m)
				})
			}
		})
	}
	next := dice(7)
	for i := range 300 {
		var parts [2][]api.Atom
		for _, a := range anyRow(next, i%120) {
			side := a.K.Cart % 3 % 2
			parts[side] = append(parts[side], a)
		}
		checkApart(t, parts[0], parts[1])
	}
}

// TestP1703Same: a cart that both states have is read from both: only different carts are joined without influence on each other.
func TestP1703Same(t *testing.T) {
	a := row(there(1, "a", 0, 1), plus(1, "a", 0, 3), written(2, 1, 0, "hi"), written(3, 1, 0, "yo"))
	b := row(there(1, "b", 1, 1), plus(1, "a", 1, 4), written(2, 1, 1, "yo"), written(3, 1, 1, ""), there(3, "a", 1, 2))
	s := lat.Join(a, b)
	checkCarts(t, s, []uint16{1, 2, 3})
	checkCart(t, s, 1, viewed("", line("a", 7), line("b", 0)))
	checkCart(t, s, 2, viewed("yo"))
	checkCart(t, s, 3, viewed("", line("a", 0)))
	checkCarts(t, lat.Join(s, row(gone(3, "a", 1, 2), gone(1, "b", 1, 1))), []uint16{1, 2})
}

// TestP1702Example1: a state without tags and notes has no carts.
func TestP1702Example1(t *testing.T) {
	next := dice(8)
	for i := range 300 {
		l := slices.DeleteFunc(anyRow(next, i%60), func(a api.Atom) bool { return a.K.Sort == 1 || a.K.Sort == 4 })
		checkCarts(t, l, nil)
		checkCarts(t, lat.Norm(l), nil)
		for _, cart := range asked() {
			checkCart(t, l, cart, View{})
		}
	}
}

// nameOf is one of 26^4 names, in the order of i.
func nameOf(i int) string {
	b := []byte("aaaa")
	for j := 3; j >= 0; j-- {
		b[j] += byte(i % 26)
		i /= 26
	}
	return string(b)
}

// TestMany: rows have no greatest length, all carts may have lines and texts, and a cart any number of lines.
func TestMany(t *testing.T) {
	const n = 1 << 16
	var l, m []api.Atom
	for i := range n {
		// 7919 and n have no factor in common, so each number occurs once.
		j := i * 7919 % n
		cart := uint16(j)
		l = append(l, plus(cart, "cup", 3, uint64(j+1)), there(cart, "cup", 2, uint32(i+1)), written(cart, 1, 3, "hi"))
		m = append(m, minus(7, nameOf(j), 3, uint64(j+1)), there(7, nameOf(j), 2, uint32(i+1)), plus(7, nameOf(j), 3, uint64(2*j+1)), there(uint16(i%7), nameOf(j), 4, uint32(i+1)))
	}
	i := 0
	for cart, v := range Each(l) {
		if int(cart) != i || !alike(v, viewed("hi", line("cup", i+1))) {
			t.Fatalf("Each: %d, %v is number %d", cart, v, i)
		}
		i++
	}
	if all := Carts(l); i != n || len(all) != n || all[n-1] != n-1 {
		t.Errorf("%d carts of %d, and Carts has %d", i, n, len(all))
	}
	v := Of(m, 7)
	for i, x := range v.Lines {
		if x != line(nameOf(i), i) {
			t.Fatalf("the line number %d is %v", i, x)
		}
	}
	if len(v.Lines) != n || v.Note != padded("") || Pieces(m, 7) != n*(n-1)/2 || !Same(v, View{Lines: Lines(m, 7)}) {
		t.Errorf("%d lines, the note %q and %d pieces", len(v.Lines), v.Note, Pieces(m, 7))
	}
	if all := Carts(m); !slices.Equal(all, []uint16{0, 1, 2, 3, 4, 5, 6, 7}) {
		t.Errorf("Carts: %v", all)
	}
	if got, ok := Quantity(m, 7, padded(nameOf(n-1))); got != n-1 || !ok {
		t.Errorf("Quantity: %d, %t", got, ok)
	}
}

// TestArguments: arguments and their spare capacity stay as they are, and results are apart from them and from each other.
func TestArguments(t *testing.T) {
	next := dice(9)
	for i := range 200 {
		whole := anyRow(next, i%40+3)
		if i%2 == 0 {
			whole = lat.Norm(whole)
		}
		kept := slices.Clone(whole)
		l := whole[:len(whole)/2]
		for _, cart := range Carts(l) {
			want := view(l, cart)
			first, second := Of(l, cart), Of(l, cart)
			clear(first.Lines[:cap(first.Lines)])
			lines := Lines(l, cart)
			clear(lines[:cap(lines)])
			if !alike(second, want) {
				t.Fatalf("a view of %v has changed to %v", l, second)
			}
			Pieces(l, cart)
			Quantity(l, cart, padded("a"))
		}
		for _, v := range Each(l) {
			clear(v.Lines[:cap(v.Lines)])
		}
		carts := Carts(l)
		clear(carts[:cap(carts)])
		if !slices.Equal(whole, kept) {
			t.Fatalf("the row %v has changed", kept)
		}
	}
	a, b := viewed("hi", line("a", 1), line("b", 2)), viewed("hi", line("a", 1), line("b", 3))
	Same(a, b)
	if !alike(a, viewed("hi", line("a", 1), line("b", 2))) || !alike(b, viewed("hi", line("a", 1), line("b", 3))) {
		t.Errorf("the views %v and %v have changed", a, b)
	}
}

// TestRepeated: the order in which a map is visited is not to be seen.
func TestRepeated(t *testing.T) {
	l := anyRow(dice(10), 300)
	for i := range 40 {
		l = append(l, there(uint16(i*1000), nameOf(i), 2, 3), there(1, nameOf(i*77), 3, uint32(i+1)), plus(1, nameOf(i*77), 3, uint64(i+1)))
	}
	s := lat.Norm(l)
	for range 20 {
		checkRow(t, l)
		checkSame(t, l, s)
	}
}

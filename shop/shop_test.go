package shop

import (
	"bytes"
	"math"
	"regexp"
	"slices"
	"testing"

	"handcart/api"
	"handcart/atom"
	"handcart/cart"
	"handcart/count"
	"handcart/key"
	"handcart/lat"
	"handcart/tags"
)

// top is the greatest value of a half, the greatest number of a tag, that of a note, and the greatest N of an operation.
const top = math.MaxUint32

// ample is room for all that the tests do.
const ample = 1 << 30

// dice returns a function whose results have no pattern, but are the same in each run.
func dice(seed uint64) func() uint64 {
	x := 88172645463325252 + seed
	return func() uint64 {
		x ^= x << 13
		x ^= x >> 7
		x ^= x << 17
		return x
	}
}

// padded returns s in an api.Name.
func padded(s string) api.Name {
	var n api.Name
	copy(n[:], s)
	return n
}

// keyed is an atom with an empty text.
func keyed(sort uint8, cart uint16, item string, rep uint8, seq uint32, n uint64) api.Atom {
	return api.Atom{K: api.Key{Sort: sort, Cart: cart, Item: padded(item), Rep: rep, Seq: seq}, V: api.Val{N: n}}
}

func there(cart uint16, item string, rep uint8, seq uint32) api.Atom {
	return keyed(1, cart, item, rep, seq, 1)
}

func gone(cart uint16, item string, rep uint8, seq uint32) api.Atom {
	return keyed(1, cart, item, rep, seq, 2)
}

func plus(cart uint16, item string, rep uint8, n uint64) api.Atom {
	return keyed(2, cart, item, rep, 0, n)
}

func minus(cart uint16, item string, rep uint8, n uint64) api.Atom {
	return keyed(3, cart, item, rep, 0, n)
}

// written is a note with a stamp that is computed as the chapter of atoms says.
func written(cart uint16, n uint64, rep uint64, text string) api.Atom {
	return texted(keyed(4, cart, "", 0, 0, n*256+rep), text)
}

// texted is an atom with another text.
func texted(a api.Atom, text string) api.Atom {
	a.V.Text = padded(text)
	return a
}

// row is a short form.
func row(l ...api.Atom) []api.Atom { return l }

// joined is a row of several rows.
func joined(rows ...[]api.Atom) []api.Atom { return slices.Concat(rows...) }

// Operations, with nothing in the fields that are ignored.
func add(cart uint16, item string, n int) api.Op {
	return api.Op{Kind: 1, Cart: cart, Item: padded(item), N: n}
}

func remove(cart uint16, item string) api.Op {
	return api.Op{Kind: 2, Cart: cart, Item: padded(item)}
}

func set(cart uint16, item string, n int) api.Op {
	return api.Op{Kind: 3, Cart: cart, Item: padded(item), N: n}
}

func write(cart uint16, text string) api.Op {
	return api.Op{Kind: 4, Cart: cart, Text: padded(text)}
}

func empty(cart uint16) api.Op {
	return api.Op{Kind: 5, Cart: cart}
}

// ops is a short form.
func ops(l ...api.Op) []api.Op { return l }

// wrong are atoms that are not valid, most of them almost tags, halves and notes of what the tests do.
func wrong() []api.Atom {
	return row(
		keyed(1, 1, "a", 2, 9, 0), keyed(1, 1, "a", 2, 9, 3), keyed(1, 1, "a", 2, 9, 1<<32+1), there(1, "a", 2, 0), there(1, "a", 16, 9), gone(1, "a", 255, 9),
		there(1, "", 2, 9), there(1, "A", 2, 9), there(1, "a\x00b", 2, 9), there(1, "9", 2, 9), texted(there(1, "a", 2, 9), "a"), texted(gone(1, "a", 2, 9), "a"),
		plus(1, "a", 2, 0), plus(1, "a", 2, top+1), plus(1, "a", 2, math.MaxUint64), plus(1, "a", 16, 9), plus(1, "", 2, 9), plus(1, "A", 2, 9), keyed(2, 1, "a", 2, 9, 9), texted(plus(1, "a", 2, 99), "a"),
		minus(1, "a", 2, 0), minus(1, "a", 2, top+1), minus(1, "a", 17, 9), minus(1, "a\x00b", 2, 9), keyed(3, 1, "a", 2, 9, 9), texted(minus(1, "a", 2, 99), "B"),
		written(1, 0, 2, "z"), written(1, 9, 16, "z"), written(1, top+1, 2, "z"), written(1, 9, 2, "Z"), written(1, 9, 2, "a\x00b"), texted(keyed(4, 1, "a", 0, 0, 9*256), "z"), texted(keyed(4, 1, "", 0, 1, 9*256), "z"),
		keyed(0, 1, "a", 2, 9, 1), keyed(5, 1, "a", 2, 9, 1), keyed(255, 1, "a", 2, 9, 1), api.Atom{}, keyed(0, 0, "", 0, 9, 0),
	)
}

// isName reports whether n is a name, by the form in its chapter.
func isName(n api.Name) bool {
	return nameForm.Match(n[:])
}

var nameForm = regexp.MustCompile(`^[a-z][a-z0-9-]*\x00*$`)

// rightly is the result of Right, by the chapter's definition.
func rightly(op api.Op) api.Errno {
	switch {
	case !slices.Contains([]int{1, 2, 3, 4, 5}, op.Kind):
		return 14
	case slices.Contains([]int{1, 2, 3}, op.Kind) && !isName(op.Item):
		return 1
	case slices.Contains([]int{1, 3}, op.Kind) && (op.N < 0 || op.N > top):
		return 1
	case op.Kind == 4 && op.Text != api.Name{} && !isName(op.Text):
		return 1
	default:
		return 0
	}
}

// live are the tags of an item that the row calls There, and never Gone.
func live(l []api.Atom, cart uint16, item api.Name) []api.Key {
	var all []api.Key
	for _, a := range l {
		if atom.Right(a) && a.K.Sort == 1 && a.K.Cart == cart && a.K.Item == item && a.V.N == 1 && !slices.Contains(l, api.Atom{K: a.K, V: api.Val{N: 2}}) && !slices.Contains(all, a.K) {
			all = append(all, a.K)
		}
	}
	return all
}

// greatest is the greatest value of a half.
func greatest(l []api.Atom, sort uint8, cart uint16, item api.Name, rep uint8) int {
	n := 0
	for _, a := range l {
		if atom.Right(a) && a.K == (api.Key{Sort: sort, Cart: cart, Item: item, Rep: rep}) {
			n = max(n, int(a.V.N))
		}
	}
	return n
}

// total is the sum of the Plus halves of an item minus that of its Minus halves.
func total(l []api.Atom, cart uint16, item api.Name) int {
	sum := 0
	for rep := range uint8(16) {
		sum += greatest(l, 2, cart, item, rep) - greatest(l, 3, cart, item, rep)
	}
	return sum
}

// last is the value of the note of a cart, which is over all others of the row.
func last(l []api.Atom, cart uint16) api.Val {
	var v api.Val
	for _, a := range l {
		if atom.Right(a) && a.K.Sort == 4 && a.K.Cart == cart && (a.V.N > v.N || a.V.N == v.N && bytes.Compare(a.V.Text[:], v.Text[:]) > 0) {
			v = a.V
		}
	}
	return v
}

// size is the number of the atoms of the state of a row.
func size(l []api.Atom) int {
	keys := map[api.Key]struct{}{}
	for _, a := range l {
		if atom.Right(a) {
			keys[a.K] = struct{}{}
		}
	}
	return len(keys)
}

// tagged is what Add does to the tags, by the chapters' definitions.
func tagged(l []api.Atom, rep uint8, op api.Op) ([]api.Atom, api.Errno) {
	seq := uint32(0)
	for _, a := range l {
		if atom.Right(a) && a.K.Sort == 1 && a.K.Rep == rep {
			seq = max(seq, a.K.Seq)
		}
	}
	if seq == top {
		return nil, 8
	}
	return row(api.Atom{K: api.Key{Sort: 1, Cart: op.Cart, Item: op.Item, Rep: rep, Seq: seq + 1}, V: api.Val{N: 1}}), 0
}

// counted is what an increase by n does to a half of an item.
func counted(l []api.Atom, sort uint8, rep uint8, op api.Op, n int) ([]api.Atom, api.Errno) {
	half := greatest(l, sort, op.Cart, op.Item, rep)
	switch {
	case n+half > top:
		return nil, 8
	case n == 0:
		return nil, 0
	default:
		return row(api.Atom{K: api.Key{Sort: sort, Cart: op.Cart, Item: op.Item, Rep: rep}, V: api.Val{N: uint64(n + half)}}), 0
	}
}

// removed is what Remove does.
func removed(l []api.Atom, rep uint8, op api.Op) ([]api.Atom, api.Errno) {
	delta, e := counted(l, 3, rep, op, max(0, total(l, op.Cart, op.Item)))
	for _, k := range live(l, op.Cart, op.Item) {
		delta = append(delta, api.Atom{K: k, V: api.Val{N: 2}})
	}
	return delta, e
}

// noted is what Write does.
func noted(l []api.Atom, rep uint8, op api.Op) ([]api.Atom, api.Errno) {
	n := last(l, op.Cart).N / 256
	if n == top {
		return nil, 8
	}
	return row(written(op.Cart, n+1, uint64(rep), string(op.Text[:]))), 0
}

// cleared is what Clear does.
func cleared(l []api.Atom, rep uint8, op api.Op) ([]api.Atom, api.Errno) {
	var delta []api.Atom
	done := map[api.Name]struct{}{}
	for _, a := range l {
		if _, ok := done[a.K.Item]; ok || len(live(l, op.Cart, a.K.Item)) == 0 {
			continue
		}
		done[a.K.Item] = struct{}{}
		more, e := removed(l, rep, remove(op.Cart, string(a.K.Item[:])))
		if e != 0 {
			return nil, e
		}
		delta = append(delta, more...)
	}
	return delta, 0
}

// changed is what an operation does with the state of l, if its fields and the replica are right and the item is there.
func changed(l []api.Atom, rep uint8, op api.Op) ([]api.Atom, api.Errno) {
	switch op.Kind {
	case 1:
		tag, e := tagged(l, rep, op)
		half, f := counted(l, 2, rep, op, op.N)
		return joined(tag, half), max(e, f)
	case 2:
		return removed(l, rep, op)
	case 3:
		if n := op.N - total(l, op.Cart, op.Item); n < 0 {
			return counted(l, 3, rep, op, -n)
		} else {
			return counted(l, 2, rep, op, n)
		}
	case 4:
		return noted(l, rep, op)
	default:
		return cleared(l, rep, op)
	}
}

// done is the result of Do, by the chapter's definition.
func done(l []api.Atom, room int, rep uint8, op api.Op) ([]api.Atom, api.Errno) {
	if e := rightly(op); e != 0 {
		return nil, e
	}
	if rep > 15 {
		return nil, 1
	}
	if (op.Kind == 2 || op.Kind == 3) && len(live(l, op.Cart, op.Item)) == 0 {
		return nil, 6
	}
	delta, e := changed(l, rep, op)
	if e != 0 {
		return nil, e
	}
	if n := size(joined(l, delta)); n > max(0, room) && n > size(l) {
		return nil, 7
	}
	slices.SortFunc(delta, func(a, b api.Atom) int {
		if key.Less(a.K, b.K) {
			return -1
		}
		return 1
	})
	return delta, 0
}

// amount is the result of Amount, by the chapter's definition.
func amount(l []api.Atom, op api.Op) int {
	here := len(live(l, op.Cart, op.Item)) > 0
	switch {
	case rightly(op) != 0:
		return 0
	case op.Kind == 1:
		return op.N
	case op.Kind == 2 && here:
		return -max(0, total(l, op.Cart, op.Item))
	case op.Kind == 3 && here:
		return op.N - total(l, op.Cart, op.Item)
	default:
		return 0
	}
}

// ran is the result of Run: a row, and the errors.
func ran(l []api.Atom, room int, rep uint8, all []api.Op) ([]api.Atom, []api.Errno) {
	var errors []api.Errno
	for _, op := range all {
		delta, e := done(l, room, rep, op)
		l, errors = joined(l, delta), append(errors, e)
	}
	return l, errors
}

// listsOf calls visit with all lists of n of the elements of l.
func listsOf[T any](l []T, n int, visit func(l []T)) {
	chosen := make([]T, n)
	var choose func(i int)
	choose = func(i int) {
		if i == n {
			visit(chosen)
			return
		}
		for _, x := range l {
			chosen[i] = x
			choose(i + 1)
		}
	}
	choose(0)
}

// few are atoms on which the results of deeds depend, valid and not.
func few() []api.Atom {
	return row(
		there(1, "a", 2, 3), gone(1, "a", 2, 3), plus(1, "a", 2, 5), minus(1, "a", 3, 4), minus(1, "a", 2, 7), written(1, 5, 2, "b"), there(1, "b", 0, 7),
		there(1, "a", 2, top), there(0, "a", 3, 3), there(1, "a", 16, 3), plus(1, "a", 0, top), plus(1, "b", 2, 5), plus(0, "a", 2, 5), plus(1, "a", 2, 0), minus(1, "a", 2, top),
		written(1, top, 2, ""), written(0, 9, 3, "z"), written(1, 9, 16, "z"),
	)
}

// deeds are operations with what few are about.
func deeds() []api.Op {
	return ops(
		add(1, "a", 0), add(1, "a", 3), add(1, "b", top), add(0, "a", 1), add(1, "A", 1), remove(1, "a"), remove(1, "b"), remove(0, "a"), remove(1, ""),
		set(1, "a", 0), set(1, "a", 1), set(1, "a", 5), set(1, "a", top), set(0, "a", 7), set(1, "b", -1), write(1, "hi"), write(1, ""), write(0, "hi"), write(2, "Z"), empty(1), empty(0), empty(2), api.Op{Kind: 6},
	)
}

// anyName is one of few items, or of few texts.
func anyName(next func() uint64) string {
	if next()%16 == 0 {
		return []string{"", "A", "9", "a\x00b", "zzzzzzzz"}[next()%5]
	}
	return []string{"a", "b", "cup"}[next()%3]
}

// anyAtom is an atom of one of few keys, and not always valid.
func anyAtom(next func() uint64) api.Atom {
	cart, item, rep := uint16(next()%3), anyName(next), uint8(next()%17)
	n := next() % 12
	if next()%6 == 0 {
		n = next() >> (next() % 64)
	}
	switch next() % 8 {
	case 0, 1:
		return there(cart, item, rep, uint32(next()%3+1))
	case 2:
		return gone(cart, item, rep, uint32(next()%3+1))
	case 3, 4:
		return plus(cart, item, rep, n)
	case 5, 6:
		return minus(cart, item, rep, n)
	default:
		return written(cart, n, uint64(rep), item)
	}
}

// anyRow is a row of n atoms, some of which are not valid.
func anyRow(next func() uint64, n int) []api.Atom {
	rest := append(wrong(), few()...)
	var l []api.Atom
	for range n {
		a := anyAtom(next)
		if next()%6 == 0 {
			a = rest[next()%uint64(len(rest))]
		}
		if next()%16 == 0 {
			a.K.Cart = uint16(next())
		}
		l = append(l, a)
	}
	return l
}

// anyOp is an operation with one of few items, and something in the fields that are ignored; it is not always right.
func anyOp(next func() uint64) api.Op {
	op := api.Op{Kind: int(next()%5 + 1), Cart: uint16(next() % 3), Item: padded(anyName(next)), N: int(next() % 12), Text: padded(anyName(next))}
	switch next() % 16 {
	case 0:
		op.N = int(next() >> (next() % 64))
	case 1:
		op.N = -int(next() % 3)
	case 2:
		op.N = top - int(next()%5)
	case 3:
		op.Kind = int(next() % 9)
	case 4:
		op.Cart = uint16(next())
	}
	return op
}

// anyOps are n of them.
func anyOps(next func() uint64, n int) []api.Op {
	var l []api.Op
	for range n {
		l = append(l, anyOp(next))
	}
	return l
}

// shuffled are the elements of l in another order.
func shuffled[T any](next func() uint64, l []T) []T {
	l = slices.Clone(l)
	for i := range l {
		j := next() % uint64(i+1)
		l[i], l[j] = l[j], l[i]
	}
	return l
}

// checkDo holds the result of an operation, and its amount, against the chapter's definition, taken literally.
func checkDo(t *testing.T, l []api.Atom, room int, rep uint8, op api.Op) {
	t.Helper()
	want, f := done(l, room, rep, op)
	if got, e := Do(l, room, rep, op); e != f || !slices.Equal(got, want) {
		t.Fatalf("Do %v, %d, %d, %v: %v, %d, not %v, %d", l, room, rep, op, got, e, want, f)
	}
	if got := Amount(l, op); got != amount(l, op) {
		t.Fatalf("Amount %v, %v: %d, not %d", l, op, got, amount(l, op))
	}
}

// checkRun holds the result of several operations against the chapter's definition.
func checkRun(t *testing.T, l []api.Atom, room int, rep uint8, all []api.Op) {
	t.Helper()
	want, f := ran(l, room, rep, all)
	if got, e := Run(l, room, rep, all); !slices.Equal(e, f) || !slices.Equal(got, lat.Norm(want)) {
		t.Fatalf("Run %v, %d, %d, %v: %v, %d, not the state of %v, %d", l, room, rep, all, got, e, want, f)
	}
}

func TestP1801Right(t *testing.T) {
	for _, c := range []struct {
		op   api.Op
		want api.Errno
	}{
		{api.Op{}, 14},
		{api.Op{Kind: 0, Item: padded("a"), N: 1, Text: padded("a")}, 14},
		{api.Op{Kind: 6, Item: padded("a"), N: 1, Text: padded("a")}, 14},
		{api.Op{Kind: 6, Item: padded("A"), N: -1, Text: padded("A")}, 14},
		{api.Op{Kind: -1}, 14},
		{api.Op{Kind: 257, Item: padded("a")}, 14},
		{api.Op{Kind: 1<<32 + 1, Item: padded("a")}, 14},
		{api.Op{Kind: math.MaxInt}, 14},
		{api.Op{Kind: math.MinInt}, 14},
		{add(1, "a", 0), 0},
		{add(0, "zzzzzzzz", top), 0},
		{add(65535, "a-9", 1), 0},
		{add(1, "a", -1), 1},
		{add(1, "a", top+1), 1},
		{add(1, "a", 1<<33), 1},
		{add(1, "a", math.MaxInt), 1},
		{add(1, "a", math.MinInt), 1},
		{add(1, "", 1), 1},
		{add(1, "A", 1), 1},
		{add(1, "a\x00b", 1), 1},
		{api.Op{Kind: 1, Item: padded("a"), Text: padded("A")}, 0},
		{remove(1, "a"), 0},
		{remove(1, "zzzzzzzz"), 0},
		{remove(1, ""), 1},
		{remove(1, "9"), 1},
		{remove(1, "aB"), 1},
		{api.Op{Kind: 2, Item: padded("a"), N: -1, Text: padded("A")}, 0},
		{api.Op{Kind: 2, Item: padded("a"), N: top + 1}, 0},
		{set(1, "a", 0), 0},
		{set(1, "a", top), 0},
		{set(1, "a", -1), 1},
		{set(1, "a", top+1), 1},
		{set(1, "a", math.MaxInt), 1},
		{set(1, "a", math.MinInt), 1},
		{set(1, "", 0), 1},
		{set(1, "-a", 0), 1},
		{api.Op{Kind: 3, Item: padded("a"), Text: padded("A")}, 0},
		{write(1, ""), 0},
		{write(1, "hi"), 0},
		{write(1, "zzzzzzzz"), 0},
		{write(1, "Hi"), 1},
		{write(1, "\x00hi"), 1},
		{write(1, "\x00\x00\x00\x00\x00\x00\x00a"), 1},
		{api.Op{Kind: 4, Item: padded("A"), N: -1, Text: padded("hi")}, 0},
		{api.Op{Kind: 4, N: math.MaxInt}, 0},
		{empty(0), 0},
		{empty(65535), 0},
		{api.Op{Kind: 5, Item: padded("A"), N: -1, Text: padded("A")}, 0},
		{api.Op{Kind: 5, N: math.MaxInt}, 0},
	} {
		if got := Right(c.op); got != c.want {
			t.Errorf("Right %v: %d, not %d", c.op, got, c.want)
		}
		if got := rightly(c.op); got != c.want {
			t.Errorf("the second reading of Right %v: %d, not %d", c.op, got, c.want)
		}
	}
}

// TestP1801Fields: all kinds with all values that are near a bound in each field.
func TestP1801Fields(t *testing.T) {
	texts := []string{"", "a", "z", "a9-", "abcdefgh", "A", "9", "-a", "a b", "aB", "a\x00b", "\x00a", "abcdefgH", "a\x00\x00\x00\x00\x00\x00\x01", "\xff"}
	for _, kind := range []int{math.MinInt, math.MinInt32, -5, -1, 0, 1, 2, 3, 4, 5, 6, 7, 255, 256, 257, 258, 260, 1<<16 + 3, 1<<32 + 4, 1<<32 + 5, math.MaxInt} {
		for _, n := range []int{math.MinInt, -top, -1, 0, 1, 1 << 31, top - 1, top, top + 1, 1<<33 - 1, math.MaxInt} {
			for _, item := range texts {
				for _, text := range texts {
					op := api.Op{Kind: kind, Cart: uint16(n), Item: padded(item), N: n, Text: padded(text)}
					if got := Right(op); got != rightly(op) {
						t.Fatalf("Right %v: %d, not %d", op, got, rightly(op))
					}
				}
			}
		}
	}
}

// TestP1801Names: each byte at each place of an item and of a text.
func TestP1801Names(t *testing.T) {
	for size := range 9 {
		for place := range 8 {
			for c := range 256 {
				n := padded("abc-e9gh"[:size])
				n[place] = byte(c)
				for _, op := range ops(api.Op{Kind: 1, Item: n}, api.Op{Kind: 2, Item: n}, api.Op{Kind: 3, Item: n}, api.Op{Kind: 4, Text: n}) {
					if got := Right(op); got != rightly(op) {
						t.Fatalf("Right %v: %d, not %d", op, got, rightly(op))
					}
				}
			}
		}
	}
}

// do is a case of Do, and what it should return.
type do struct {
	l    []api.Atom
	room int
	rep  uint8
	op   api.Op
	want []api.Atom
	e    api.Errno
}

// checkCases holds cases against Do, and the second reading of it against them.
func checkCases(t *testing.T, l []do) {
	t.Helper()
	for _, c := range l {
		if got, e := Do(c.l, c.room, c.rep, c.op); e != c.e || !slices.Equal(got, c.want) {
			t.Errorf("Do %v, %d, %d, %v: %v, %d, not %v, %d", c.l, c.room, c.rep, c.op, got, e, c.want, c.e)
		}
		if got, e := done(c.l, c.room, c.rep, c.op); e != c.e || !slices.Equal(got, c.want) {
			t.Errorf("the second reading of Do %v, %d, %d, %v: %v, %d, not %v, %d", c.l, c.room, c.rep, c.op, got, e, c.want, c.e)
		}
	}
}

func TestP1802Add(t *testing.T) {
	checkCases(t, []do{
		{nil, ample, 2, add(1, "a", 3), row(there(1, "a", 2, 1), plus(1, "a", 2, 3)), 0},
		{row(), ample, 0, add(0, "a", 1), row(there(0, "a", 0, 1), plus(0, "a", 0, 1)), 0},
		{wrong(), ample, 2, add(1, "a", 3), row(there(1, "a", 2, 1), plus(1, "a", 2, 3)), 0},
		{nil, ample, 2, add(1, "a", 0), row(there(1, "a", 2, 1)), 0},
		{nil, ample, 15, add(65535, "zzzzzzzz", top), row(there(65535, "zzzzzzzz", 15, 1), plus(65535, "zzzzzzzz", 15, top)), 0},
		{row(there(1, "a", 2, 3), plus(1, "a", 2, 5)), ample, 2, add(1, "a", 3), row(there(1, "a", 2, 4), plus(1, "a", 2, 8)), 0},
		{row(there(1, "a", 2, 3), plus(1, "a", 2, 5)), ample, 2, add(1, "a", 0), row(there(1, "a", 2, 4)), 0},
		{row(there(1, "a", 2, 3), plus(1, "a", 2, 5)), ample, 3, add(1, "a", 3), row(there(1, "a", 3, 1), plus(1, "a", 3, 3)), 0},
		{row(gone(1, "a", 2, 3), plus(1, "a", 2, 5), minus(1, "a", 2, 5)), ample, 2, add(1, "a", 3), row(there(1, "a", 2, 4), plus(1, "a", 2, 8)), 0},
		{row(minus(1, "a", 2, 5)), ample, 2, add(1, "a", 3), row(there(1, "a", 2, 1), plus(1, "a", 2, 3)), 0},
		{row(there(7, "b", 2, 9), plus(7, "a", 2, 5), plus(1, "b", 2, 6)), ample, 2, add(1, "a", 3), row(there(1, "a", 2, 10), plus(1, "a", 2, 3)), 0},
		{row(plus(1, "a", 2, top-3)), ample, 2, add(1, "a", 3), row(there(1, "a", 2, 1), plus(1, "a", 2, top)), 0},
		{row(plus(1, "a", 2, top-3)), ample, 2, add(1, "a", 4), nil, 8},
		{row(plus(1, "a", 2, top)), ample, 2, add(1, "a", 0), row(there(1, "a", 2, 1)), 0},
		{row(plus(1, "a", 2, top)), ample, 2, add(1, "a", top), nil, 8},
		{row(plus(1, "a", 3, top)), ample, 2, add(1, "a", top), row(there(1, "a", 2, 1), plus(1, "a", 2, top)), 0},
		{row(there(7, "b", 2, top-1)), ample, 2, add(1, "a", 3), row(there(1, "a", 2, top), plus(1, "a", 2, 3)), 0},
		{row(there(7, "b", 2, top)), ample, 2, add(1, "a", 0), nil, 8},
		{row(gone(7, "b", 2, top)), ample, 2, add(1, "a", 3), nil, 8},
		{row(gone(7, "b", 3, top)), ample, 2, add(1, "a", 3), row(there(1, "a", 2, 1), plus(1, "a", 2, 3)), 0},
		{nil, ample, 2, api.Op{Kind: 1, Cart: 1, Item: padded("a"), N: 3, Text: padded("A")}, row(there(1, "a", 2, 1), plus(1, "a", 2, 3)), 0},
	})
}

func TestP1802Remove(t *testing.T) {
	a := there(1, "a", 2, 3)
	checkCases(t, []do{
		{nil, ample, 2, remove(1, "a"), nil, 6},
		{wrong(), ample, 2, remove(1, "a"), nil, 6},
		{row(gone(1, "a", 2, 3), plus(1, "a", 2, 5)), ample, 2, remove(1, "a"), nil, 6},
		{row(a), ample, 2, remove(1, "b"), nil, 6},
		{row(a), ample, 2, remove(0, "a"), nil, 6},
		{row(a), ample, 2, remove(257, "a"), nil, 6},
		{row(a), ample, 2, remove(1, "a"), row(gone(1, "a", 2, 3)), 0},
		{row(a), ample, 9, remove(1, "a"), row(gone(1, "a", 2, 3)), 0},
		{row(a, plus(1, "a", 2, 5)), ample, 2, remove(1, "a"), row(gone(1, "a", 2, 3), minus(1, "a", 2, 5)), 0},
		{row(plus(1, "a", 2, 5), a), ample, 9, remove(1, "a"), row(gone(1, "a", 2, 3), minus(1, "a", 9, 5)), 0},
		{row(a, plus(1, "a", 2, 5), plus(1, "a", 3, 6), minus(1, "a", 9, 4)), ample, 9, remove(1, "a"), row(gone(1, "a", 2, 3), minus(1, "a", 9, 11)), 0},
		{row(a, plus(1, "a", 2, 5), minus(1, "a", 9, 5)), ample, 9, remove(1, "a"), row(gone(1, "a", 2, 3)), 0},
		{row(a, plus(1, "a", 2, 5), minus(1, "a", 9, 6)), ample, 9, remove(1, "a"), row(gone(1, "a", 2, 3)), 0},
		{row(a, minus(1, "a", 9, top)), ample, 9, remove(1, "a"), row(gone(1, "a", 2, 3)), 0},
		{row(there(1, "a", 2, 4), a, there(1, "a", 0, 9), gone(1, "a", 2, 5), there(1, "a", 2, 5), there(1, "b", 2, 6), there(0, "a", 2, 7)), ample, 2, remove(1, "a"), row(gone(1, "a", 0, 9), gone(1, "a", 2, 3), gone(1, "a", 2, 4)), 0},
		{row(a, plus(1, "a", 2, top)), ample, 2, remove(1, "a"), row(gone(1, "a", 2, 3), minus(1, "a", 2, top)), 0},
		{row(a, plus(1, "a", 2, top), plus(1, "a", 3, 1)), ample, 2, remove(1, "a"), nil, 8},
		{row(a, plus(1, "a", 2, top), plus(1, "a", 3, 1), minus(1, "a", 9, 1)), ample, 2, remove(1, "a"), row(gone(1, "a", 2, 3), minus(1, "a", 2, top)), 0},
		{row(a, plus(1, "a", 2, top), plus(1, "a", 3, 1), minus(1, "a", 9, 1)), ample, 9, remove(1, "a"), nil, 8},
		{row(a, plus(1, "a", 2, top), plus(1, "a", 3, 1), minus(1, "a", 9, top)), ample, 9, remove(1, "a"), nil, 8},
		{row(a, plus(1, "a", 2, top), minus(1, "a", 9, top)), ample, 9, remove(1, "a"), row(gone(1, "a", 2, 3)), 0},
		{row(a, plus(1, "a", 2, 5)), ample, 2, api.Op{Kind: 2, Cart: 1, Item: padded("a"), N: -7, Text: padded("A")}, row(gone(1, "a", 2, 3), minus(1, "a", 2, 5)), 0},
		{row(there(65535, "zzzzzzzz", 15, top), plus(65535, "zzzzzzzz", 0, 1)), ample, 15, remove(65535, "zzzzzzzz"), row(gone(65535, "zzzzzzzz", 15, top), minus(65535, "zzzzzzzz", 15, 1)), 0},
	})
}

func TestP1802Set(t *testing.T) {
	a := there(1, "a", 2, 3)
	checkCases(t, []do{
		{nil, ample, 2, set(1, "a", 0), nil, 6},
		{wrong(), ample, 2, set(1, "a", 3), nil, 6},
		{row(gone(1, "a", 2, 3), plus(1, "a", 2, 5)), ample, 2, set(1, "a", 5), nil, 6},
		{row(a), ample, 2, set(1, "b", 5), nil, 6},
		{row(a), ample, 2, set(0, "a", 5), nil, 6},
		{row(a), ample, 2, set(1, "a", 0), nil, 0},
		{row(a), ample, 2, set(1, "a", 5), row(plus(1, "a", 2, 5)), 0},
		{row(a), ample, 9, set(1, "a", top), row(plus(1, "a", 9, top)), 0},
		{row(a, plus(1, "a", 2, 5)), ample, 2, set(1, "a", 5), nil, 0},
		{row(a, plus(1, "a", 2, 5)), ample, 2, set(1, "a", 6), row(plus(1, "a", 2, 6)), 0},
		{row(a, plus(1, "a", 2, 5)), ample, 2, set(1, "a", 4), row(minus(1, "a", 2, 1)), 0},
		{row(a, plus(1, "a", 2, 5)), ample, 9, set(1, "a", 6), row(plus(1, "a", 9, 1)), 0},
		{row(a, plus(1, "a", 2, 5)), ample, 9, set(1, "a", 0), row(minus(1, "a", 9, 5)), 0},
		{row(a, plus(1, "a", 2, 5), minus(1, "a", 9, 7)), ample, 9, set(1, "a", 0), row(plus(1, "a", 9, 2)), 0},
		{row(a, plus(1, "a", 2, 5), minus(1, "a", 9, 7)), ample, 2, set(1, "a", 1), row(plus(1, "a", 2, 8)), 0},
		{row(a, minus(1, "a", 9, 7)), ample, 2, set(1, "a", top-7), row(plus(1, "a", 2, top)), 0},
		{row(a, minus(1, "a", 9, 7)), ample, 2, set(1, "a", top-6), nil, 8},
		{row(a, plus(1, "a", 2, top)), ample, 2, set(1, "a", 0), row(minus(1, "a", 2, top)), 0},
		{row(a, plus(1, "a", 2, top), plus(1, "a", 3, 1)), ample, 2, set(1, "a", 1), row(minus(1, "a", 2, top)), 0},
		{row(a, plus(1, "a", 2, top), plus(1, "a", 3, 1)), ample, 2, set(1, "a", 0), nil, 8},
		{row(a, plus(1, "a", 2, top), minus(1, "a", 3, top)), ample, 2, set(1, "a", 1), nil, 8},
		{row(a, plus(1, "a", 2, top), minus(1, "a", 3, top)), ample, 9, set(1, "a", 1), row(plus(1, "a", 9, 1)), 0},
		{row(a, minus(1, "a", 0, top), minus(1, "a", 1, top), minus(1, "a", 2, top)), ample, 2, set(1, "a", top), nil, 8},
		{row(a, plus(1, "a", 0, top), plus(1, "a", 1, top), plus(1, "a", 2, top)), ample, 2, set(1, "a", top), nil, 8},
		{row(a, plus(1, "a", 0, top), plus(1, "a", 1, top)), ample, 2, set(1, "a", top), row(minus(1, "a", 2, top)), 0},
		{row(a), ample, 2, api.Op{Kind: 3, Cart: 1, Item: padded("a"), N: 4, Text: padded("A")}, row(plus(1, "a", 2, 4)), 0},
	})
}

func TestP1802Write(t *testing.T) {
	checkCases(t, []do{
		{nil, ample, 2, write(1, "hi"), row(written(1, 1, 2, "hi")), 0},
		{nil, ample, 0, write(0, ""), row(written(0, 1, 0, "")), 0},
		{wrong(), ample, 2, write(1, "hi"), row(written(1, 1, 2, "hi")), 0},
		{row(written(1, 5, 9, "yo")), ample, 2, write(1, "hi"), row(written(1, 6, 2, "hi")), 0},
		{row(written(1, 5, 9, "yo")), ample, 2, write(1, "yo"), row(written(1, 6, 2, "yo")), 0},
		{row(written(1, 5, 9, "yo")), ample, 2, write(1, ""), row(written(1, 6, 2, "")), 0},
		{row(written(1, 5, 9, "yo")), ample, 2, write(2, "hi"), row(written(2, 1, 2, "hi")), 0},
		{row(written(1, 5, 9, "yo"), written(1, 7, 0, ""), written(1, 6, 3, "a")), ample, 2, write(1, "hi"), row(written(1, 8, 2, "hi")), 0},
		{row(written(1, top-1, 9, "yo")), ample, 15, write(1, "zzzzzzzz"), row(written(1, top, 15, "zzzzzzzz")), 0},
		{row(written(1, top, 9, "yo")), ample, 15, write(1, "hi"), nil, 8},
		{row(written(1, top, 9, "yo")), ample, 15, write(65535, "hi"), row(written(65535, 1, 15, "hi")), 0},
		{row(there(1, "a", 2, top), plus(1, "a", 2, top)), ample, 2, write(1, "hi"), row(written(1, 1, 2, "hi")), 0},
		{nil, ample, 2, api.Op{Kind: 4, Cart: 1, Item: padded("A"), N: -7, Text: padded("hi")}, row(written(1, 1, 2, "hi")), 0},
	})
}

func TestP1802Clear(t *testing.T) {
	a, b := there(1, "a", 2, 3), there(1, "b", 2, 4)
	checkCases(t, []do{
		{nil, ample, 2, empty(1), nil, 0},
		{wrong(), ample, 2, empty(1), nil, 0},
		{row(gone(1, "a", 2, 3), plus(1, "a", 2, 5), written(1, 5, 9, "yo")), ample, 2, empty(1), nil, 0},
		{row(a, plus(1, "a", 2, 5)), ample, 2, empty(0), nil, 0},
		{row(a, plus(1, "a", 2, 5)), ample, 2, empty(257), nil, 0},
		{row(a, plus(1, "a", 2, 5)), ample, 9, empty(1), row(gone(1, "a", 2, 3), minus(1, "a", 9, 5)), 0},
		{row(b, a), ample, 9, empty(1), row(gone(1, "a", 2, 3), gone(1, "b", 2, 4)), 0},
		{row(b, a, plus(1, "b", 2, 5)), ample, 9, empty(1), row(gone(1, "a", 2, 3), gone(1, "b", 2, 4), minus(1, "b", 9, 5)), 0},
		{row(b, a, plus(1, "b", 2, 5), plus(1, "a", 3, 7), there(1, "b", 1, 9), written(1, 5, 9, "yo")), ample, 9, empty(1), row(gone(1, "a", 2, 3), gone(1, "b", 1, 9), gone(1, "b", 2, 4), minus(1, "a", 9, 7), minus(1, "b", 9, 5)), 0},
		{row(b, a, plus(1, "b", 2, 5), minus(1, "a", 3, 7), gone(1, "cup", 1, 9), plus(1, "cup", 1, 9)), ample, 3, empty(1), row(gone(1, "a", 2, 3), gone(1, "b", 2, 4), minus(1, "b", 3, 5)), 0},
		{row(b, a, there(0, "a", 2, 5), there(2, "a", 2, 6), plus(0, "a", 2, 7), plus(1, "a", 2, 8), plus(2, "a", 2, 9)), ample, 3, empty(1), row(gone(1, "a", 2, 3), gone(1, "b", 2, 4), minus(1, "a", 3, 8)), 0},
		{row(b, a, plus(1, "b", 2, 1), minus(1, "b", 3, 1), plus(1, "b", 4, top), plus(1, "a", 1, 5)), ample, 3, empty(1), nil, 8},
		{row(b, a, plus(1, "a", 2, 1), minus(1, "a", 3, 1), plus(1, "a", 4, top), plus(1, "b", 1, 5)), ample, 3, empty(1), nil, 8},
		{row(b, a, plus(1, "a", 2, top), minus(1, "a", 3, top), plus(1, "b", 1, 5)), ample, 3, empty(1), row(gone(1, "a", 2, 3), gone(1, "b", 2, 4), minus(1, "b", 3, 5)), 0},
		{row(a, plus(1, "a", 2, 5)), ample, 9, api.Op{Kind: 5, Cart: 1, Item: padded("A"), N: -7, Text: padded("A")}, row(gone(1, "a", 2, 3), minus(1, "a", 9, 5)), 0},
	})
}

// TestP1802Order: of several errors the first one counts.
func TestP1802Order(t *testing.T) {
	a := there(1, "a", 2, 3)
	full := row(a, plus(1, "a", 2, top), plus(1, "a", 3, 1), there(7, "a", 2, top), written(1, top, 2, "hi"))
	checkCases(t, []do{
		{full, -1, 99, api.Op{Item: padded("A"), N: -1, Text: padded("A")}, nil, 14},
		{full, -1, 2, api.Op{Kind: 6}, nil, 14},
		{full, -1, 99, add(1, "A", -1), nil, 1},
		{nil, -1, 2, remove(1, "A"), nil, 1},
		{nil, -1, 2, set(1, "a", -1), nil, 1},
		{full, -1, 2, set(1, "a", top+1), nil, 1},
		{full, -1, 2, add(1, "a", top+1), nil, 1},
		{full, -1, 2, write(1, "A"), nil, 1},
		{full, -1, 16, add(1, "a", 1), nil, 1},
		{nil, -1, 16, remove(1, "a"), nil, 1},
		{full, -1, 17, remove(1, "a"), nil, 1},
		{nil, -1, 128, set(1, "a", 1), nil, 1},
		{full, -1, 255, write(1, "hi"), nil, 1},
		{nil, ample, 16, empty(1), nil, 1},
		{full, -1, 16, empty(1), nil, 1},
		{full, -1, 2, remove(1, "b"), nil, 6},
		{full, -1, 2, set(1, "b", 1), nil, 6},
		{full, -1, 2, add(1, "a", 1), nil, 8},
		{full, -1, 2, remove(1, "a"), nil, 8},
		{full, -1, 2, set(1, "a", 0), nil, 8},
		{full, -1, 2, write(1, "hi"), nil, 8},
		{full, -1, 2, empty(1), nil, 8},
		{full, -1, 3, add(1, "a", 1), nil, 7},
		{full, -1, 2, set(1, "a", 1), nil, 7},
		{full, -1, 2, write(2, "hi"), nil, 7},
		{row(a, plus(1, "a", 2, 5)), 0, 2, remove(1, "a"), nil, 7},
		{row(a, plus(1, "a", 2, 5)), 0, 2, empty(1), nil, 7},
	})
}

// TestP1802Room: what is joined may have as many atoms as there is room for, or as the state has.
func TestP1802Room(t *testing.T) {
	a, b := there(1, "a", 2, 3), there(1, "b", 2, 4)
	for _, c := range []struct {
		l     []api.Atom
		rep   uint8
		op    api.Op
		size  int // of the state
		after int // of the join
	}{
		{nil, 2, add(1, "a", 3), 0, 2},
		{nil, 2, add(1, "a", 0), 0, 1},
		{nil, 2, write(1, "a"), 0, 1},
		{nil, 2, empty(1), 0, 0},
		{wrong(), 2, empty(1), 0, 0},
		{wrong(), 2, add(1, "a", 3), 0, 2},
		{row(a), 2, add(1, "a", 3), 1, 3},
		{row(a, a, a, gone(1, "a", 2, 3)), 2, add(1, "a", 0), 1, 2},
		{row(a, plus(1, "a", 2, 5)), 2, add(1, "a", 3), 2, 3},
		{row(a, plus(1, "a", 2, 5), plus(1, "a", 2, 4), plus(1, "a", 2, 3)), 2, add(1, "a", 3), 2, 3},
		{row(a), 2, remove(1, "a"), 1, 1},
		{row(a, plus(1, "a", 2, 5)), 2, remove(1, "a"), 2, 3},
		{row(a, plus(1, "a", 2, 5), minus(1, "a", 2, 1)), 2, remove(1, "a"), 3, 3},
		{row(a, plus(1, "a", 2, 5), minus(1, "a", 3, 1)), 2, remove(1, "a"), 3, 4},
		{row(a), 2, set(1, "a", 0), 1, 1},
		{row(a), 2, set(1, "a", 1), 1, 2},
		{row(a, plus(1, "a", 2, 5)), 2, set(1, "a", 5), 2, 2},
		{row(a, plus(1, "a", 2, 5)), 2, set(1, "a", 6), 2, 2},
		{row(a, plus(1, "a", 2, 5)), 2, set(1, "a", 4), 2, 3},
		{row(written(1, 1, 2, "a"), written(1, 2, 2, "a")), 2, write(1, "b"), 1, 1},
		{row(written(1, 1, 2, "a")), 2, write(0, "b"), 1, 2},
		{row(a, b, plus(1, "a", 2, 5), plus(1, "b", 2, 5)), 3, empty(1), 4, 6},
		{row(a, b, plus(1, "a", 2, 5), plus(1, "b", 2, 5), minus(1, "a", 3, 1)), 3, empty(1), 5, 6},
		{row(a, b, plus(1, "a", 2, 5), plus(1, "b", 2, 5), minus(1, "a", 3, 1), minus(1, "b", 3, 1)), 3, empty(1), 6, 6},
		{joined(row(b, a), wrong(), row(plus(1, "b", 2, 5), b, a)), 3, empty(1), 3, 4},
	} {
		for _, room := range []int{math.MinInt, -top, -1, 0, 1, 2, 3, 4, 5, 6, 7, 8, 99, top, math.MaxInt} {
			delta, e := Do(c.l, room, c.rep, c.op)
			want := api.Errno(0)
			if c.after > max(0, room) && c.after > c.size {
				want = 7
			}
			if e != want || e != 0 && len(delta) > 0 {
				t.Errorf("Do %v, %d, %d, %v: %v, %d, not %d", c.l, room, c.rep, c.op, delta, e, want)
			}
			if e == 0 && len(lat.Join(c.l, delta)) != c.after {
				t.Errorf("Do %v, %d, %d, %v: the join with %v has %d atoms, not %d", c.l, room, c.rep, c.op, delta, len(lat.Join(c.l, delta)), c.after)
			}
			checkDo(t, c.l, room, c.rep, c.op)
		}
	}
}

// TestP1802Reps: each replica acts with its own halves, tags and stamps, and there are no others.
func TestP1802Reps(t *testing.T) {
	l := row(there(1, "a", 9, 3), plus(1, "a", 4, 5), there(1, "b", 4, 7), plus(1, "b", 9, 7), minus(1, "b", 7, 2), written(1, 5, 7, "hi"))
	for rep := range 256 {
		for _, op := range deeds() {
			checkDo(t, l, ample, uint8(rep), op)
			if _, e := Do(l, ample, uint8(rep), op); rep > 15 && e != 1 && e != 14 {
				t.Errorf("Do by %d, %v: %d", rep, op, e)
			}
		}
		checkRun(t, l, ample, uint8(rep), deeds())
	}
}

// TestP1802Bounds: amounts at each bound, on halves at each bound.
func TestP1802Bounds(t *testing.T) {
	numbers := []uint64{0, 1, 1<<31 - 1, 1 << 31, top - 1, top}
	for _, up := range numbers {
		for _, down := range numbers {
			for _, other := range numbers {
				l := row(there(1, "a", 5, 3), plus(1, "a", 5, up), minus(1, "a", 5, down), plus(1, "a", 6, other), minus(1, "a", 7, other/2))
				for _, n := range numbers {
					for _, op := range ops(add(1, "a", int(n)), set(1, "a", int(n)), remove(1, "a"), empty(1)) {
						for rep := uint8(4); rep < 8; rep++ {
							checkDo(t, l, ample, rep, op)
						}
					}
				}
			}
		}
	}
}

// TestRows: all deeds on all rows of up to 2 of few, and on those of 3 of the first ones; any operation on rows without a pattern.
func TestRows(t *testing.T) {
	for n := range 3 {
		listsOf(few(), n, func(l []api.Atom) {
			for _, op := range deeds() {
				for _, room := range []int{-1, 0, 1, 2, 3, ample} {
					checkDo(t, l, room, 2, op)
				}
				checkDo(t, l, ample, 0, op)
				checkDo(t, l, ample, 16, op)
			}
		})
	}
	listsOf(few()[:12], 3, func(l []api.Atom) {
		for i, op := range deeds() {
			checkDo(t, l, 4-i%3, 2, op)
		}
	})
	next := dice(1)
	for i := range 280 {
		l := anyRow(next, i%70)
		for range 30 {
			op, rep, room := anyOp(next), uint8(next()%17), size(l)+int(next()%6)-2
			checkDo(t, l, room, rep, op)
			checkDo(t, l, ample, rep, op)
		}
	}
}

func TestP1803Amount(t *testing.T) {
	a := there(1, "a", 2, 3)
	for _, c := range []struct {
		l    []api.Atom
		op   api.Op
		want int
	}{
		{nil, add(1, "a", 0), 0},
		{nil, add(1, "a", 3), 3},
		{row(a, plus(1, "a", 2, 5)), add(1, "a", 3), 3},
		{row(a, plus(1, "a", 2, top), there(1, "a", 2, top)), add(1, "a", top), top},
		{row(a), add(1, "a", top+1), 0},
		{row(a), add(1, "a", -1), 0},
		{row(a), add(1, "A", 3), 0},
		{row(a), add(1, "", 3), 0},
		{nil, remove(1, "a"), 0},
		{row(a), remove(1, "a"), 0},
		{row(a, plus(1, "a", 2, 5)), remove(1, "a"), -5},
		{row(a, plus(1, "a", 2, 5), minus(1, "a", 3, 2)), remove(1, "a"), -3},
		{row(a, plus(1, "a", 2, 5), minus(1, "a", 3, 5)), remove(1, "a"), 0},
		{row(a, plus(1, "a", 2, 5), minus(1, "a", 3, 9)), remove(1, "a"), 0},
		{row(a, plus(1, "a", 2, top), plus(1, "a", 3, top)), remove(1, "a"), -2 * top},
		{row(a, plus(1, "a", 2, 5)), remove(0, "a"), 0},
		{row(a, plus(1, "b", 2, 5)), remove(1, "b"), 0},
		{row(a, plus(1, "a", 2, 5)), remove(1, "A"), 0},
		{row(gone(1, "a", 2, 3), plus(1, "a", 2, 5)), remove(1, "a"), 0},
		{row(a, plus(1, "a", 2, 5)), api.Op{Kind: 2, Cart: 1, Item: padded("a"), N: -9, Text: padded("A")}, -5},
		{nil, set(1, "a", 3), 0},
		{row(a), set(1, "a", 0), 0},
		{row(a), set(1, "a", 3), 3},
		{row(a, plus(1, "a", 2, 5)), set(1, "a", 3), -2},
		{row(a, plus(1, "a", 2, 5)), set(1, "a", 5), 0},
		{row(a, plus(1, "a", 2, 5), minus(1, "a", 3, 9)), set(1, "a", 0), 4},
		{row(a, plus(1, "a", 2, 5), minus(1, "a", 3, 9)), set(1, "a", 3), 7},
		{row(a, plus(1, "a", 2, top), plus(1, "a", 3, top)), set(1, "a", 3), 3 - 2*top},
		{row(a, minus(1, "a", 2, top), minus(1, "a", 3, top)), set(1, "a", top), 3 * top},
		{row(a, plus(1, "a", 2, 5)), set(1, "a", -1), 0},
		{row(a, plus(1, "a", 2, 5)), set(1, "a", top+1), 0},
		{row(a, plus(1, "a", 2, 5)), set(1, "aa", 3), 0},
		{row(a, plus(1, "a", 2, 5)), set(2, "a", 3), 0},
		{row(gone(1, "a", 2, 3), plus(1, "a", 2, 5)), set(1, "a", 3), 0},
		{row(a, plus(1, "a", 2, 5)), api.Op{Kind: 4, Cart: 1, Item: padded("a"), N: 9, Text: padded("hi")}, 0},
		{row(a, plus(1, "a", 2, 5)), api.Op{Kind: 4, Cart: 1, Item: padded("a"), N: 9, Text: padded("Z")}, 0},
		{row(a, plus(1, "a", 2, 5)), api.Op{Kind: 5, Cart: 1, Item: padded("a"), N: 9}, 0},
		{row(a, plus(1, "a", 2, 5)), api.Op{Kind: 0, Cart: 1, Item: padded("a"), N: 9}, 0},
		{row(a, plus(1, "a", 2, 5)), api.Op{Kind: 6, Cart: 1, Item: padded("a"), N: 9}, 0},
		{row(a, plus(1, "a", 2, 5)), api.Op{Kind: -1, Cart: 1, Item: padded("a"), N: 9}, 0},
		{wrong(), remove(1, "a"), 0},
		{wrong(), set(1, "a", 3), 0},
		{joined(wrong(), row(a, plus(1, "a", 2, 5))), remove(1, "a"), -5},
		{joined(wrong(), row(a, plus(1, "a", 2, 5))), set(1, "a", 3), -2},
	} {
		if got := Amount(c.l, c.op); got != c.want {
			t.Errorf("Amount %v, %v: %d, not %d", c.l, c.op, got, c.want)
		}
		if got := amount(c.l, c.op); got != c.want {
			t.Errorf("the second reading of Amount %v, %v: %d, not %d", c.l, c.op, got, c.want)
		}
	}
}

func TestP1804Run(t *testing.T) {
	for _, c := range []struct {
		l    []api.Atom
		room int
		rep  uint8
		ops  []api.Op
		want []api.Atom
		e    []api.Errno
	}{
		{nil, ample, 2, nil, nil, nil},
		{nil, ample, 99, ops(), nil, nil},
		{wrong(), -1, 2, nil, nil, nil},
		{row(plus(1, "a", 2, 5), there(1, "a", 2, 3), plus(1, "a", 2, 7)), 0, 2, nil, row(there(1, "a", 2, 3), plus(1, "a", 2, 7)), nil},
		{row(plus(1, "a", 2, 5), there(1, "a", 2, 3), plus(1, "a", 2, 7)), 0, 2, ops(api.Op{}), row(there(1, "a", 2, 3), plus(1, "a", 2, 7)), []api.Errno{14}},
		{row(plus(1, "a", 2, 5), there(1, "a", 2, 3), plus(1, "a", 2, 7)), 0, 2, ops(empty(3)), row(there(1, "a", 2, 3), plus(1, "a", 2, 7)), []api.Errno{0}},
		{nil, ample, 2, ops(add(1, "a", 3), add(1, "a", 4)), row(there(1, "a", 2, 1), there(1, "a", 2, 2), plus(1, "a", 2, 7)), []api.Errno{0, 0}},
		{nil, ample, 2, ops(add(1, "a", 3), add(2, "b", 4)), row(there(1, "a", 2, 1), there(2, "b", 2, 2), plus(1, "a", 2, 3), plus(2, "b", 2, 4)), []api.Errno{0, 0}},
		{nil, ample, 2, ops(remove(1, "a"), add(1, "a", 3), remove(1, "a"), remove(1, "a")), row(gone(1, "a", 2, 1), plus(1, "a", 2, 3), minus(1, "a", 2, 3)), []api.Errno{6, 0, 0, 6}},
		{nil, ample, 2, ops(set(1, "a", 3), add(1, "a", 0), set(1, "a", 3), set(1, "a", 2)), row(there(1, "a", 2, 1), plus(1, "a", 2, 3), minus(1, "a", 2, 1)), []api.Errno{6, 0, 0, 0}},
		{nil, ample, 2, ops(write(1, "a"), write(1, "A"), write(1, "b"), write(1, "")), row(written(1, 3, 2, "")), []api.Errno{0, 1, 0, 0}},
		{nil, ample, 2, ops(add(1, "a", top), add(1, "a", 1), add(1, "a", 0)), row(there(1, "a", 2, 1), there(1, "a", 2, 2), plus(1, "a", 2, top)), []api.Errno{0, 8, 0}},
		{nil, 2, 2, ops(add(1, "a", 3), add(1, "a", 1), write(1, "a"), set(1, "a", 4), remove(1, "a"), set(1, "a", 5)), row(there(1, "a", 2, 1), plus(1, "a", 2, 5)), []api.Errno{0, 7, 7, 0, 7, 0}},
		{nil, 3, 2, ops(add(1, "a", 3), add(1, "a", 1), write(1, "a"), set(1, "a", 5), remove(1, "a"), empty(1)), row(there(1, "a", 2, 1), there(1, "a", 2, 2), plus(1, "a", 2, 5)), []api.Errno{0, 0, 7, 0, 7, 7}},
		{nil, 0, 2, ops(add(1, "a", 3), write(1, "a"), empty(1)), nil, []api.Errno{7, 7, 0}},
		{nil, ample, 16, ops(add(1, "a", 3), write(1, "a"), empty(1), api.Op{}, remove(1, "a")), nil, []api.Errno{1, 1, 1, 14, 1}},
		{row(there(1, "a", 0, 1), plus(1, "a", 0, 2)), ample, 2, ops(remove(1, "a"), add(1, "a", 5), empty(1), add(1, "b", 1)), row(gone(1, "a", 0, 1), gone(1, "a", 2, 1), there(1, "b", 2, 2), plus(1, "a", 0, 2), plus(1, "a", 2, 5), plus(1, "b", 2, 1), minus(1, "a", 2, 7)), []api.Errno{0, 0, 0, 0}},
	} {
		got, e := Run(c.l, c.room, c.rep, c.ops)
		if !slices.Equal(got, c.want) || !slices.Equal(e, c.e) {
			t.Errorf("Run %v, %d, %d, %v: %v, %d, not %v, %d", c.l, c.room, c.rep, c.ops, got, e, c.want, c.e)
		}
		checkRun(t, c.l, c.room, c.rep, c.ops)
	}
}

// TestP1804Runs: many operations with little room, on rows without a pattern.
func TestP1804Runs(t *testing.T) {
	listsOf(deeds(), 3, func(l []api.Op) {
		checkRun(t, nil, 3, 2, l)
	})
	next := dice(2)
	for i := range 200 {
		l := anyRow(next, i%40)
		all := anyOps(next, int(next()%60))
		checkRun(t, l, size(l)+int(next()%20)-1, uint8(next()%17), all)
	}
}

// TestP1804Parts: operations in two runs, the second one on the result of the first, are those of one run.
func TestP1804Parts(t *testing.T) {
	next := dice(3)
	for i := range 100 {
		l := anyRow(next, i%40)
		all := anyOps(next, int(next()%30))
		room, rep, cut := size(l)+int(next()%20), uint8(next()%16), int(next()%uint64(len(all)+1))
		whole, errors := Run(l, room, rep, all)
		first, e := Run(l, room, rep, all[:cut])
		second, f := Run(first, room, rep, all[cut:])
		if !slices.Equal(second, whole) || !slices.Equal(append(e, f...), errors) {
			t.Fatalf("Run %v, %d, %d, %v, cut at %d: %v, %d", l, room, rep, all, cut, second, f)
		}
		if len(errors) != len(all) || !lat.Right(whole) || !lat.Leq(l, whole) {
			t.Fatalf("Run %v, %d, %d, %v: %v, %d", l, room, rep, all, whole, errors)
		}
	}
}

// checkOthers holds how two rows are read against each other, but for the lines of one item in one cart, or for its note if there is no item.
func checkOthers(t *testing.T, before, after []api.Atom, in uint16, item api.Name) {
	t.Helper()
	for _, id := range append(append(cart.Carts(before), cart.Carts(after)...), 0, 1, 2, 65535) {
		v, w := cart.Of(before, id), cart.Of(after, id)
		if id == in {
			other := func(l api.Line) bool { return l.Item == item }
			v.Lines, w.Lines = slices.DeleteFunc(v.Lines, other), slices.DeleteFunc(w.Lines, other)
		}
		if id == in && item == (api.Name{}) {
			v.Note, w.Note = api.Name{}, api.Name{}
		}
		if !cart.Same(v, w) {
			t.Fatalf("the cart %d of %v was %v, and that of %v is %v", id, before, v, after, w)
		}
	}
}

// checkEffect holds how a cart is read after an operation against how it was before.
func checkEffect(t *testing.T, before, after []api.Atom, op api.Op) {
	t.Helper()
	n, ok := cart.Quantity(after, op.Cart, op.Item)
	sum := count.Total(after, op.Cart, op.Item)
	right := true
	switch op.Kind {
	case api.Add:
		right = ok && sum == count.Total(before, op.Cart, op.Item)+op.N
	case api.Remove:
		right = !ok && !tags.Present(after, op.Cart, op.Item) && sum <= 0
	case api.Set:
		right = ok && n == op.N && sum == op.N
	case api.Write:
		right = cart.Of(after, op.Cart).Note == op.Text
	case api.Clear:
		right = len(cart.Lines(after, op.Cart)) == 0 && cart.Of(after, op.Cart).Note == cart.Of(before, op.Cart).Note
	}
	if !right {
		t.Fatalf("%v on %v: %v", op, before, after)
	}
	if op.Kind < api.Write && sum-count.Total(before, op.Cart, op.Item) != Amount(before, op) {
		t.Fatalf("%v on %v: %v, which does not change by %d", op, before, after, Amount(before, op))
	}
}

// checkLaws holds an operation against the laws.
func checkLaws(t *testing.T, l []api.Atom, room int, rep uint8, op api.Op) {
	t.Helper()
	delta, e := Do(l, room, rep, op)
	after, errors := Run(l, room, rep, ops(op))
	if len(errors) != 1 || errors[0] != e || !lat.Same(after, lat.Join(l, delta)) || !lat.Leq(l, after) || !lat.Right(delta) {
		t.Fatalf("Run %v, %d, %d, %v: %v, %d", l, room, rep, op, after, errors)
	}
	if e != api.OK {
		if len(delta) != 0 || !lat.Same(l, after) {
			t.Fatalf("Do %v, %d, %d, %v: %v, %d", l, room, rep, op, delta, e)
		}
		return
	}
	if len(after) > max(room, 0) && len(after) > len(lat.Norm(l)) {
		t.Fatalf("Run %v, %d, %d, %v: %d atoms", l, room, rep, op, len(after))
	}
	checkEffect(t, l, after, op)
	switch op.Kind {
	case api.Write:
		checkOthers(t, l, after, op.Cart, api.Name{})
	case api.Clear:
		for _, a := range delta {
			if a.K.Cart != op.Cart || a.K.Sort == api.Note {
				t.Fatalf("Do %v, %d, %d, %v: %v", l, room, rep, op, delta)
			}
		}
	default:
		checkOthers(t, l, after, op.Cart, op.Item)
	}
	for _, a := range delta {
		if a.K.Cart != op.Cart {
			t.Fatalf("Do %v, %d, %d, %v: %v is of another cart", l, room, rep, op, a)
		}
	}
}

// TestP1805Laws: what holds after each operation on short rows, and on rows without a pattern.
func TestP1805Laws(t *testing.T) {
	for n := range 3 {
		listsOf(few(), n, func(l []api.Atom) {
			for _, op := range deeds() {
				checkLaws(t, l, ample, 2, op)
				checkLaws(t, l, 2, 3, op)
			}
		})
	}
	next := dice(4)
	for i := range 200 {
		l := anyRow(next, i%70)
		for range 20 {
			checkLaws(t, l, size(l)+int(next()%4), uint8(next()%17), anyOp(next))
		}
	}
}

// TestP1805Replicas: replicas act and join each other's states; the laws hold in each of them, and what each adds counts once.
func TestP1805Replicas(t *testing.T) {
	next := dice(5)
	for range 30 {
		const n = 4
		var states [n][]api.Atom
		var deltas [][]api.Atom
		for range 100 {
			i, j := next()%n, next()%n
			if next()%3 == 0 {
				states[i] = lat.Join(states[i], states[j])
				continue
			}
			op := anyOp(next)
			checkLaws(t, states[i], 40, uint8(i), op)
			delta, _ := Do(states[i], 40, uint8(i), op)
			deltas = append(deltas, delta)
			states[i] = lat.Join(states[i], delta)
		}
		all := lat.All(states[:]...)
		if got := lat.All(shuffled(next, slices.Concat(deltas, deltas))...); !slices.Equal(got, all) {
			t.Fatalf("the join of the deltas is %v, and that of the states %v", got, all)
		}
	}
}

// TestP1805Concurrent: an item that one replica removes or sets while another one adds it is present, with the sum of all changes.
func TestP1805Concurrent(t *testing.T) {
	s, _ := Run(nil, ample, 0, ops(add(1, "cup", 3)))
	for _, c := range []struct {
		op   api.Op
		want int
	}{
		{remove(1, "cup"), 4},
		{empty(1), 4},
		{set(1, "cup", 1), 5},
		{set(1, "cup", 9), 13},
		{add(1, "cup", 2), 9},
		{write(1, "hi"), 7},
	} {
		a, e := Do(s, ample, 0, c.op)
		b, f := Do(s, ample, 1, add(1, "cup", 4))
		all := lat.All(s, a, b)
		if n, ok := cart.Quantity(all, 1, padded("cup")); e != 0 || f != 0 || !ok || n != c.want {
			t.Errorf("%v while 4 are added: %d, %t", c.op, n, ok)
		}
		// The one that has seen the add takes it away.
		if d, e := Do(all, ample, 2, remove(1, "cup")); e != 0 || len(cart.Lines(lat.Join(all, d), 1)) != 0 || count.Total(lat.Join(all, d), 1, padded("cup")) != 0 {
			t.Errorf("%v while 4 are added, and Remove: %v, %d", c.op, d, e)
		}
	}
}

// TestP1805Example1: after Add of 3 cups, Set to 1, and Remove there is no line, and the total is 0.
func TestP1805Example1(t *testing.T) {
	for rep := range uint8(16) {
		s, e := Run(nil, 3, rep, ops(add(1, "cup", 3), set(1, "cup", 1), remove(1, "cup")))
		if !slices.Equal(e, []api.Errno{0, 0, 0}) || len(cart.Lines(s, 1)) != 0 || count.Total(s, 1, padded("cup")) != 0 {
			t.Errorf("replica %d: %v, %d", rep, s, e)
		}
		if want := row(gone(1, "cup", rep, 1), plus(1, "cup", rep, 3), minus(1, "cup", rep, 3)); !slices.Equal(s, want) {
			t.Errorf("replica %d: %v, not %v", rep, s, want)
		}
	}
}

// nameOf is one of 26^4 names, in the order of i.
func nameOf(i int) string {
	b := []byte("aaaa")
	for j := 3; j >= 0; j-- {
		b[j] += byte(i % 26)
		i /= 26
	}
	return string(b)
}

// TestMany: rows have no greatest length, and a cart may have any number of lines.
func TestMany(t *testing.T) {
	const n = 1 << 13
	var l, want []api.Atom
	for i := range n {
		// 7919 and n have no factor in common, so each number occurs once.
		j := i * 7919 % n
		l = append(l, plus(1, nameOf(j), 3, uint64(j+1)), there(1, nameOf(j), 2, uint32(i+1)), there(2, nameOf(j), 2, uint32(n+i+1)))
		want = append(want, gone(1, nameOf(j), 2, uint32(i+1)), minus(1, nameOf(j), 9, uint64(j+1)))
	}
	delta, e := Do(l, 4*n, 9, empty(1))
	if e != 0 || !slices.Equal(delta, lat.Norm(want)) {
		t.Fatalf("Clear of %d items: %d atoms, %d", n, len(delta), e)
	}
	if delta, e = Do(l, 4*n-1, 9, empty(1)); e != 7 || len(delta) != 0 {
		t.Errorf("Clear without room: %d atoms, %d", len(delta), e)
	}
	item := nameOf(n - 1)
	if delta, e = Do(l, 3*n+1, 9, remove(1, item)); e != 0 || len(delta) != 2 || Amount(l, remove(1, item)) != -n {
		t.Errorf("Remove: %v, %d", delta, e)
	}
	if delta, e = Do(l, 3*n+1, 2, add(1, item, 3)); e != 7 || len(delta) != 0 {
		t.Errorf("Add without room: %v, %d", delta, e)
	}
	if delta, e = Do(l, 3*n+2, 2, add(1, item, 3)); e != 0 || !slices.Equal(delta, row(there(1, item, 2, 2*n+1), plus(1, item, 2, 3))) {
		t.Errorf("Add: %v, %d", delta, e)
	}
	var all []api.Op
	for i := range 120 {
		all = append(all, add(uint16(i%7), nameOf(i%90), i), write(uint16(i%5), nameOf(i)), set(uint16(i%6), nameOf(i%80), 1000-i), remove(uint16(i%4), nameOf(i%70)))
	}
	checkRun(t, nil, 150, 5, all)
}

// TestArguments: arguments and their spare capacity stay as they are, and results are apart from them and from each other.
func TestArguments(t *testing.T) {
	next := dice(6)
	for i := range 200 {
		whole, all := anyRow(next, i%40+3), anyOps(next, 12)
		if i%2 == 0 {
			whole = lat.Norm(whole)
		}
		kept, told := slices.Clone(whole), slices.Clone(all)
		l, asked := whole[:len(whole)/2], all[:9]
		for _, op := range asked {
			want, _ := done(l, ample, 2, op)
			first, _ := Do(l, ample, 2, op)
			second, _ := Do(l, ample, 2, op)
			clear(first[:cap(first)])
			if !slices.Equal(second, want) {
				t.Fatalf("the delta of %v on %v has changed to %v", op, l, second)
			}
			Amount(l, op)
		}
		for _, ops := range [][]api.Op{asked, nil} {
			state, errors := Run(l, ample, 2, ops)
			again, f := Run(l, ample, 2, ops)
			clear(state[:cap(state)])
			clear(errors[:cap(errors)])
			want, e := ran(l, ample, 2, ops)
			if !slices.Equal(again, lat.Norm(want)) || !slices.Equal(f, e) {
				t.Fatalf("Run %v, %v has changed to %v, %v", l, ops, again, f)
			}
		}
		if !slices.Equal(whole, kept) || !slices.Equal(all, told) {
			t.Fatalf("the row %v or the operations %v have changed", kept, told)
		}
	}
}

// TestRepeated: the order in which a map is visited is not to be seen.
func TestRepeated(t *testing.T) {
	l := anyRow(dice(7), 100)
	for i := range 40 {
		l = append(l, there(1, nameOf(i*77), 3, uint32(i+1)), plus(1, nameOf(i*77), 3, uint64(i+1)))
	}
	for range 5 {
		for _, op := range deeds() {
			checkDo(t, l, ample, 2, op)
			checkDo(t, lat.Norm(l), ample, 9, op)
		}
	}
}

package lat

import (
	"encoding/binary"
	"math"
	"slices"
	"testing"

	"handcart/api"
	"handcart/atom"
	"handcart/key"
)

// dice returns a function whose results have no pattern, but are the same in each run.
func dice(seed uint64) func() uint64 {
	x := 88172645463325252 + seed
	return func() uint64 {
		x ^= x << 13
		x ^= x >> 7
		x ^= x << 17
		return x
	}
}

// padded returns s in an api.Name.
func padded(s string) api.Name {
	var n api.Name
	copy(n[:], s)
	return n
}

func tag(cart uint16, item string, rep uint8, seq uint32, n uint64) api.Atom {
	return api.Atom{K: api.Key{Sort: api.Tag, Cart: cart, Item: padded(item), Rep: rep, Seq: seq}, V: api.Val{N: n}}
}

func half(sort uint8, cart uint16, item string, rep uint8, n uint64) api.Atom {
	return api.Atom{K: api.Key{Sort: sort, Cart: cart, Item: padded(item), Rep: rep}, V: api.Val{N: n}}
}

func note(cart uint16, stamp uint64, text string) api.Atom {
	return api.Atom{K: api.Key{Sort: api.Note, Cart: cart}, V: api.Val{N: stamp, Text: padded(text)}}
}

// ordered are valid atoms in increasing order, each with another key: those at the bounds of each field, and those next to each other in one field only.
func ordered() []api.Atom {
	return []api.Atom{
		tag(0, "a", 0, 1, api.There),
		tag(0, "a", 0, 2, api.Gone),
		tag(0, "a", 0, 255, api.There),
		tag(0, "a", 0, 256, api.There),
		tag(0, "a", 0, math.MaxUint32, api.There),
		tag(0, "a", 1, 1, api.There),
		tag(0, "a", 15, 1, api.Gone),
		tag(0, "a", 15, math.MaxUint32, api.Gone),
		tag(0, "a-", 0, 1, api.There),
		tag(0, "a0", 0, 1, api.There),
		tag(0, "aa", 0, 1, api.There),
		tag(0, "aaaaaaaa", 0, 1, api.There),
		tag(0, "b", 0, 1, api.There),
		tag(0, "zzzzzzzz", 15, 1, api.There),
		tag(1, "a", 0, 1, api.There),
		tag(255, "a", 0, 1, api.There),
		tag(256, "a", 0, 1, api.There),
		tag(65535, "zzzzzzzz", 15, math.MaxUint32, api.There),
		half(api.Plus, 0, "a", 0, 1),
		half(api.Plus, 0, "a", 1, math.MaxUint32),
		half(api.Plus, 0, "b", 0, 7),
		half(api.Plus, 1, "a", 0, 1),
		half(api.Plus, 65535, "z", 15, 1),
		half(api.Minus, 0, "a", 0, 1),
		half(api.Minus, 0, "a", 15, 1),
		half(api.Minus, 65535, "z", 15, math.MaxUint32),
		note(0, 256, ""),
		note(1, 271, "a"),
		note(255, 1<<40-241, "zzzzzzzz"),
		note(256, 512, "a-9"),
		note(65535, 256, ""),
	}
}

// wrong are atoms that are not valid, each with one fault: in its value (the first ones, whose keys are valid) or in its key.
func wrong() []api.Atom {
	bad := note(1, 256, "")
	bad.K.Rep = 1
	seq := half(api.Plus, 1, "a", 2, 1)
	seq.K.Seq = 1
	text := tag(1, "a", 2, 3, api.There)
	text.V.Text = padded("a")
	return []api.Atom{
		tag(0, "a", 0, 1, 0), tag(0, "a", 0, 1, 3), tag(0, "a", 0, 1, math.MaxUint64), text,
		half(api.Plus, 0, "a", 0, 0), half(api.Plus, 0, "a", 0, 1<<32),
		half(api.Minus, 0, "a", 0, 0), half(api.Minus, 0, "a", 0, 1<<32),
		note(0, 0, "a"), note(0, 255, "a"), note(0, 272, "a"), note(0, 1<<40, "a"), note(0, 256, "A"), note(0, math.MaxUint64, "z"),
		{}, bad, seq,
		tag(0, "a", 0, 0, api.There), tag(0, "", 0, 1, api.There), tag(0, "A", 0, 1, api.There), tag(0, "a", 16, 1, api.There),
		half(api.Plus, 0, "9", 0, 1), half(api.Minus, 0, "a", 255, 1),
		{K: api.Key{Sort: 5, Item: padded("a")}, V: api.Val{N: 1}}, {K: api.Key{Sort: 255}, V: api.Val{N: 256}},
	}
}

// few are valid and invalid atoms with few keys, so that rows of them often have a key twice.
func few() []api.Atom {
	return []api.Atom{
		tag(1, "a", 2, 3, api.There), tag(1, "a", 2, 3, api.Gone), tag(1, "a", 2, 3, 3),
		half(api.Plus, 0, "b", 0, 1), half(api.Plus, 0, "b", 0, 9), half(api.Plus, 0, "b", 0, 1<<32),
		note(4, 256, ""), note(4, 256, "b"), note(4, 257, "a"), note(4, 16, "z"),
	}
}

const keyLen, atomLen = 16, 32

// image is an atom as bytes whose order is that of the atoms: by keys, and atoms of one key by values.
func image(a api.Atom) string {
	b := []byte{a.K.Sort}
	b = binary.BigEndian.AppendUint16(b, a.K.Cart)
	b = append(b, a.K.Item[:]...)
	b = append(b, a.K.Rep)
	b = binary.BigEndian.AppendUint32(b, a.K.Seq)
	b = binary.BigEndian.AppendUint64(b, a.V.N)
	return string(append(b, a.V.Text[:]...))
}

// images are those of the valid atoms of rows, in order: all that the chapter's definitions need.
func images(rows ...[]api.Atom) []string {
	var l []string
	for _, row := range rows {
		for _, a := range row {
			if atom.Right(a) {
				l = append(l, image(a))
			}
		}
	}
	slices.Sort(l)
	return l
}

// lasts are the last one of each key's images, which has the value that is over all others.
func lasts(l []string) []string {
	var out []string
	for i, x := range l {
		if i+1 == len(l) || l[i+1][:keyLen] != x[:keyLen] {
			out = append(out, x)
		}
	}
	return out
}

// met are the images of the state of what two states have in common.
func met(a, b []string) []string {
	var out []string
	for _, x := range a {
		for _, y := range b {
			if x[:keyLen] == y[:keyLen] {
				out = append(out, min(x, y))
			}
		}
	}
	return out
}

// isBelow is the chapter's definition of being below once more, of images of states.
func isBelow(a, b []string) bool {
	return !slices.ContainsFunc(a, func(x string) bool {
		return !slices.ContainsFunc(b, func(y string) bool {
			return y[:keyLen] == x[:keyLen] && y >= x
		})
	})
}

// told are the images of a result, in its own order and with what is invalid in it.
func told(s []api.Atom) []string {
	var l []string
	for _, a := range s {
		l = append(l, image(a))
	}
	return l
}

// visited are the images of what an iterator yields.
func visited(s []api.Atom) []string {
	var l []string
	for k, v := range Each(s) {
		l = append(l, image(api.Atom{K: k, V: v}))
	}
	return l
}

func checkState(t *testing.T, what string, got []api.Atom, want []string) {
	t.Helper()
	if !slices.Equal(told(got), want) {
		t.Errorf("%s: %v, not %q", what, got, want)
	}
}

// checkRow holds what is told of one row against the second reading of the chapter.
func checkRow(t *testing.T, l []api.Atom) {
	t.Helper()
	want := lasts(images(l))
	checkState(t, "Norm", Norm(l), want)
	checkState(t, "All of one", All(l), want)
	if got := visited(l); !slices.Equal(got, want) {
		t.Errorf("Each %v: %q, not %q", l, got, want)
	}
	if got := Right(l); got != slices.Equal(told(l), want) {
		t.Errorf("Right %v: %v", l, got)
	}
	if !Right(Norm(l)) {
		t.Errorf("Norm %v is not a state", l)
	}
	for _, a := range l {
		checkFind(t, l, a.K)
	}
}

// checkFind holds Find of k in l against the second reading of the chapter.
func checkFind(t *testing.T, l []api.Atom, k api.Key) {
	t.Helper()
	var want api.Val
	found := false
	for _, x := range lasts(images(l)) {
		if x[:keyLen] == image(api.Atom{K: k})[:keyLen] {
			want.N, found = binary.BigEndian.Uint64([]byte(x[keyLen:])), true
			copy(want.Text[:], x[keyLen+8:])
		}
	}
	if got, ok := Find(l, k); got != want || ok != found {
		t.Errorf("Find %v in %v: %v, %v, not %v, %v", k, l, got, ok, want, found)
	}
}

// checkPair holds what is told of two rows against the second reading of the chapter.
func checkPair(t *testing.T, a, b []api.Atom) {
	t.Helper()
	first, second := lasts(images(a)), lasts(images(b))
	joined := lasts(images(a, b))
	checkState(t, "Join", Join(a, b), joined)
	checkState(t, "All of two", All(a, b), joined)
	checkState(t, "Meet", Meet(a, b), met(first, second))
	if got := Leq(a, b); got != isBelow(first, second) {
		t.Errorf("Leq %v, %v: %v", a, b, got)
	}
	if got := Same(a, b); got != slices.Equal(first, second) {
		t.Errorf("Same %v, %v: %v", a, b, got)
	}
}

// rows are all rows of up to n of the atoms of l.
func rows(l []api.Atom, n int) [][]api.Atom {
	all := [][]api.Atom{nil}
	level := all
	for range n {
		var next [][]api.Atom
		for _, row := range level {
			for _, a := range l {
				next = append(next, append(slices.Clone(row), a))
			}
		}
		all, level = append(all, next...), next
	}
	return all
}

// mixed is a row of n atoms, with some keys many times and some atoms that are not valid.
func mixed(next func() uint64, n int) []api.Atom {
	good, bad := ordered(), wrong()
	var l []api.Atom
	for range n {
		a := good[next()%uint64(len(good))]
		switch next() % 8 {
		case 0:
			a = bad[next()%uint64(len(bad))]
		case 1:
			a.V.N = next() >> (next() % 64)
		case 2:
			a.V.N += next() % 3
		case 3:
			a.K.Cart = uint16(next() % 4)
		case 4:
			a.V = good[next()%uint64(len(good))].V
		}
		l = append(l, a)
	}
	return l
}

// shuffled is l in another order.
func shuffled(next func() uint64, l []api.Atom) []api.Atom {
	out := slices.Clone(l)
	for i := range out {
		j := i + int(next()%uint64(len(out)-i))
		out[i], out[j] = out[j], out[i]
	}
	return out
}

// many is a state of n atoms, n below 2^20.
func many(n int) []api.Atom {
	var l []api.Atom
	for i := range n {
		l = append(l, tag(uint16(i/16), "cup", uint8(i%16), 7, api.There))
	}
	return l
}

// TestLists: the lists of this file are what they say.
func TestLists(t *testing.T) {
	if l := told(ordered()); !slices.IsSorted(l) || len(lasts(images(ordered()))) != len(ordered()) {
		t.Error("ordered is not in order, or has a key twice or an invalid atom")
	}
	for _, a := range wrong() {
		if atom.Right(a) {
			t.Errorf("wrong has %v", a)
		}
	}
	if got := len(image(api.Atom{})); got != atomLen {
		t.Errorf("image has %d bytes", got)
	}
}

func TestP1001Right(t *testing.T) {
	all := ordered()
	if !Right(nil) || !Right([]api.Atom{}) || !Right(all) {
		t.Error("Right: false for a state")
	}
	for i, a := range all {
		if !Right(all[:i]) || !Right(all[i:]) || !Right([]api.Atom{a}) {
			t.Errorf("Right: false for a state around %v", a)
		}
		for j, b := range all {
			if got := Right([]api.Atom{a, b}); got != (i < j) {
				t.Errorf("Right %v, %v: %v", a, b, got)
			}
		}
		if Right(slices.Insert(slices.Clone(all), i, a)) {
			t.Errorf("Right: true with %v twice", a)
		}
	}
	for _, a := range wrong() {
		if Right([]api.Atom{a}) {
			t.Errorf("Right: true for %v", a)
		}
		for i := range len(all) + 1 {
			if Right(slices.Insert(slices.Clone(all), i, a)) {
				t.Errorf("Right: true with %v at %d", a, i)
			}
		}
	}
}

// TestP1001RightTwice: a key is not there twice, whichever of two values comes first.
func TestP1001RightTwice(t *testing.T) {
	for _, l := range [][]api.Atom{
		{tag(1, "a", 2, 3, 1), tag(1, "a", 2, 3, 2)},
		{tag(1, "a", 2, 3, 2), tag(1, "a", 2, 3, 1)},
		{tag(1, "a", 2, 3, 1), tag(1, "a", 2, 3, 1)},
		{note(1, 256, "a"), note(1, 256, "b")},
		{tag(0, "a", 0, 1, 1), note(1, 256, "b"), note(1, 256, "a")},
	} {
		if Right(l) {
			t.Errorf("Right %v: true", l)
		}
	}
}

func TestP1001Norm(t *testing.T) {
	for _, c := range []struct{ row, want []api.Atom }{
		{nil, nil},
		{[]api.Atom{}, nil},
		{[]api.Atom{{}}, nil},
		{wrong(), nil},
		{ordered(), ordered()},
		{append(wrong(), ordered()...), ordered()},
		{append(ordered(), ordered()...), ordered()},
		{[]api.Atom{tag(1, "a", 2, 3, 1), tag(1, "a", 2, 3, 2)}, []api.Atom{tag(1, "a", 2, 3, 2)}},
		{[]api.Atom{tag(1, "a", 2, 3, 2), tag(1, "a", 2, 3, 1)}, []api.Atom{tag(1, "a", 2, 3, 2)}},
		{[]api.Atom{tag(1, "a", 2, 3, 1), tag(1, "a", 2, 3, 3)}, []api.Atom{tag(1, "a", 2, 3, 1)}},
		{[]api.Atom{half(api.Plus, 0, "a", 0, 1<<32), half(api.Plus, 0, "a", 0, 1<<32-1), half(api.Plus, 0, "a", 0, 5)}, []api.Atom{half(api.Plus, 0, "a", 0, 1<<32-1)}},
		{[]api.Atom{note(4, 256, "b"), note(4, 256, ""), note(4, 256, "a")}, []api.Atom{note(4, 256, "b")}},
		{[]api.Atom{note(4, 256, "z"), note(4, 257, ""), note(4, 272, "z")}, []api.Atom{note(4, 257, "")}},
		{[]api.Atom{note(0, 256, ""), half(api.Minus, 0, "a", 0, 1), half(api.Plus, 9, "a", 0, 1), tag(9, "z", 9, 9, 1)}, []api.Atom{tag(9, "z", 9, 9, 1), half(api.Plus, 9, "a", 0, 1), half(api.Minus, 0, "a", 0, 1), note(0, 256, "")}},
	} {
		checkState(t, "Norm", Norm(c.row), told(c.want))
		if got := visited(c.row); !slices.Equal(got, told(c.want)) {
			t.Errorf("Each %v: %q", c.row, got)
		}
	}
	backward := ordered()
	slices.Reverse(backward)
	checkState(t, "Norm", Norm(backward), told(ordered()))
}

// TestP1001Rows: all rows of up to 4 of a few atoms, and long ones without a pattern.
func TestP1001Rows(t *testing.T) {
	for _, l := range rows(few(), 4) {
		checkRow(t, l)
	}
	next := dice(1)
	for i := range 600 {
		l := mixed(next, i%80)
		checkRow(t, l)
		checkRow(t, Norm(l))
		checkState(t, "Norm, shuffled", Norm(shuffled(next, l)), lasts(images(l)))
	}
}

// TestP1001Invalid: an invalid atom has no effect on a state, wherever it stands.
func TestP1001Invalid(t *testing.T) {
	for _, a := range wrong() {
		for i := range len(ordered()) + 1 {
			l := slices.Insert(ordered(), i, a)
			checkState(t, "Norm", Norm(l), told(ordered()))
		}
	}
}

// TestP1001Many: states have no greatest length here; api's limits are for layers above.
func TestP1001Many(t *testing.T) {
	next := dice(2)
	for _, n := range []int{255, 256, api.MaxAtoms - 1, api.MaxAtoms, api.MaxAtoms + 1, 1<<16 + 1} {
		l := many(n)
		if !Right(l) {
			t.Errorf("Right: false for %d atoms", n)
		}
		checkState(t, "Norm", Norm(shuffled(next, append(many(n), many(n/2)...))), told(l))
		if got := Join(l[:n/2], l[n/3:]); !slices.Equal(got, l) {
			t.Errorf("Join: %d atoms, not %d", len(got), n)
		}
		if got := Meet(l, l[n/3:]); !slices.Equal(got, l[n/3:]) {
			t.Errorf("Meet: %d atoms, not %d", len(got), n-n/3)
		}
		if !Leq(l[n/3:], l) || Leq(l, l[1:]) || Leq(l, l[:n-1]) || !Same(shuffled(next, l), l) || Same(l, l[1:]) {
			t.Errorf("Leq or Same: wrong for %d atoms", n)
		}
		if v, ok := Find(l, l[n-1].K); v.N != api.There || !ok {
			t.Errorf("Find: %v, %v", v, ok)
		}
		l[n-1], l[n-2] = l[n-2], l[n-1]
		if Right(l) {
			t.Errorf("Right: true for %d atoms out of order at the end", n)
		}
	}
}

// TestP1001EachStopped: an iteration that is stopped yields nothing more, and the next one begins anew.
func TestP1001EachStopped(t *testing.T) {
	backward := ordered()
	slices.Reverse(backward)
	for _, l := range [][]api.Atom{ordered(), backward, append(wrong(), backward...)} {
		each := Each(l)
		for n := range ordered() {
			var got []api.Atom
			for k, v := range each {
				got = append(got, api.Atom{K: k, V: v})
				if len(got) == n+1 {
					break
				}
			}
			checkState(t, "Each, stopped", got, told(ordered()[:n+1]))
			calls := 0
			each(func(api.Key, api.Val) bool {
				calls++
				return calls <= n
			})
			if calls != n+1 {
				t.Errorf("Each, stopped at the call after %d: %d calls", n, calls)
			}
		}
	}
	for range Each(nil) {
		t.Error("Each yields an atom of no row")
	}
	for range Each(wrong()) {
		t.Error("Each yields an invalid atom")
	}
}

// TestP1001EachKept: an iterator tells of the row as it was when it was made, and two of them at once do not disturb each other.
func TestP1001EachKept(t *testing.T) {
	for _, l := range [][]api.Atom{ordered(), append(wrong(), ordered()...)} {
		want := lasts(images(l))
		each := Each(l)
		clear(l)
		var got []string
		for k, v := range each {
			got = append(got, image(api.Atom{K: k, V: v}))
			inner := 0
			for range each {
				inner++
			}
			if inner != len(want) {
				t.Fatalf("Each within Each: %d atoms", inner)
			}
		}
		if !slices.Equal(got, want) {
			t.Errorf("Each: %q, not %q", got, want)
		}
	}
}

// TestP1002Example: the chapter's example.
func TestP1002Example(t *testing.T) {
	there, gone := []api.Atom{tag(1, "a", 2, 3, api.There)}, []api.Atom{tag(1, "a", 2, 3, api.Gone)}
	checkState(t, "Join", Join(there, gone), told(gone))
	checkState(t, "Join", Join(gone, there), told(gone))
	checkState(t, "All", All(there, gone), told(gone))
	checkState(t, "Meet", Meet(there, gone), told(there))
	checkState(t, "Meet", Meet(gone, there), told(there))
}

func TestP1002JoinMeet(t *testing.T) {
	x, y, z := half(api.Plus, 1, "a", 0, 5), half(api.Plus, 2, "a", 0, 9), half(api.Plus, 3, "a", 0, 4)
	low := func(a api.Atom, n uint64) api.Atom {
		a.V.N = n
		return a
	}
	for _, c := range []struct{ a, b, join, meet []api.Atom }{
		{nil, nil, nil, nil},
		{nil, []api.Atom{x}, []api.Atom{x}, nil},
		{[]api.Atom{x}, nil, []api.Atom{x}, nil},
		{[]api.Atom{x}, []api.Atom{x}, []api.Atom{x}, []api.Atom{x}},
		{[]api.Atom{y}, []api.Atom{x}, []api.Atom{x, y}, nil},
		{[]api.Atom{x, low(z, 1)}, []api.Atom{z, low(x, 2), y, low(z, 3)}, []api.Atom{x, y, z}, []api.Atom{low(x, 2), low(z, 1)}},
		{[]api.Atom{low(x, 0)}, []api.Atom{x}, []api.Atom{x}, nil},
		{[]api.Atom{x}, []api.Atom{low(x, 1<<32)}, []api.Atom{x}, nil},
		{[]api.Atom{low(x, 1<<32), low(x, 3)}, []api.Atom{x}, []api.Atom{x}, []api.Atom{low(x, 3)}},
		{[]api.Atom{note(1, 256, "a")}, []api.Atom{note(1, 256, "b")}, []api.Atom{note(1, 256, "b")}, []api.Atom{note(1, 256, "a")}},
		{[]api.Atom{note(1, 256, "z")}, []api.Atom{note(1, 257, "")}, []api.Atom{note(1, 257, "")}, []api.Atom{note(1, 256, "z")}},
		{[]api.Atom{note(1, 256, "a")}, []api.Atom{note(2, 256, "a")}, []api.Atom{note(1, 256, "a"), note(2, 256, "a")}, nil},
		{wrong(), wrong(), nil, nil},
		{wrong(), ordered(), ordered(), nil},
		{ordered(), append(wrong(), ordered()...), ordered(), ordered()},
	} {
		checkState(t, "Join", Join(c.a, c.b), told(c.join))
		checkState(t, "Join", Join(c.b, c.a), told(c.join))
		checkState(t, "All", All(c.a, c.b), told(c.join))
		checkState(t, "Meet", Meet(c.a, c.b), told(c.meet))
		checkState(t, "Meet", Meet(c.b, c.a), told(c.meet))
	}
}

// TestP1002Pairs: all pairs of rows of up to 2 of a few atoms, and long ones without a pattern.
func TestP1002Pairs(t *testing.T) {
	all := rows(few(), 2)
	for _, a := range all {
		for _, b := range all {
			checkPair(t, a, b)
		}
	}
	next := dice(3)
	for i := range 2000 {
		a, b := mixed(next, i%50), mixed(next, i%70)
		checkPair(t, a, b)
		checkPair(t, Norm(a), Norm(b))
		checkPair(t, a, Join(a, b))
		checkPair(t, Meet(a, b), b)
		checkPair(t, a, shuffled(next, a))
	}
}

func TestP1002All(t *testing.T) {
	if got := All(); len(got) != 0 {
		t.Errorf("All of none: %v", got)
	}
	if got := All(nil, nil, []api.Atom{}); len(got) != 0 {
		t.Errorf("All of empty rows: %v", got)
	}
	var single [][]api.Atom
	for _, a := range ordered() {
		single = append(single, []api.Atom{a})
	}
	slices.Reverse(single)
	checkState(t, "All", All(single...), told(ordered()))
	next := dice(4)
	for n := range 200 {
		var l [][]api.Atom
		var folded []api.Atom
		for range n % 20 {
			row := mixed(next, n%15)
			l, folded = append(l, row), Join(folded, row)
		}
		want := lasts(images(l...))
		checkState(t, "All", All(l...), want)
		checkState(t, "Join, one by one", folded, want)
		slices.Reverse(l)
		checkState(t, "All, backward", All(l...), want)
	}
}

func TestP1003Leq(t *testing.T) {
	there, gone := tag(1, "a", 2, 3, api.There), tag(1, "a", 2, 3, api.Gone)
	for _, c := range []struct {
		a, b []api.Atom
		want bool
	}{
		{nil, nil, true},
		{nil, ordered(), true},
		{ordered(), nil, false},
		{ordered(), ordered(), true},
		{wrong(), nil, true},
		{ordered(), wrong(), false},
		{[]api.Atom{there}, []api.Atom{gone}, true},
		{[]api.Atom{gone}, []api.Atom{there}, false},
		{[]api.Atom{gone}, []api.Atom{there, gone}, true},
		{[]api.Atom{there, gone}, []api.Atom{gone, there}, true},
		{[]api.Atom{there}, []api.Atom{tag(1, "a", 2, 3, 3)}, false},
		{[]api.Atom{tag(1, "a", 2, 3, 3)}, []api.Atom{there}, true},
		{[]api.Atom{note(1, 256, "a")}, []api.Atom{note(1, 256, "b")}, true},
		{[]api.Atom{note(1, 256, "b")}, []api.Atom{note(1, 256, "a")}, false},
		{[]api.Atom{note(1, 256, "z")}, []api.Atom{note(1, 257, "")}, true},
		{[]api.Atom{note(1, 256, "")}, []api.Atom{note(2, 512, "")}, false},
		{[]api.Atom{half(api.Plus, 1, "a", 0, 1)}, []api.Atom{half(api.Minus, 1, "a", 0, 2)}, false},
		{[]api.Atom{half(api.Plus, 1, "a", 0, 1)}, []api.Atom{half(api.Plus, 1, "a", 1, 2)}, false},
	} {
		if got := Leq(c.a, c.b); got != c.want {
			t.Errorf("Leq %v, %v: %v", c.a, c.b, got)
		}
	}
	for i := range ordered() {
		less := slices.Delete(ordered(), i, i+1)
		if !Leq(less, ordered()) || Leq(ordered(), less) || Same(less, ordered()) || Same(ordered(), less) {
			t.Errorf("Leq or Same: wrong without the atom %d", i)
		}
	}
}

func TestP1003Same(t *testing.T) {
	there, gone := tag(1, "a", 2, 3, api.There), tag(1, "a", 2, 3, api.Gone)
	for _, c := range []struct {
		a, b []api.Atom
		want bool
	}{
		{nil, nil, true},
		{nil, []api.Atom{}, true},
		{nil, wrong(), true},
		{nil, []api.Atom{there}, false},
		{[]api.Atom{there}, nil, false},
		{[]api.Atom{there}, []api.Atom{there, there}, true},
		{[]api.Atom{there}, []api.Atom{gone}, false},
		{[]api.Atom{there, gone}, []api.Atom{gone}, true},
		{[]api.Atom{there, gone}, []api.Atom{there}, false},
		{[]api.Atom{note(1, 256, "a")}, []api.Atom{note(1, 256, "b")}, false},
		{[]api.Atom{note(1, 256, "a")}, []api.Atom{note(1, 256, "")}, false},
		{[]api.Atom{note(1, 256, "a"), there}, []api.Atom{there, note(1, 256, "a")}, true},
		{[]api.Atom{half(api.Plus, 1, "a", 0, 1)}, []api.Atom{half(api.Minus, 1, "a", 0, 1)}, false},
		{append(wrong(), ordered()...), ordered(), true},
	} {
		if got := Same(c.a, c.b); got != c.want {
			t.Errorf("Same %v, %v: %v", c.a, c.b, got)
		}
	}
}

func TestP1003Find(t *testing.T) {
	backward := ordered()
	slices.Reverse(backward)
	for _, l := range [][]api.Atom{ordered(), backward, append(wrong(), backward...)} {
		for _, a := range ordered() {
			if v, ok := Find(l, a.K); v != a.V || !ok {
				t.Errorf("Find %v: %v, %v", a, v, ok)
			}
			for _, k := range near(a.K) {
				checkFind(t, l, k)
			}
		}
		for _, a := range wrong() {
			checkFind(t, l, a.K)
		}
	}
	for _, a := range append(ordered(), wrong()...) {
		if v, ok := Find(nil, a.K); v != (api.Val{}) || ok {
			t.Errorf("Find %v in nothing: %v, %v", a.K, v, ok)
		}
		if v, ok := Find(wrong(), a.K); v != (api.Val{}) || ok {
			t.Errorf("Find %v among invalid atoms: %v, %v", a.K, v, ok)
		}
	}
}

// TestP1003FindOver: of several values of a key, the one over all others is found, wherever it stands.
func TestP1003FindOver(t *testing.T) {
	for _, c := range []struct {
		row  []api.Atom
		want api.Val
	}{
		{[]api.Atom{tag(1, "a", 2, 3, 1), tag(1, "a", 2, 3, 2), tag(1, "a", 2, 3, 1)}, api.Val{N: 2}},
		{[]api.Atom{tag(1, "a", 2, 3, 9), tag(1, "a", 2, 3, 1), tag(1, "a", 2, 3, 0)}, api.Val{N: 1}},
		{[]api.Atom{note(1, 256, "z"), note(1, 300, "z"), note(1, 258, "a"), note(1, 258, "b"), note(1, 257, "z")}, api.Val{N: 258, Text: padded("b")}},
		{[]api.Atom{half(api.Minus, 1, "a", 2, 1<<32), half(api.Minus, 1, "a", 2, 1<<32-1)}, api.Val{N: 1<<32 - 1}},
	} {
		if v, ok := Find(c.row, c.row[0].K); v != c.want || !ok {
			t.Errorf("Find in %v: %v, %v, not %v", c.row, v, ok, c.want)
		}
	}
}

// near are keys that differ from k in one field.
func near(k api.Key) []api.Key {
	l := []api.Key{k, k, k, k, k, k}
	l[0].Sort++
	l[1].Cart++
	l[2].Item[7]++
	l[3].Rep++
	l[4].Seq++
	l[5].Seq--
	return l
}

// states are all states with three keys, of each sort, and up to three values each.
func states() [][]api.Atom {
	all := [][]api.Atom{nil}
	for _, values := range [][]api.Atom{
		{tag(1, "a", 2, 3, api.There), tag(1, "a", 2, 3, api.Gone)},
		{half(api.Minus, 0, "b", 0, 1), half(api.Minus, 0, "b", 0, 1<<32-1)},
		{note(4, 256, ""), note(4, 256, "b"), note(4, 257, "a")},
	} {
		for _, s := range slices.Clone(all) {
			for _, a := range values {
				all = append(all, append(slices.Clone(s), a))
			}
		}
	}
	return all
}

// TestP1004Order: being below is a partial order.
func TestP1004Order(t *testing.T) {
	all := states()
	for i, a := range all {
		for j, b := range all {
			if (Leq(a, b) && Leq(b, a)) != (i == j) || Same(a, b) != (i == j) {
				t.Fatalf("%v and %v are below each other, or one not below itself", a, b)
			}
			for _, c := range all {
				if Leq(a, b) && Leq(b, c) && !Leq(a, c) {
					t.Fatalf("Leq %v, %v, %v is not transitive", a, b, c)
				}
			}
		}
	}
}

// TestP1004Bounds: Join is the least upper bound, and Meet the greatest lower bound; a state is below another one if and only if their join is the other one, and their meet the state itself.
func TestP1004Bounds(t *testing.T) {
	all := states()
	for _, a := range all {
		for _, b := range all {
			join, meet := Join(a, b), Meet(a, b)
			if !Right(join) || !Leq(a, join) || !Leq(b, join) {
				t.Fatalf("Join %v, %v: %v", a, b, join)
			}
			if !Right(meet) || !Leq(meet, a) || !Leq(meet, b) {
				t.Fatalf("Meet %v, %v: %v", a, b, meet)
			}
			if Same(join, b) != Leq(a, b) || Same(meet, a) != Leq(a, b) {
				t.Fatalf("Leq %v, %v: %v", a, b, Leq(a, b))
			}
			for _, c := range all {
				if (Leq(a, c) && Leq(b, c)) != Leq(join, c) {
					t.Fatalf("Join %v, %v: %v, and %v", a, b, join, c)
				}
				if (Leq(c, a) && Leq(c, b)) != Leq(c, meet) {
					t.Fatalf("Meet %v, %v: %v, and %v", a, b, meet, c)
				}
			}
		}
	}
}

// checkLaws holds three rows against the laws of Join, those of Meet, and those of both.
func checkLaws(t *testing.T, a, b, c []api.Atom) {
	t.Helper()
	for _, l := range []struct {
		what        string
		left, right []api.Atom
	}{
		{"Join is commutative", Join(a, b), Join(b, a)},
		{"Join is associative", Join(Join(a, b), c), Join(a, Join(b, c))},
		{"Join is idempotent", Join(a, a), Norm(a)},
		{"All is a join of joins", All(a, b, c), Join(Join(a, b), c)},
		{"Meet is commutative", Meet(a, b), Meet(b, a)},
		{"Meet is associative", Meet(Meet(a, b), c), Meet(a, Meet(b, c))},
		{"Meet is idempotent", Meet(a, a), Norm(a)},
		{"Join absorbs", Join(a, Meet(a, b)), Norm(a)},
		{"Meet absorbs", Meet(a, Join(a, b)), Norm(a)},
		{"Norm is idempotent", Norm(Norm(a)), Norm(a)},
	} {
		if !slices.Equal(l.left, l.right) || !Right(l.left) {
			t.Errorf("%s: %v, %v for %v, %v, %v", l.what, l.left, l.right, a, b, c)
		}
	}
}

func TestP1004Laws(t *testing.T) {
	all := states()
	for _, a := range all {
		for _, b := range all {
			for _, c := range all {
				checkLaws(t, a, b, c)
			}
		}
	}
	next := dice(5)
	for i := range 2000 {
		checkLaws(t, mixed(next, i%30), mixed(next, i%40), mixed(next, i%50))
	}
}

// TestP1004RowBounds: the bounds once more, of rows, and of what lies above and below both.
func TestP1004RowBounds(t *testing.T) {
	next := dice(6)
	for i := range 2000 {
		a, b, c := mixed(next, i%30), mixed(next, i%40), mixed(next, i%50)
		join, meet := Join(a, b), Meet(a, b)
		above, below := All(c, b, a), Meet(Meet(c, b), a)
		if !Leq(a, join) || !Leq(b, join) || !Leq(join, above) || !Leq(below, meet) || !Leq(meet, a) || !Leq(meet, b) {
			t.Fatalf("Join %v, Meet %v of %v and %v, with %v", join, meet, a, b, c)
		}
		if (Leq(a, c) && Leq(b, c)) != Leq(join, c) || (Leq(c, a) && Leq(c, b)) != Leq(c, meet) {
			t.Fatalf("Join %v, Meet %v of %v and %v, and %v", join, meet, a, b, c)
		}
	}
}

// TestArguments: arguments and their spare capacity stay as they are, and results are apart from them and from one another.
func TestArguments(t *testing.T) {
	next := dice(7)
	for i := range 300 {
		whole := mixed(next, i%60+3)
		if i%2 == 0 {
			whole = Norm(whole)
		}
		kept := slices.Clone(whole)
		// The row ends ahead of what lies behind it in memory.
		l := whole[:len(whole)*2/3]
		results := func() [][]api.Atom {
			return [][]api.Atom{Norm(l), Join(l, l), Join(l, nil), Join(nil, l), All(l), All(l, l, nil), Meet(l, l)}
		}
		got := results()
		Right(l)
		Leq(l, l)
		Same(l, l)
		for range Each(l) {
			Find(l, api.Key{})
		}
		if !slices.Equal(whole, kept) {
			t.Fatalf("the row %v has become %v", kept, whole)
		}
		for _, s := range got {
			clear(s[:cap(s)])
		}
		if !slices.Equal(whole, kept) {
			t.Fatal("a result shares memory with its row")
		}
		for _, s := range results() {
			checkState(t, "after results were changed", s, lasts(images(l)))
		}
	}
}

// TestRepeated: the order in which a map is visited is not to be seen.
func TestRepeated(t *testing.T) {
	next := dice(8)
	a, b := mixed(next, 200), mixed(next, 200)
	join, meet := Join(a, b), Meet(a, b)
	for range 100 {
		if !slices.Equal(Join(a, b), join) || !slices.Equal(Meet(a, b), meet) || !slices.Equal(visited(a), told(Norm(a))) {
			t.Fatal("a second call has another result")
		}
	}
	for i, a := range join {
		if i > 0 && !key.Less(join[i-1].K, a.K) {
			t.Errorf("Join: %v does not precede %v", join[i-1], a)
		}
	}
}

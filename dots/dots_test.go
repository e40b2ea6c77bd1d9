package dots

import (
	"math"
	"slices"
	"testing"

	"handcart/api"
	"handcart/atom"
	"handcart/vec"
)

// top is the greatest number of a dot.
const top = math.MaxUint32

// dice returns a function whose results have no pattern, but are the same in each run.
func dice(seed uint64) func() uint64 {
	x := 88172645463325252 + seed
	return func() uint64 {
		x ^= x << 13
		x ^= x >> 7
		x ^= x << 17
		return x
	}
}

// at returns the dot of a replica with a number, valid or not.
func at(rep, seq uint64) uint64 { return rep*(1<<32) + seq }

// list is a short form, as row is.
func list(l ...uint64) []uint64 { return l }

func row(l ...api.Atom) []api.Atom { return l }

// padded returns s in an api.Name.
func padded(s string) api.Name {
	var n api.Name
	copy(n[:], s)
	return n
}

func tag(cart uint16, item string, rep uint8, seq uint32, n uint64) api.Atom {
	return api.Atom{K: api.Key{Sort: api.Tag, Cart: cart, Item: padded(item), Rep: rep, Seq: seq}, V: api.Val{N: n}}
}

func half(sort uint8, cart uint16, item string, rep uint8, n uint64) api.Atom {
	return api.Atom{K: api.Key{Sort: sort, Cart: cart, Item: padded(item), Rep: rep}, V: api.Val{N: n}}
}

func note(cart uint16, stamp uint64, text string) api.Atom {
	return api.Atom{K: api.Key{Sort: api.Note, Cart: cart}, V: api.Val{N: stamp, Text: padded(text)}}
}

// full returns a vector of equal numbers.
func full(n uint32) vec.Vec {
	var v vec.Vec
	for i := range v {
		v[i] = n
	}
	return v
}

// invalid are dots that are not valid: without a number, with a replica beyond the bound, or with a bit above it.
func invalid() []uint64 {
	l := list(0, at(1, 0), at(15, 0), at(16, 0), at(16, 1), at(16, top), at(17, 1), at(31, 2), at(128, 1), at(255, 1), at(255, top))
	for b := 40; b < 64; b++ {
		l = append(l, 1<<b, 1<<b+1, 1<<b+at(3, 2), 1<<b+at(15, top))
	}
	return append(l, math.MaxUint64, math.MaxUint64-top, 1<<63+1<<32+1)
}

// isValid is the chapter's definition of a valid dot.
func isValid(dot uint64) bool {
	return dot/(1<<32)%256 < 16 && dot%(1<<32) != 0 && dot/(1<<40) == 0
}

// contains is the chapter's definition of what a set contains.
func contains(s Set, dot uint64) bool {
	if !isValid(dot) {
		return false
	}
	for _, x := range s.Cloud {
		if x == dot {
			return true
		}
	}
	return dot%(1<<32) <= uint64(s.Floor[dot/(1<<32)])
}

// isNormal is the chapter's definition of a normal form.
func isNormal(s Set) bool {
	for i, dot := range s.Cloud {
		if i+1 < len(s.Cloud) && s.Cloud[i+1] <= dot {
			return false
		}
		if !isValid(dot) || dot%(1<<32) < uint64(s.Floor[dot/(1<<32)])+2 {
			return false
		}
	}
	return true
}

// normal is another way to the normal form: floors rise until no dot is near them any more.
func normal(floor vec.Vec, l []uint64) Set {
	rises := true
	for rises {
		rises = false
		var rest []uint64
		for _, dot := range l {
			rep, seq := dot/(1<<32), dot%(1<<32)
			switch {
			case !isValid(dot) || seq <= uint64(floor[rep]):
			case seq == uint64(floor[rep])+1:
				floor[rep] = uint32(seq)
				rises = true
			default:
				rest = append(rest, dot)
			}
		}
		l = rest
	}
	slices.Sort(l)
	return Set{floor, slices.Compact(l)}
}

// equal reports whether two sets are equal field by field.
func equal(a, b Set) bool {
	return a.Floor == b.Floor && slices.Equal(a.Cloud, b.Cloud)
}

// probes are the dots at which one of the sets could change: those of their clouds and those at their floors, their neighbors, and invalid ones.
func probes(sets ...Set) []uint64 {
	l := append(invalid(), 1, 2, top, at(15, 1), at(15, top))
	for _, s := range sets {
		for _, dot := range s.Cloud {
			l = append(l, dot-1, dot, dot+1, dot^1<<32, dot^1<<40)
		}
		for rep, seq := range s.Floor {
			dot := at(uint64(rep), uint64(seq))
			l = append(l, dot-1, dot, dot+1, dot+2)
		}
	}
	return l
}

// listsOf calls visit with all lists of n of the elements of l.
func listsOf[T any](l []T, n int, visit func(l []T)) {
	chosen := make([]T, n)
	var choose func(i int)
	choose = func(i int) {
		if i == n {
			visit(chosen)
			return
		}
		for _, x := range l {
			chosen[i] = x
			choose(i + 1)
		}
	}
	choose(0)
}

// few are dots next to each other, at both bounds of numbers and of replicas, and beyond.
func few() []uint64 {
	return list(1, 2, 3, 4, at(0, top-1), at(0, top), at(1, 0), at(1, 1), at(1, 2), at(15, 1), at(16, 1), 1<<40+1)
}

// floors have numbers below, within and above those of few.
func floors() []vec.Vec {
	return []vec.Vec{{}, {1}, {2, 1}, {0, 5, 15: 3}, {top - 2}, {top - 1}, {top, top}, {15: top}, full(1), full(top)}
}

// sets are arbitrary ones: with all floors, and clouds in any order, with dots that occur twice, are not valid or are covered.
func sets() []Set {
	var all []Set
	clouds := [][]uint64{
		nil, {}, {1}, {2}, {3, 2}, {4, 2, 1}, {1, 2, 3, 4}, {3, 3}, {2, 2, 1, 1}, {5, 4, 2, at(1, 2), at(1, 1)},
		{at(0, top)}, {at(0, top), at(0, top-1)}, {at(0, top-2), at(0, top)}, {at(1, top), at(0, top)},
		{at(15, 1)}, {at(15, top), at(15, 2), 1}, {at(1, 3), at(1, 1), at(1, 7), at(1, 2)},
		{0}, {at(16, 1), 2, at(1, 0)}, {1<<40 + 2, 3}, {math.MaxUint64, 1, 1 << 63}, invalid(),
	}
	for _, f := range floors() {
		for _, c := range clouds {
			all = append(all, Set{f, c})
		}
	}
	return all
}

// anyDot is a dot without a pattern, seldom a great or an invalid one.
func anyDot(next func() uint64) uint64 {
	switch next() % 12 {
	case 0:
		return next() >> (next() % 64)
	case 1:
		return at(next()%16, top-next()%4)
	case 2:
		return at(next()%20, next()%3)
	default:
		return at(next()%3*7, next()%12)
	}
}

// anyDots is a list of n dots, some of which follow others or are equal to them.
func anyDots(next func() uint64, n int) []uint64 {
	var l []uint64
	for i := range n {
		dot := anyDot(next)
		if i > 0 && next()%3 == 0 {
			dot = l[next()%uint64(i)] + next()%2
		}
		l = append(l, dot)
	}
	return l
}

// anySet is a set without a pattern, with n dots in its cloud.
func anySet(next func() uint64, n int) Set {
	s := Set{Cloud: anyDots(next, n)}
	for rep := range s.Floor {
		switch next() % 6 {
		case 0:
			s.Floor[rep] = uint32(next() % 8)
		case 1:
			s.Floor[rep] = uint32(next() >> (32 + next()%32))
		case 2:
			s.Floor[rep] = top - uint32(next()%3)
		}
	}
	return s
}

func TestP1301Of(t *testing.T) {
	for _, c := range []struct {
		l    []uint64
		want Set
	}{
		{nil, Set{}},
		{list(), Set{}},
		{list(0), Set{}},
		{invalid(), Set{}},
		{list(1), Set{Floor: vec.Vec{1}}},
		{list(2), Set{Cloud: list(2)}},
		{list(1, 2, 4), Set{vec.Vec{2}, list(4)}},
		{list(4, 2, 1), Set{vec.Vec{2}, list(4)}},
		{list(3, 2), Set{Cloud: list(2, 3)}},
		{list(3, 1, 2), Set{Floor: vec.Vec{3}}},
		{list(1, 1, 1), Set{Floor: vec.Vec{1}}},
		{list(2, 2), Set{Cloud: list(2)}},
		{list(1, 1, 3, 3), Set{vec.Vec{1}, list(3)}},
		{list(4, 1, 2, at(1, 3), 4, 0, at(99, 0)), Set{vec.Vec{2}, list(4, at(1, 3))}},
		{list(at(1, 1), 1), Set{Floor: vec.Vec{1, 1}}},
		{list(at(1, 2), 1), Set{vec.Vec{1}, list(at(1, 2))}},
		{list(at(15, 1)), Set{Floor: vec.Vec{15: 1}}},
		{list(at(15, top)), Set{Cloud: list(at(15, top))}},
		{list(at(15, top), at(15, 1)), Set{vec.Vec{15: 1}, list(at(15, top))}},
		{list(at(16, 1)), Set{}},
		{list(at(0, top), at(1, 1)), Set{vec.Vec{1: 1}, list(at(0, top))}},
		{list(at(0, top), at(1, 0), at(1, 1), at(1, 2)), Set{vec.Vec{1: 2}, list(at(0, top))}},
		{list(at(2, 9), at(1, 9), at(0, 9)), Set{Cloud: list(at(0, 9), at(1, 9), at(2, 9))}},
		{list(at(0, 1<<31), at(0, 1<<31-1)), Set{Cloud: list(1<<31-1, 1<<31)}},
		{list(at(0, top), at(0, 1)), Set{vec.Vec{1}, list(top)}},
		{list(1<<40+1, 1), Set{Floor: vec.Vec{1}}},
		{list(1, 1<<40+2, 1<<63+2, 3), Set{vec.Vec{1}, list(3)}},
	} {
		if got := Of(c.l); !equal(got, c.want) {
			t.Errorf("Of %x: %v, not %v", c.l, got, c.want)
		}
		if got := normal(vec.Vec{}, c.l); !equal(got, c.want) {
			t.Errorf("the second reading of Of %x: %v, not %v", c.l, got, c.want)
		}
	}
}

// TestP1301OfInvalid: each bit that no valid dot has, and each replica, alone.
func TestP1301OfInvalid(t *testing.T) {
	for _, dot := range invalid() {
		if isValid(dot) || !equal(Of(list(dot)), Set{}) || !equal(Of(list(dot, 1, dot)), Set{Floor: vec.Vec{1}}) {
			t.Errorf("the dot %x is taken for a valid one", dot)
		}
	}
	for rep := range uint64(256) {
		for _, seq := range list(0, 1, 2, 1<<31, top-1, top) {
			want := Set{}
			switch {
			case rep > 15 || seq == 0:
			case seq == 1:
				want.Floor[rep] = 1
			default:
				want.Cloud = list(at(rep, seq))
			}
			if got := Of(list(at(rep, seq))); !equal(got, want) {
				t.Errorf("Of the dot %d of replica %d: %v", seq, rep, got)
			}
		}
	}
}

func TestP1301Add(t *testing.T) {
	for _, c := range []struct {
		s    Set
		l    []uint64
		want Set
	}{
		{Set{}, nil, Set{}},
		{Set{}, list(1), Set{Floor: vec.Vec{1}}},
		{Set{vec.Vec{2}, list(4)}, list(3), Set{Floor: vec.Vec{4}}},
		{Set{vec.Vec{2}, list(4)}, list(5), Set{vec.Vec{2}, list(4, 5)}},
		{Set{vec.Vec{2}, list(4)}, list(1, 2, 4), Set{vec.Vec{2}, list(4)}},
		{Set{vec.Vec{2}, list(4)}, list(6, 5, 3), Set{Floor: vec.Vec{6}}},
		{Set{vec.Vec{2}, list(4)}, invalid(), Set{vec.Vec{2}, list(4)}},
		{Set{vec.Vec{2}, list(4)}, list(at(1, 1)), Set{vec.Vec{2, 1}, list(4)}},
		{Set{vec.Vec{2}, list(3)}, nil, Set{Floor: vec.Vec{3}}},
		{Set{vec.Vec{2}, list(1, 2)}, nil, Set{Floor: vec.Vec{2}}},
		{Set{vec.Vec{2}, list(5, 4, 5)}, nil, Set{vec.Vec{2}, list(4, 5)}},
		{Set{vec.Vec{2}, invalid()}, nil, Set{Floor: vec.Vec{2}}},
		{Set{vec.Vec{2}, list(at(16, 1), at(1, 0), 4)}, list(3), Set{Floor: vec.Vec{4}}},
		{Set{Cloud: list(2, 1)}, nil, Set{Floor: vec.Vec{2}}},
		{Set{Floor: vec.Vec{top - 2}}, list(at(0, top)), Set{vec.Vec{top - 2}, list(top)}},
		{Set{Floor: vec.Vec{top - 2}}, list(at(0, top), at(0, top-1)), Set{Floor: vec.Vec{top}}},
		{Set{Floor: vec.Vec{top - 1}}, list(at(0, top)), Set{Floor: vec.Vec{top}}},
		{Set{Floor: vec.Vec{top}}, list(1, at(0, top), at(1, 0)), Set{Floor: vec.Vec{top}}},
		{Set{Floor: vec.Vec{top}}, list(at(1, 1)), Set{Floor: vec.Vec{top, 1}}},
		{Set{Floor: vec.Vec{top}}, list(at(1, 2)), Set{vec.Vec{top}, list(at(1, 2))}},
		{Set{full(top), list(1, at(15, top))}, list(at(3, 3)), Set{Floor: full(top)}},
		{Set{Floor: vec.Vec{1<<31 - 1}}, list(1<<31, 1<<31+2), Set{vec.Vec{1 << 31}, list(1<<31 + 2)}},
		{Set{vec.Vec{15: 7}, list(at(15, 9))}, list(at(14, 8), at(15, 8)), Set{vec.Vec{15: 9}, list(at(14, 8))}},
	} {
		if got := Add(c.s, c.l...); !equal(got, c.want) {
			t.Errorf("Add %v, %x: %v, not %v", c.s, c.l, got, c.want)
		}
		if got := normal(c.s.Floor, slices.Concat(c.s.Cloud, c.l)); !equal(got, c.want) {
			t.Errorf("the second reading of Add %v, %x: %v, not %v", c.s, c.l, got, c.want)
		}
	}
}

// checkAdd holds the result of Add against another way to the normal form, and against the chapter's definitions, taken literally.
func checkAdd(t *testing.T, s Set, l []uint64) {
	t.Helper()
	got := Add(s, l...)
	if want := normal(s.Floor, slices.Concat(s.Cloud, l)); !equal(got, want) {
		t.Fatalf("Add %v, %x: %v, not %v", s, l, got, want)
	}
	if !Right(got) || !isNormal(got) {
		t.Fatalf("Add %v, %x: %v is not in normal form", s, l, got)
	}
	for _, dot := range probes(s, Set{Cloud: l}) {
		if want := contains(s, dot) || isValid(dot) && slices.Contains(l, dot); contains(got, dot) != want {
			t.Fatalf("Add %v, %x: %v, wrong at %x", s, l, got, dot)
		}
	}
}

func TestP1301Lists(t *testing.T) {
	check := func(l []uint64) {
		t.Helper()
		if got, want := Of(l), normal(vec.Vec{}, l); !equal(got, want) {
			t.Fatalf("Of %x: %v, not %v", l, got, want)
		}
	}
	for n := range 5 {
		listsOf(few(), n, check)
	}
	for n := range 7 {
		listsOf(list(1, 2, 3, 4, 6), n, check)
	}
	for n := range 3 {
		listsOf(few(), n, func(l []uint64) {
			for _, f := range floors() {
				checkAdd(t, Set{Floor: f}, l)
				checkAdd(t, Set{f, l}, nil)
			}
		})
	}
	next := dice(1)
	for i := range 2000 {
		l := anyDots(next, i%60)
		check(l)
		checkAdd(t, Set{}, l)
		checkAdd(t, anySet(next, i%30), l)
	}
}

// TestP1301AddSets: arbitrary sets, with all pairs of the dots of few.
func TestP1301AddSets(t *testing.T) {
	for _, s := range sets() {
		for n := range 3 {
			listsOf(few(), n, func(l []uint64) { checkAdd(t, s, l) })
		}
	}
}

func TestP1301Right(t *testing.T) {
	for _, c := range []struct {
		s    Set
		want bool
	}{
		{Set{}, true},
		{Set{Cloud: list()}, true},
		{Set{Floor: full(top)}, true},
		{Set{Floor: vec.Vec{3, 9}}, true},
		{Set{Cloud: list(1)}, false},
		{Set{Cloud: list(2)}, true},
		{Set{Cloud: list(0)}, false},
		{Set{Cloud: list(2, 3)}, true},
		{Set{Cloud: list(3, 2)}, false},
		{Set{Cloud: list(2, 2)}, false},
		{Set{Cloud: list(2, 4, 3)}, false},
		{Set{Cloud: list(2, 4, 4)}, false},
		{Set{Cloud: list(2, 3, 1)}, false},
		{Set{vec.Vec{2}, list(4)}, true},
		{Set{vec.Vec{2}, list(3)}, false},
		{Set{vec.Vec{2}, list(2)}, false},
		{Set{vec.Vec{2}, list(1)}, false},
		{Set{vec.Vec{2}, list(4, 5, at(1, 2))}, true},
		{Set{vec.Vec{2}, list(4, 5, at(1, 1))}, false},
		{Set{vec.Vec{2, 1}, list(4, at(1, 2))}, false},
		{Set{vec.Vec{2, 1}, list(4, at(1, 3))}, true},
		{Set{vec.Vec{9, 1}, list(at(1, 3))}, true},
		{Set{vec.Vec{1, 9}, list(at(1, 3))}, false},
		{Set{vec.Vec{1, 9}, list(3)}, true},
		{Set{Cloud: list(at(1, 2), 2)}, false},
		{Set{vec.Vec{top - 2}, list(at(0, top))}, true},
		{Set{vec.Vec{top - 1}, list(at(0, top))}, false},
		{Set{vec.Vec{top}, list(at(0, top))}, false},
		{Set{vec.Vec{top}, list(1)}, false},
		{Set{vec.Vec{top - 1}, list(2)}, false},
		{Set{vec.Vec{top}, list(2, 3)}, false},
		{Set{vec.Vec{top}, list(at(1, 2))}, true},
		{Set{vec.Vec{15: 1<<31 - 1}, list(at(15, 1<<31))}, false},
		{Set{vec.Vec{15: 1<<31 - 1}, list(at(15, 1<<31+1))}, true},
		{Set{Cloud: list(at(15, 2), at(15, top))}, true},
		{Set{Cloud: list(at(15, 2), at(16, 2))}, false},
		{Set{Cloud: list(at(16, 2))}, false},
		{Set{Cloud: list(2, at(1, 0))}, false},
		{Set{Cloud: list(2, 1<<40+3)}, false},
	} {
		if got := Right(c.s); got != c.want {
			t.Errorf("Right %v: %v", c.s, got)
		}
		if isNormal(c.s) != c.want {
			t.Errorf("the second reading of Right %v: %v", c.s, isNormal(c.s))
		}
	}
	for _, dot := range invalid() {
		if Right(Set{Cloud: list(dot)}) {
			t.Errorf("Right: the cloud has the dot %x", dot)
		}
	}
}

// checkRight holds the result of Right against the chapter's definition, taken literally, and against what Add makes of the set.
func checkRight(t *testing.T, s Set) {
	t.Helper()
	if got := Right(s); got != isNormal(s) || got != equal(Add(s), s) {
		t.Fatalf("Right %v: %v; normalized: %v", s, got, Add(s))
	}
}

func TestP1301RightSets(t *testing.T) {
	for _, s := range sets() {
		checkRight(t, s)
	}
	for _, f := range floors() {
		for n := range 4 {
			listsOf(few(), n, func(l []uint64) { checkRight(t, Set{f, l}) })
		}
	}
	next := dice(2)
	for i := range 2000 {
		s := anySet(next, i%20)
		checkRight(t, s)
		// A set without a pattern is seldom in normal form, or nearly: these are.
		s = normal(s.Floor, s.Cloud)
		checkRight(t, s)
		if len(s.Cloud) > 0 {
			s.Cloud[next()%uint64(len(s.Cloud))] += next()%5 - 2
			checkRight(t, s)
			s.Floor[next()%api.MaxReps] = uint32(next() % 8)
			checkRight(t, s)
		}
	}
}

func TestP1302Has(t *testing.T) {
	s := Set{vec.Vec{2, top, 15: 5}, list(4, at(15, 7), at(2, 1), 0, at(16, 1), at(3, 0), 1<<40+9)}
	for _, c := range []struct {
		dot  uint64
		want bool
	}{
		{0, false}, {1, true}, {2, true}, {3, false}, {4, true}, {5, false}, {9, false}, {at(0, top), false},
		{at(1, 0), false}, {at(1, 1), true}, {at(1, top-1), true}, {at(1, top), true},
		{at(2, 0), false}, {at(2, 1), true}, {at(2, 2), false}, {at(3, 0), false}, {at(3, 1), false},
		{at(15, 5), true}, {at(15, 6), false}, {at(15, 7), true}, {at(15, 8), false}, {at(16, 0), false},
		{at(16, 1), false}, {at(17, 1), false}, {at(255, 1), false}, {1<<40 + 1, false}, {1<<40 + 4, false}, {1<<40 + 9, false}, {1<<63 + 1, false}, {math.MaxUint64, false},
	} {
		if got := Has(s, c.dot); got != c.want {
			t.Errorf("Has %v, %x: %v", s, c.dot, got)
		}
		if contains(s, c.dot) != c.want {
			t.Errorf("the second reading of Has %v, %x: %v", s, c.dot, contains(s, c.dot))
		}
	}
	for _, dot := range invalid() {
		if Has(Set{}, dot) || Has(Set{Floor: full(top)}, dot) || Has(Set{full(top), invalid()}, dot) || Has(Set{Cloud: list(dot)}, dot) {
			t.Errorf("Has the dot %x", dot)
		}
	}
	if Has(Set{}, 1) || !Has(Set{Floor: full(top)}, at(15, top)) || !Has(Set{Cloud: list(3, 2, 1)}, 2) {
		t.Error("Has: the least or the greatest set")
	}
}

func TestP1302Count(t *testing.T) {
	for _, c := range []struct {
		s    Set
		want uint64
	}{
		{Set{}, 0},
		{Set{Cloud: list()}, 0},
		{Set{Cloud: list(1)}, 1},
		{Set{Cloud: list(2)}, 1},
		{Set{Cloud: list(2, 2, 2)}, 1},
		{Set{vec.Vec{2}, list(4, at(1, 3))}, 4},
		{Set{vec.Vec{2}, list(1, 2, 3, 3, 4, 0)}, 4},
		{Set{vec.Vec{2, 3, 15: 4}, nil}, 9},
		{Set{vec.Vec{2, 3, 15: 4}, list(at(15, 4), at(15, 6), at(16, 1))}, 10},
		{Set{Cloud: invalid()}, 0},
		{Set{vec.Vec{7}, invalid()}, 7},
		{Set{vec.Vec{top}, nil}, top},
		{Set{vec.Vec{top - 1}, list(at(0, top), at(0, top))}, top},
		{Set{vec.Vec{top, 1}, nil}, 1 << 32},
		{Set{vec.Vec{top}, list(5, at(1, 5))}, 1 << 32},
		{Set{full(top), nil}, 16 * top},
		{Set{full(top), append(invalid(), 1, at(15, top))}, 16 * top},
		{Set{full(1 << 31), list(at(15, top))}, 16<<31 + 1},
	} {
		if got := Count(c.s); got != c.want {
			t.Errorf("Count %v: %d, not %d", c.s, got, c.want)
		}
	}
}

// checkCount holds the result of Count against the sum of the numbers of all floors and of the other dots, each of them once.
func checkCount(t *testing.T, s Set) {
	t.Helper()
	var want uint64
	for _, seq := range s.Floor {
		want += uint64(seq)
	}
	for i, dot := range s.Cloud {
		if isValid(dot) && !contains(Set{Floor: s.Floor}, dot) && !slices.Contains(s.Cloud[:i], dot) {
			want++
		}
	}
	if got := Count(s); got != want || Count(Add(s)) != want {
		t.Fatalf("Count %v: %d, not %d", s, got, want)
	}
}

func TestP1302Sets(t *testing.T) {
	check := func(s Set) {
		t.Helper()
		checkCount(t, s)
		for _, dot := range probes(s) {
			if Has(s, dot) != contains(s, dot) {
				t.Fatalf("Has %v, %x: %v", s, dot, Has(s, dot))
			}
		}
	}
	for _, s := range sets() {
		check(s)
	}
	for _, f := range floors() {
		for n := range 4 {
			listsOf(few(), n, func(l []uint64) { checkCount(t, Set{f, l}) })
		}
	}
	next := dice(3)
	for i := range 3000 {
		check(anySet(next, i%40))
	}
}

func TestP1302Same(t *testing.T) {
	for _, c := range []struct {
		a, b Set
		want bool
	}{
		{Set{}, Set{}, true},
		{Set{}, Set{Cloud: list()}, true},
		{Set{}, Set{Cloud: invalid()}, true},
		{Set{}, Set{Cloud: list(1)}, false},
		{Set{}, Set{Floor: vec.Vec{15: 1}}, false},
		{Set{Cloud: list(2, 1)}, Set{Floor: vec.Vec{2}}, true},
		{Set{Cloud: list(3, 1)}, Set{Floor: vec.Vec{2}}, false},
		{Set{Cloud: list(3, 1)}, Set{vec.Vec{1}, list(3)}, true},
		{Set{Cloud: list(2, 3)}, Set{Cloud: list(3, 2, 2, 3)}, true},
		{Set{Cloud: list(2, 3)}, Set{Cloud: list(2, 4)}, false},
		{Set{Cloud: list(2, 3)}, Set{Cloud: list(2)}, false},
		{Set{Cloud: list(2)}, Set{Cloud: list(at(1, 2))}, false},
		{Set{vec.Vec{2}, list(4)}, Set{vec.Vec{2}, list(5)}, false},
		{Set{vec.Vec{2}, list(4)}, Set{vec.Vec{1}, list(4)}, false},
		{Set{vec.Vec{2}, list(4)}, Set{vec.Vec{1}, list(4, 2)}, true},
		{Set{vec.Vec{2}, list(4)}, Set{vec.Vec{2}, list(4, 1, 0, at(16, 1))}, true},
		{Set{vec.Vec{2}, list(1<<40 + 4)}, Set{vec.Vec{2}, list(4)}, false},
		{Set{vec.Vec{1, 2}, nil}, Set{vec.Vec{2, 1}, nil}, false},
		{Set{vec.Vec{top - 1}, list(at(0, top))}, Set{vec.Vec{top}, nil}, true},
		{Set{vec.Vec{top - 2}, list(at(0, top))}, Set{vec.Vec{top}, nil}, false},
		{Set{full(top), list(1)}, Set{full(top), list(at(15, top))}, true},
		{Set{Cloud: list(at(15, 1))}, Set{Floor: vec.Vec{15: 1}}, true},
	} {
		if Same(c.a, c.b) != c.want || Same(c.b, c.a) != c.want {
			t.Errorf("Same %v, %v: %v, and %v", c.a, c.b, Same(c.a, c.b), Same(c.b, c.a))
		}
	}
}

// checkPair holds what is told of two sets against the chapter's definitions, taken literally.
func checkPair(t *testing.T, a, b Set) {
	t.Helper()
	same := true
	join := Join(a, b)
	for _, dot := range probes(a, b) {
		in, other := contains(a, dot), contains(b, dot)
		same = same && in == other
		if contains(join, dot) != (in || other) {
			t.Fatalf("Join %v, %v: %v, wrong at %x", a, b, join, dot)
		}
	}
	if !isNormal(join) {
		t.Fatalf("Join %v, %v: %v is not in normal form", a, b, join)
	}
	if got := Same(a, b); got != same {
		t.Fatalf("Same %v, %v: %v", a, b, got)
	}
	var less []uint64
	for _, dot := range normal(a.Floor, slices.Clone(a.Cloud)).Cloud {
		if !contains(b, dot) {
			less = append(less, dot)
		}
	}
	if got := Less(a, b); !slices.Equal(got, less) {
		t.Fatalf("Less %v, %v: %x, not %x", a, b, got, less)
	}
}

func TestP1303Join(t *testing.T) {
	for _, c := range []struct{ a, b, want Set }{
		{Set{}, Set{}, Set{}},
		{Set{}, Set{vec.Vec{2}, list(4)}, Set{vec.Vec{2}, list(4)}},
		{Set{}, Set{vec.Vec{2}, list(3)}, Set{Floor: vec.Vec{3}}},
		{Set{vec.Vec{2}, list(4, at(1, 3))}, Set{vec.Vec{1, 2}, list(3)}, Set{Floor: vec.Vec{4, 3}}},
		{Set{vec.Vec{2}, list(4)}, Set{vec.Vec{3}, nil}, Set{Floor: vec.Vec{4}}},
		{Set{vec.Vec{2}, list(4)}, Set{vec.Vec{9}, nil}, Set{Floor: vec.Vec{9}}},
		{Set{vec.Vec{2}, list(4)}, Set{vec.Vec{2}, list(4)}, Set{vec.Vec{2}, list(4)}},
		{Set{vec.Vec{2}, list(4)}, Set{vec.Vec{2}, list(6)}, Set{vec.Vec{2}, list(4, 6)}},
		{Set{vec.Vec{2}, list(4, 7)}, Set{vec.Vec{2}, list(5, 6)}, Set{vec.Vec{2}, list(4, 5, 6, 7)}},
		{Set{vec.Vec{2}, list(4)}, Set{vec.Vec{15: 1}, list(at(15, 3))}, Set{vec.Vec{2, 15: 1}, list(4, at(15, 3))}},
		{Set{Cloud: list(3, 2)}, Set{Cloud: list(1)}, Set{Floor: vec.Vec{3}}},
		{Set{Cloud: list(2, 4)}, Set{Cloud: list(3)}, Set{Cloud: list(2, 3, 4)}},
		{Set{Cloud: invalid()}, Set{Cloud: invalid()}, Set{}},
		{Set{vec.Vec{top - 2}, nil}, Set{Cloud: list(at(0, top), at(0, top-1))}, Set{Floor: vec.Vec{top}}},
		{Set{vec.Vec{top}, nil}, Set{Cloud: list(at(1, 1), at(1, 0), 1)}, Set{Floor: vec.Vec{top, 1}}},
		{Set{full(top), nil}, Set{full(3), list(5)}, Set{Floor: full(top)}},
	} {
		if got, back := Join(c.a, c.b), Join(c.b, c.a); !equal(got, c.want) || !equal(back, c.want) {
			t.Errorf("Join %v, %v: %v, and %v, not %v", c.a, c.b, got, back, c.want)
		}
	}
}

func TestP1303Less(t *testing.T) {
	for _, c := range []struct {
		a, b Set
		want []uint64
	}{
		{Set{}, Set{}, nil},
		{Set{Floor: full(top)}, Set{}, nil},
		{Set{Floor: vec.Vec{2}}, Set{Cloud: list(1)}, nil},
		{Set{vec.Vec{2}, list(4)}, Set{}, list(4)},
		{Set{}, Set{vec.Vec{2}, list(4)}, nil},
		{Set{vec.Vec{2}, list(4, at(1, 3))}, Set{vec.Vec{1, 2}, list(3)}, list(4, at(1, 3))},
		{Set{vec.Vec{1, 2}, list(3)}, Set{vec.Vec{2}, list(4, at(1, 3))}, list(3)},
		{Set{vec.Vec{2}, list(4)}, Set{Cloud: list(4)}, nil},
		{Set{vec.Vec{2}, list(4)}, Set{Floor: vec.Vec{3}}, list(4)},
		{Set{vec.Vec{2}, list(4)}, Set{Floor: vec.Vec{4}}, nil},
		{Set{vec.Vec{2}, list(4)}, Set{vec.Vec{3}, list(4)}, nil},
		{Set{vec.Vec{2}, list(4)}, Set{vec.Vec{9}, list(4)}, nil},
		{Set{vec.Vec{2}, list(4)}, Set{vec.Vec{1: 9}, list(at(1, 4))}, list(4)},
		{Set{vec.Vec{2}, list(3)}, Set{}, nil},
		{Set{vec.Vec{2}, list(3, 5)}, Set{}, list(5)},
		{Set{Cloud: list(2, 1)}, Set{}, nil},
		{Set{Cloud: list(4, 3, 4, 3)}, Set{}, list(3, 4)},
		{Set{Cloud: list(at(1, 4), 9, at(1, 3))}, Set{Cloud: list(at(1, 3))}, list(9, at(1, 4))},
		{Set{Cloud: invalid()}, Set{}, nil},
		{Set{Cloud: append(invalid(), 5)}, Set{Cloud: invalid()}, list(5)},
		{Set{Cloud: list(5)}, Set{Cloud: list(1<<40+5, at(16, 5))}, list(5)},
		{Set{vec.Vec{top - 2}, list(at(0, top))}, Set{Floor: vec.Vec{top - 1}}, list(top)},
		{Set{vec.Vec{top - 2}, list(at(0, top))}, Set{Floor: vec.Vec{top}}, nil},
		{Set{Cloud: list(at(15, top), at(15, 2), at(0, 2))}, Set{Floor: vec.Vec{15: top - 1}}, list(2, at(15, top))},
	} {
		if got := Less(c.a, c.b); !slices.Equal(got, c.want) {
			t.Errorf("Less %v, %v: %x, not %x", c.a, c.b, got, c.want)
		}
	}
}

func TestP1303Pairs(t *testing.T) {
	all := sets()
	for _, a := range all {
		for _, b := range all {
			checkPair(t, a, b)
		}
	}
	next := dice(4)
	for i := range 4000 {
		a, b := anySet(next, i%25), anySet(next, i%23)
		checkPair(t, a, b)
		// Sets without a pattern have few dots in common: these have most.
		b.Floor, b.Cloud = a.Floor, append(b.Cloud, a.Cloud...)
		checkPair(t, a, b)
		checkPair(t, b, Join(a, b))
		checkPair(t, a, Add(a))
	}
}

func TestP1303Seen(t *testing.T) {
	other := row(half(api.Plus, 0, "a", 0, 1), half(api.Minus, 65535, "zzzzzzzz", 15, top), note(0, 256, ""), note(9, 1<<40-241, "a"))
	for _, c := range []struct {
		l    []api.Atom
		want Set
	}{
		{nil, Set{}},
		{row(), Set{}},
		{other, Set{}},
		{row(tag(0, "a", 0, 1, api.There)), Set{Floor: vec.Vec{1}}},
		{row(tag(0, "a", 0, 1, api.Gone)), Set{Floor: vec.Vec{1}}},
		{row(tag(0, "a", 0, 2, api.There)), Set{Cloud: list(2)}},
		{row(tag(0, "a", 0, 2, api.There), tag(9, "b", 0, 1, api.Gone)), Set{Floor: vec.Vec{2}}},
		{row(tag(1, "b", 0, 1, api.There), tag(0, "a", 0, 1, api.There)), Set{Floor: vec.Vec{1}}},
		{row(tag(1, "b", 0, 3, api.There), tag(0, "a", 0, 3, api.Gone), tag(1, "b", 0, 3, api.Gone)), Set{Cloud: list(3)}},
		{row(tag(0, "a", 0, 4, api.There), tag(0, "a", 0, 1, api.There), tag(0, "b", 0, 2, api.Gone)), Set{vec.Vec{2}, list(4)}},
		{row(tag(0, "a", 15, top, api.There), tag(0, "a", 15, 1, api.There)), Set{vec.Vec{15: 1}, list(at(15, top))}},
		{row(tag(0, "b", 3, 2, api.There), tag(0, "a", 4, 2, api.There), tag(0, "c", 2, 2, api.There)), Set{Cloud: list(at(2, 2), at(3, 2), at(4, 2))}},
		{row(tag(0, "a", 16, 1, api.There), tag(0, "a", 0, 0, api.There), tag(0, "A", 0, 1, api.There), tag(0, "", 0, 1, api.There)), Set{}},
		{row(tag(0, "a", 0, 1, 0), tag(0, "a", 0, 2, 3), tag(0, "a", 1, 1, math.MaxUint64), api.Atom{}), Set{}},
		{row(tag(0, "a", 0, 1, 3), tag(0, "a", 0, 2, api.There)), Set{Cloud: list(2)}},
		{append(other, tag(0, "a", 7, 1, api.There)), Set{Floor: vec.Vec{7: 1}}},
		{row(api.Atom{K: api.Key{Sort: api.Plus, Item: padded("a"), Rep: 1, Seq: 1}, V: api.Val{N: 1}}, api.Atom{K: api.Key{Sort: 5, Item: padded("a"), Seq: 1}, V: api.Val{N: 1}}), Set{}},
	} {
		if got := Seen(c.l); !equal(got, c.want) {
			t.Errorf("Seen %v: %v, not %v", c.l, got, c.want)
		}
	}
}

// TestP1303SeenRows holds Seen against the dots of the valid tags of rows.
func TestP1303SeenRows(t *testing.T) {
	check := func(l []api.Atom) {
		t.Helper()
		var dots []uint64
		for _, a := range l {
			if a.K.Sort == 1 && atom.Right(a) {
				dots = append(dots, at(uint64(a.K.Rep), uint64(a.K.Seq)))
			}
		}
		if got, want := Seen(l), normal(vec.Vec{}, dots); !equal(got, want) {
			t.Fatalf("Seen %v: %v, not %v", l, got, want)
		}
	}
	some := row(
		tag(0, "a", 0, 1, api.There), tag(0, "a", 0, 1, api.Gone), tag(7, "b", 0, 2, api.There), tag(0, "a", 0, 3, api.Gone), tag(0, "a", 0, 3, 3),
		tag(0, "a", 1, 1, api.There), tag(0, "c", 15, 2, api.Gone), tag(0, "a", 16, 1, api.There), half(api.Plus, 0, "a", 2, 1), note(1, 257, "a"),
	)
	for n := range 5 {
		listsOf(some, n, check)
	}
	next := dice(5)
	for i := range 1000 {
		var l []api.Atom
		for range i % 60 {
			l = append(l, tag(uint16(next()%3), []string{"a", "b"}[next()%2], uint8(next()%17), uint32(next()%9), next()%4))
		}
		check(append(l, some[next()%10]))
	}
}

// within are all sets with a floor and an increasing cloud of one replica whose numbers are first to first + 5, and the floor below.
func within(rep, first uint64) []Set {
	var all []Set
	for floor := first - 1; floor < first+6; floor++ {
		for bits := range 1 << 6 {
			var s Set
			s.Floor[rep] = uint32(floor)
			for i := range uint64(6) {
				if bits>>i&1 == 1 {
					s.Cloud = append(s.Cloud, at(rep, first+i))
				}
			}
			all = append(all, s)
		}
	}
	return all
}

// TestP1304Unique: of all sets of six dots, with each floor, exactly one of those that contain the same dots is in normal form, and Of, Add and Join find it.
func TestP1304Unique(t *testing.T) {
	for _, c := range []struct{ rep, first uint64 }{{0, 1}, {15, 1}, {0, top - 5}, {15, top - 5}, {7, 1 << 31}} {
		forms := map[[6]bool]Set{}
		all := within(c.rep, c.first)
		dotsOf := func(s Set) (in [6]bool) {
			for i := range in {
				in[i] = Has(s, at(c.rep, c.first+uint64(i)))
			}
			return in
		}
		for _, s := range all {
			if !Right(s) {
				continue
			}
			if first, ok := forms[dotsOf(s)]; ok {
				t.Errorf("%v and %v contain the same dots, and both are right", first, s)
			}
			forms[dotsOf(s)] = s
		}
		if len(forms) != 1<<6 {
			t.Errorf("%d normal forms of sets of 6 dots", len(forms))
		}
		for _, s := range all {
			form := forms[dotsOf(s)]
			if !equal(Add(s), form) || !equal(Join(s, s), form) || c.first == 1 && !equal(Of(whole(s)), form) {
				t.Errorf("%v: the normal form is %v, not %v", s, Add(s), form)
			}
		}
	}
}

// whole are the dots of a set with small floors, one by one and in no order.
func whole(s Set) []uint64 {
	l := slices.Clone(s.Cloud)
	slices.Reverse(l)
	for rep, seq := range s.Floor {
		for n := range uint64(seq) {
			l = append(l, at(uint64(rep), n+1))
		}
	}
	return l
}

// TestP1304Pairs: two sets have equal normal forms if and only if they contain the same dots.
func TestP1304Pairs(t *testing.T) {
	all := sets()
	for _, a := range all {
		for _, b := range all {
			same := true
			for _, dot := range probes(a, b) {
				same = same && contains(a, dot) == contains(b, dot)
			}
			if equal(Add(a), Add(b)) != same {
				t.Fatalf("%v and %v: the normal forms are %v and %v", a, b, Add(a), Add(b))
			}
		}
	}
}

// TestP1304Join: Join contains exactly the dots that one of both contains, in all of the package's readings of them.
func TestP1304Join(t *testing.T) {
	check := func(a, b Set) {
		t.Helper()
		join := Join(a, b)
		for _, dot := range probes(a, b) {
			if Has(join, dot) != (Has(a, dot) || Has(b, dot)) {
				t.Fatalf("Join %v, %v: %v, wrong at %x", a, b, join, dot)
			}
		}
		if !Right(join) || !equal(join, Join(b, a)) || !equal(join, Join(join, a)) || !equal(join, Join(b, join)) || !equal(Join(a, a), Add(a)) {
			t.Fatalf("Join %v, %v: %v depends on the order or on repetition", a, b, join)
		}
		if len(Less(a, join)) > 0 || len(Less(b, join)) > 0 || Count(join) > Count(a)+Count(b) || Count(join) < max(Count(a), Count(b)) {
			t.Fatalf("Join %v, %v: %v lacks dots, or has too many", a, b, join)
		}
		if !equal(Add(a, b.Cloud...), Join(a, Set{Cloud: b.Cloud})) {
			t.Fatalf("Add and Join of %v and %v disagree", a, b)
		}
	}
	all := within(0, 1)
	for i, a := range all {
		for j, b := range all {
			if (i+j)%5 == 0 {
				check(a, b)
			}
		}
	}
	next := dice(6)
	for i := range 2000 {
		a, b, c := anySet(next, i%30), anySet(next, i%20), anySet(next, i%10)
		check(a, b)
		if !equal(Join(Join(a, b), c), Join(a, Join(b, c))) {
			t.Fatalf("the join of %v, %v and %v depends on the order", a, b, c)
		}
	}
}

// TestP1304Add: it does not matter which dots are added first, or whether they are added again.
func TestP1304Add(t *testing.T) {
	next := dice(7)
	for i := range 1000 {
		l := anyDots(next, i%40)
		want := Of(l)
		var one Set
		for _, dot := range l {
			one = Add(one, dot)
		}
		slices.Reverse(l)
		half := len(l) / 2
		if !equal(one, want) || !equal(Of(l), want) || !equal(Add(want, l...), want) || !equal(Join(Of(l[:half]), Of(l[half:])), want) {
			t.Fatalf("Of %x: %v depends on the order", l, want)
		}
	}
}

// TestP1301Example1: Of for the dots 1, 2, 4 of replica 0 has Floor 2 and the dot 4 in Cloud; after adding the dot 3, Floor is 4.
func TestP1301Example1(t *testing.T) {
	s := Of(list(1, 2, 4))
	if !equal(s, Set{vec.Vec{2}, list(4)}) {
		t.Errorf("Of: %v", s)
	}
	if got := Add(s, 3); !equal(got, Set{Floor: vec.Vec{4}}) {
		t.Errorf("Add: %v", got)
	}
}

// TestMany: lists, clouds and rows have no greatest length.
func TestMany(t *testing.T) {
	const n = 1<<16 + 1
	var every, odd, even []uint64
	var atoms []api.Atom
	for i := range uint64(n) {
		// 7919 has no factor in common with n or 2 n, so each dot occurs once.
		every = append(every, at(3, i*7919%n+1))
		odd = append(odd, at(3, 2*(i*7919%n)+1))
		even = append(even, at(3, 2*(i*7919%n)+2))
		atoms = append(atoms, tag(uint16(i%7), "cup", 3, uint32(i*7919%n+1), api.There))
	}
	if got := Of(every); !equal(got, Set{Floor: vec.Vec{3: n}}) {
		t.Errorf("Of %d dots: floor %d, %d dots in the cloud", n, got.Floor[3], len(got.Cloud))
	}
	if got := Seen(atoms); !equal(got, Set{Floor: vec.Vec{3: n}}) {
		t.Errorf("Seen %d tags: floor %d, %d dots in the cloud", n, got.Floor[3], len(got.Cloud))
	}
	a, b := Of(odd), Of(even)
	if a.Floor != (vec.Vec{3: 1}) || len(a.Cloud) != n-1 || b.Floor != (vec.Vec{}) || len(b.Cloud) != n || !Right(a) || !Right(b) {
		t.Errorf("Of %d odd or even dots: floors %d and %d", n, a.Floor[3], b.Floor[3])
	}
	if got := Join(a, b); !equal(got, Set{Floor: vec.Vec{3: 2 * n}}) {
		t.Errorf("Join of %d dots: floor %d, %d dots in the cloud", 2*n, got.Floor[3], len(got.Cloud))
	}
	if got := Less(a, b); !slices.Equal(got, a.Cloud) {
		t.Errorf("Less: %d dots", len(got))
	}
	if got := Less(b, Set{Cloud: even}); len(got) != 0 || !Same(b, Set{Cloud: even}) || Same(a, b) || Count(Set{Cloud: odd}) != n {
		t.Errorf("Less: %d dots; or Same, or Count", len(got))
	}
	if !equal(Add(b, odd...), Join(a, b)) || !Has(b, at(3, 2*n)) || Has(b, at(3, 2*n-1)) {
		t.Error("Add, or Has, of many dots")
	}
}

// TestArguments: arguments and their spare capacity stay as they are, and results are apart from them.
func TestArguments(t *testing.T) {
	next := dice(8)
	for i := range 300 {
		first, second := anyDots(next, i%40+3), anyDots(next, i%30+3)
		keptFirst, keptSecond := slices.Clone(first), slices.Clone(second)
		a, b := Set{vec.Vec{1, 2, 3}, first[:len(first)/2]}, Set{vec.Vec{3, 2, 1}, second[:len(second)/2]}
		for _, l := range [][]uint64{Of(a.Cloud).Cloud, Add(a, b.Cloud...).Cloud, Add(a).Cloud, Join(a, b).Cloud, Less(a, b), Join(a, Set{}).Cloud, Join(Set{}, b).Cloud} {
			clear(l[:cap(l)])
		}
		Right(a)
		Has(a, 1)
		Count(a)
		Same(a, b)
		if !slices.Equal(first, keptFirst) || !slices.Equal(second, keptSecond) || a.Floor != (vec.Vec{1, 2, 3}) || b.Floor != (vec.Vec{3, 2, 1}) {
			t.Fatalf("the sets with the clouds %x and %x have changed", keptFirst, keptSecond)
		}
	}
	// A set in normal form is not handed out either.
	s := Set{vec.Vec{2}, list(4, 6)}
	clear(Add(s).Cloud)
	clear(Join(s, s).Cloud)
	clear(Less(s, Set{}))
	if !equal(s, Set{vec.Vec{2}, list(4, 6)}) {
		t.Errorf("the set has changed to %v", s)
	}
	l := row(tag(0, "b", 0, 2, api.There), tag(0, "a", 0, 1, api.There))
	kept := slices.Clone(l)
	Seen(l[:1])
	if !slices.Equal(l, kept) {
		t.Errorf("the row has changed to %v", l)
	}
}

// TestRepeated: the order in which a map is visited is not to be seen.
func TestRepeated(t *testing.T) {
	next := dice(9)
	a, b := anySet(next, 60), anySet(next, 60)
	join, less, same, n := Join(a, b), Less(a, b), Same(a, b), Count(a)
	for range 100 {
		if !equal(Join(a, b), join) || !slices.Equal(Less(a, b), less) || Same(a, b) != same || Count(a) != n {
			t.Fatal("a second call has another result")
		}
	}
}

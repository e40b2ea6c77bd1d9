package vec

import (
	"maps"
	"math"
	"slices"
	"testing"

	"handcart/api"
	"handcart/atom"
	"handcart/lat"
)

// top is the greatest number of a vector.
const top = math.MaxUint32

// dice returns a function whose results have no pattern, but are the same in each run.
func dice(seed uint64) func() uint64 {
	x := 88172645463325252 + seed
	return func() uint64 {
		x ^= x << 13
		x ^= x >> 7
		x ^= x << 17
		return x
	}
}

// padded returns s in an api.Name.
func padded(s string) api.Name {
	var n api.Name
	copy(n[:], s)
	return n
}

func tag(cart uint16, item string, rep uint8, seq uint32, n uint64) api.Atom {
	return api.Atom{K: api.Key{Sort: api.Tag, Cart: cart, Item: padded(item), Rep: rep, Seq: seq}, V: api.Val{N: n}}
}

func half(sort uint8, cart uint16, item string, rep uint8, n uint64) api.Atom {
	return api.Atom{K: api.Key{Sort: sort, Cart: cart, Item: padded(item), Rep: rep}, V: api.Val{N: n}}
}

func note(cart uint16, stamp uint64, text string) api.Atom {
	return api.Atom{K: api.Key{Sort: api.Note, Cart: cart}, V: api.Val{N: stamp, Text: padded(text)}}
}

// numbered is an atom with another Seq.
func numbered(a api.Atom, seq uint32) api.Atom {
	a.K.Seq = seq
	return a
}

// texted is an atom with another Text.
func texted(a api.Atom, text string) api.Atom {
	a.V.Text = padded(text)
	return a
}

// row is a short form, as list is.
func row(l ...api.Atom) []api.Atom { return l }

func list(l ...Vec) []Vec { return l }

// others are valid atoms that are not tags.
func others() []api.Atom {
	return row(
		half(api.Plus, 0, "a", 0, 1), half(api.Plus, 9, "cup", 15, math.MaxUint32), half(api.Minus, 65535, "zzzzzzzz", 3, 7),
		note(0, 256, ""), note(1, 271, "a"), note(65535, 1<<40-241, "zzzzzzzz"),
	)
}

// wrong are atoms that are not valid, all with great numbers where keys of their sort have none, or with fields beyond a bound.
func wrong() []api.Atom {
	return row(
		tag(0, "a", 0, top, 0), tag(0, "a", 1, top, 3), tag(0, "a", 2, 9, math.MaxUint64),
		texted(tag(0, "a", 3, 9, api.There), "a"), texted(tag(0, "a", 3, 9, api.Gone), "A"),
		tag(0, "", 4, 9, api.There), tag(0, "A", 5, 9, api.There), tag(0, "9", 6, top, api.Gone), tag(0, "a\x00b", 7, 9, api.There),
		tag(0, "a", 16, 9, api.There), tag(0, "a", 17, 9, api.Gone), tag(0, "a", 255, top, api.There), tag(0, "a", 8, 0, api.There),
		numbered(half(api.Plus, 0, "a", 9, 1), 9), numbered(half(api.Minus, 0, "a", 10, 2), top), numbered(note(0, 256, ""), 9),
		api.Atom{}, numbered(api.Atom{}, 9),
		api.Atom{K: api.Key{Sort: 0, Item: padded("a"), Rep: 11, Seq: 9}, V: api.Val{N: 1}},
		api.Atom{K: api.Key{Sort: 5, Item: padded("a"), Rep: 12, Seq: 9}, V: api.Val{N: 1}},
		api.Atom{K: api.Key{Sort: 255, Item: padded("a"), Rep: 13, Seq: top}, V: api.Val{N: 1}},
	)
}

// of is the chapter's definition of Of: for each replica, the greatest Seq of its tags.
func of(l []api.Atom) Vec {
	var v Vec
	for rep := range v {
		for _, a := range l {
			if atom.Right(a) && a.K.Sort == 1 && int(a.K.Rep) == rep && a.K.Seq > v[rep] {
				v[rep] = a.K.Seq
			}
		}
	}
	return v
}

// below is the chapter's definition of being below.
func below(a, b Vec) bool {
	for i := range a {
		if a[i] > b[i] {
			return false
		}
	}
	return true
}

// peaks is the chapter's definition of Peaks.
func peaks(l []Vec) []int {
	var out []int
	for i, a := range l {
		if !slices.ContainsFunc(l, func(b Vec) bool { return below(a, b) && a != b }) {
			out = append(out, i)
		}
	}
	return out
}

// numbers are those at the bounds of numbers, of signed ones among them.
func numbers() []uint32 {
	return []uint32{0, 1, 2, 255, 256, 1<<31 - 1, 1 << 31, top - 1, top}
}

// at returns a vector of zeros with n at one place.
func at(place int, n uint32) Vec {
	var v Vec
	v[place] = n
	return v
}

// full returns a vector of equal numbers.
func full(n uint32) Vec {
	var v Vec
	for i := range v {
		v[i] = n
	}
	return v
}

// grid are the vectors with each of the numbers at the places, and zeros elsewhere.
func grid(numbers []uint32, places ...int) []Vec {
	all := []Vec{{}}
	for _, place := range places {
		var next []Vec
		for _, v := range all {
			for _, n := range numbers {
				v[place] = n
				next = append(next, v)
			}
		}
		all = next
	}
	return all
}

// vectors are those of a grid, those with one number at each place, and full ones with one exception.
func vectors() []Vec {
	l := grid([]uint32{0, 1, top}, 0, 7, 15)
	for place := range api.MaxReps {
		for _, n := range numbers() {
			l = append(l, at(place, n))
		}
		for _, n := range []uint32{0, 1, 6, 8, top} {
			v := full(7)
			v[place] = n
			l = append(l, v)
		}
	}
	return append(l, full(7), full(top))
}

// anyVec is a vector without a pattern, of numbers that are often equal.
func anyVec(next func() uint64) Vec {
	var v Vec
	most := next()%4 + 1
	for i := range v {
		v[i] = uint32(next() % most)
		if next()%8 == 0 {
			v[i] = uint32(next() >> (32 + next()%32))
		}
	}
	return v
}

// anyList is a list of n vectors, some of which are equal to others or related to them.
func anyList(next func() uint64, n int) []Vec {
	var l []Vec
	for i := range n {
		v := anyVec(next)
		if i > 0 {
			other := l[next()%uint64(i)]
			switch next() % 5 {
			case 0:
				v = other
			case 1:
				for j := range v {
					v[j] = max(v[j], other[j])
				}
			case 2:
				for j := range v {
					v[j] = min(v[j], other[j])
				}
			case 3:
				v = other
				v[next()%api.MaxReps]++
			}
		}
		l = append(l, v)
	}
	return l
}

// anyRow is a row of n atoms: tags with few keys, other atoms, and atoms that are not valid.
func anyRow(next func() uint64, n int) []api.Atom {
	rest := append(others(), wrong()...)
	var l []api.Atom
	for range n {
		a := tag(uint16(next()%3), []string{"a", "b", "cup"}[next()%3], uint8(next()%17), uint32(next()>>(32+next()%32)), next()%4)
		if next()%4 == 0 {
			a = rest[next()%uint64(len(rest))]
		}
		l = append(l, a)
	}
	return l
}

// listsOf calls visit with all lists of n of the elements of l.
func listsOf[T any](l []T, n int, visit func(l []T)) {
	chosen := make([]T, n)
	var choose func(i int)
	choose = func(i int) {
		if i == n {
			visit(chosen)
			return
		}
		for _, x := range l {
			chosen[i] = x
			choose(i + 1)
		}
	}
	choose(0)
}

func TestP1201Of(t *testing.T) {
	for _, c := range []struct {
		l    []api.Atom
		want Vec
	}{
		{nil, Vec{}},
		{row(), Vec{}},
		{others(), Vec{}},
		{wrong(), Vec{}},
		{row(tag(0, "a", 0, 1, api.There)), Vec{1}},
		{row(tag(0, "a", 0, 1, api.Gone)), Vec{1}},
		{row(tag(65535, "zzzzzzzz", 15, top, api.Gone)), Vec{15: top}},
		{row(tag(0, "a", 0, 1, api.There), tag(0, "a", 0, 2, api.Gone)), Vec{2}},
		{row(tag(0, "a", 0, 2, api.There), tag(0, "a", 0, 1, api.Gone)), Vec{2}},
		{row(tag(0, "a", 3, 9, api.There), tag(0, "b", 3, 4, api.There)), Vec{3: 9}},
		{row(tag(0, "a", 3, 4, api.There), tag(0, "b", 3, 9, api.There)), Vec{3: 9}},
		{row(tag(1, "a", 3, 9, api.There), tag(2, "a", 3, 4, api.There)), Vec{3: 9}},
		{row(tag(2, "a", 3, 9, api.Gone), tag(1, "a", 3, 4, api.There)), Vec{3: 9}},
		{row(tag(0, "a", 3, 9, api.There), tag(0, "a", 4, 5, api.There)), Vec{3: 9, 4: 5}},
		{row(tag(0, "a", 3, 5, api.There), tag(0, "a", 3, 5, api.Gone), tag(7, "b", 3, 5, api.There)), Vec{3: 5}},
		{row(tag(0, "a", 0, 1<<31-1, api.There), tag(0, "a", 0, 1<<31, api.There)), Vec{1 << 31}},
		{row(tag(0, "a", 0, top, api.There), tag(0, "b", 0, top-1, api.There)), Vec{top}},
		{row(tag(0, "a", 1, 2, api.There), tag(0, "a", 1, 3, 3), tag(0, "a", 1, 4, 0)), Vec{1: 2}},
		{row(tag(0, "a", 15, 2, api.There), tag(0, "a", 16, 3, api.There), tag(0, "a", 31, 4, api.There)), Vec{15: 2}},
		{row(tag(0, "a", 1, 2, api.There), texted(tag(0, "b", 1, 3, api.There), "b")), Vec{1: 2}},
		{row(tag(0, "a", 1, 2, api.There), numbered(half(api.Plus, 0, "a", 1, 1), 3)), Vec{1: 2}},
		{row(tag(0, "a", 1, 2, api.There), half(api.Plus, 0, "a", 1, 9), half(api.Minus, 0, "a", 2, 9), note(1, 256, "a")), Vec{1: 2}},
		{append(wrong(), tag(0, "a", 9, 8, api.There), tag(0, "a", 0, 1, api.There)), Vec{0: 1, 9: 8}},
	} {
		if got := Of(c.l); got != c.want {
			t.Errorf("Of %v: %v, not %v", c.l, got, c.want)
		}
		if of(c.l) != c.want {
			t.Errorf("the second reading of Of %v: %v, not %v", c.l, of(c.l), c.want)
		}
	}
}

// TestP1201OfPlaces: each replica has a number of its own, at its place.
func TestP1201OfPlaces(t *testing.T) {
	var whole []api.Atom
	var want Vec
	for rep := range api.MaxReps {
		for _, n := range numbers()[1:] {
			for _, v := range []uint64{api.There, api.Gone} {
				if got := Of(row(tag(5, "cup", uint8(rep), n, v))); got != at(rep, n) {
					t.Errorf("Of a tag %d of replica %d: %v", n, rep, got)
				}
			}
		}
		whole = append(whole, tag(5, "cup", uint8(rep), uint32(100+rep), api.There), tag(4, "cup", uint8(rep), uint32(50+rep), api.There))
		want[rep] = uint32(100 + rep)
	}
	if got := Of(whole); got != want {
		t.Errorf("Of tags of all replicas: %v", got)
	}
}

func TestP1201OfRows(t *testing.T) {
	few := row(
		tag(1, "a", 2, 3, api.There), tag(1, "a", 2, 3, api.Gone), tag(1, "a", 2, 9, 3), tag(0, "b", 2, 4, api.There), tag(1, "a", 3, 1, api.Gone),
		tag(1, "a", 16, 5, api.There), half(api.Plus, 1, "a", 2, 7), numbered(half(api.Minus, 1, "a", 2, 7), 7), note(1, 256, "a"),
	)
	for n := range 5 {
		listsOf(few, n, func(l []api.Atom) {
			if got := Of(l); got != of(l) {
				t.Fatalf("Of %v: %v, not %v", l, got, of(l))
			}
		})
	}
	next := dice(1)
	for i := range 2000 {
		l := anyRow(next, i%80)
		if got := Of(l); got != of(l) || got != Of(lat.Norm(l)) {
			t.Fatalf("Of %v: %v, not %v", l, got, of(l))
		}
	}
}

func TestP1201Bump(t *testing.T) {
	for _, c := range []struct {
		v    Vec
		rep  uint8
		want Vec
		err  api.Errno
	}{
		{Vec{}, 0, Vec{1}, api.OK},
		{Vec{}, 15, Vec{15: 1}, api.OK},
		{Vec{}, 16, Vec{}, api.ErrArg},
		{Vec{}, 255, Vec{}, api.ErrArg},
		{Vec{3, 1}, 1, Vec{3, 2}, api.OK},
		{Vec{3, 1}, 0, Vec{4, 1}, api.OK},
		{Vec{3, 1}, 2, Vec{3, 1, 1}, api.OK},
		{Vec{3, 1}, 16, Vec{}, api.ErrArg},
		{Vec{1<<31 - 1}, 0, Vec{1 << 31}, api.OK},
		{Vec{top - 1, 5}, 0, Vec{top, 5}, api.OK},
		{Vec{top, 5}, 0, Vec{}, api.ErrSaturated},
		{Vec{top, 5}, 1, Vec{top, 6}, api.OK},
		{Vec{top, 5}, 16, Vec{}, api.ErrArg},
		{full(top), 15, Vec{}, api.ErrSaturated},
		{full(top), 16, Vec{}, api.ErrArg},
		{full(top), 255, Vec{}, api.ErrArg},
	} {
		if got, e := Bump(c.v, c.rep); got != c.want || e != c.err {
			t.Errorf("Bump %v, %d: %v, %d, not %v, %d", c.v, c.rep, got, e, c.want, c.err)
		}
	}
}

// TestP1201BumpEach: all replicas, with all numbers at the bounds at their places.
func TestP1201BumpEach(t *testing.T) {
	for _, v := range vectors() {
		for rep := range 256 {
			want, err := v, api.OK
			switch {
			case rep > 15:
				want, err = Vec{}, api.ErrArg
			case v[rep] == top:
				want, err = Vec{}, api.ErrSaturated
			default:
				want[rep] = v[rep] + 1
			}
			if got, e := Bump(v, uint8(rep)); got != want || e != err {
				t.Fatalf("Bump %v, %d: %v, %d, not %v, %d", v, rep, got, e, want, err)
			}
		}
	}
}

func TestP1202Numbers(t *testing.T) {
	const text, first, second, third, fourth = "the results of Compare have other numbers", 0, 1, 2, 3
	if Equal != first || Before != second || After != third || Apart != fourth {
		t.Error(text)
	}
	// They are constants of no type, as the chapter declares them.
	var small [Apart]uint8
	small[0], small[1], small[2] = Before, After, Apart
	if small != [3]uint8{1, 2, 3} {
		t.Error(text)
	}
}

func TestP1202Cases(t *testing.T) {
	for _, c := range []struct {
		a, b, join, meet Vec
		want             int
	}{
		{Vec{}, Vec{}, Vec{}, Vec{}, Equal},
		{Vec{3, 1}, Vec{2, 4}, Vec{3, 4}, Vec{2, 1}, Apart},
		{Vec{1, 0}, Vec{0, 1}, Vec{1, 1}, Vec{}, Apart},
		{Vec{1, 0}, Vec{1, 1}, Vec{1, 1}, Vec{1, 0}, Before},
		{Vec{1, 2}, Vec{1, 2}, Vec{1, 2}, Vec{1, 2}, Equal},
		{Vec{1, 2}, Vec{2, 3}, Vec{2, 3}, Vec{1, 2}, Before},
		{Vec{}, Vec{15: 1}, Vec{15: 1}, Vec{}, Before},
		{Vec{5}, Vec{15: 1}, Vec{0: 5, 15: 1}, Vec{}, Apart},
		{Vec{1<<31 - 1}, Vec{1 << 31}, Vec{1 << 31}, Vec{1<<31 - 1}, Before},
		{Vec{1}, Vec{top}, Vec{top}, Vec{1}, Before},
		{Vec{top - 1}, Vec{top}, Vec{top}, Vec{top - 1}, Before},
		{full(top), full(top), full(top), full(top), Equal},
		{Vec{}, full(top), full(top), Vec{}, Before},
		{at(8, top), full(top), full(top), at(8, top), Before},
		{full(top), full(0), full(top), full(0), After},
		{Vec{0: 2, 15: 1}, Vec{0: 1, 15: 2}, Vec{0: 2, 15: 2}, Vec{0: 1, 15: 1}, Apart},
	} {
		back := []int{Equal, After, Before, Apart}[c.want]
		if Join(c.a, c.b) != c.join || Join(c.b, c.a) != c.join {
			t.Errorf("Join %v, %v: %v", c.a, c.b, Join(c.a, c.b))
		}
		if Meet(c.a, c.b) != c.meet || Meet(c.b, c.a) != c.meet {
			t.Errorf("Meet %v, %v: %v", c.a, c.b, Meet(c.a, c.b))
		}
		if Leq(c.a, c.b) != (c.want == Equal || c.want == Before) || Leq(c.b, c.a) != (c.want == Equal || c.want == After) {
			t.Errorf("Leq %v, %v: %v, and %v", c.a, c.b, Leq(c.a, c.b), Leq(c.b, c.a))
		}
		if Compare(c.a, c.b) != c.want || Compare(c.b, c.a) != back {
			t.Errorf("Compare %v, %v: %d, and %d", c.a, c.b, Compare(c.a, c.b), Compare(c.b, c.a))
		}
	}
}

// checkPair holds what is told of two vectors against the chapter's definitions, taken literally.
func checkPair(t *testing.T, a, b Vec) {
	t.Helper()
	join, meet := Join(a, b), Meet(a, b)
	for i := range a {
		greater, smaller := a[i], b[i]
		if b[i] > a[i] {
			greater, smaller = b[i], a[i]
		}
		if join[i] != greater || meet[i] != smaller {
			t.Fatalf("Join or Meet %v, %v: %v, %v", a, b, join, meet)
		}
	}
	if got := Leq(a, b); got != below(a, b) {
		t.Fatalf("Leq %v, %v: %v", a, b, got)
	}
	want := 3
	switch {
	case a == b:
		want = 0
	case below(a, b):
		want = 1
	case below(b, a):
		want = 2
	}
	if got := Compare(a, b); got != want {
		t.Fatalf("Compare %v, %v: %d, not %d", a, b, got, want)
	}
}

func TestP1202Pairs(t *testing.T) {
	all := vectors()
	for _, a := range all {
		for _, b := range all {
			checkPair(t, a, b)
		}
	}
	for _, x := range numbers() {
		for _, y := range numbers() {
			for place := range api.MaxReps {
				checkPair(t, at(place, x), at(place, y))
				checkPair(t, at(place, x), at((place+1)%api.MaxReps, y))
			}
		}
	}
	next := dice(2)
	for range 20000 {
		l := anyList(next, 2)
		checkPair(t, l[0], l[1])
	}
}

func TestP1203Count(t *testing.T) {
	a, b, c := Vec{3, 1}, Vec{2, 4}, Vec{15: top}
	for _, d := range []struct {
		l    []Vec
		want map[Vec]int
	}{
		{nil, map[Vec]int{}},
		{list(), map[Vec]int{}},
		{list(Vec{}), map[Vec]int{{}: 1}},
		{list(Vec{}, Vec{}), map[Vec]int{{}: 2}},
		{list(a, b, a), map[Vec]int{a: 2, b: 1}},
		{list(a, b, c), map[Vec]int{a: 1, b: 1, c: 1}},
		{list(c, c, Vec{}, c, a), map[Vec]int{a: 1, c: 3, {}: 1}},
		{list(Vec{1, 2}, Vec{2, 1}), map[Vec]int{{1, 2}: 1, {2, 1}: 1}},
		{list(full(top), Vec{15: top - 1}, c, full(top)), map[Vec]int{full(top): 2, {15: top - 1}: 1, c: 1}},
	} {
		if got := Count(d.l); !maps.Equal(got, d.want) {
			t.Errorf("Count %v: %v, not %v", d.l, got, d.want)
		}
	}
}

func TestP1203Peaks(t *testing.T) {
	a, b := Vec{3, 1}, Vec{2, 4}
	for _, c := range []struct {
		l    []Vec
		want []int
	}{
		{nil, nil},
		{list(), nil},
		{list(Vec{}), []int{0}},
		{list(Vec{}, Vec{}), []int{0, 1}},
		{list(a, Vec{2, 1}, b, a), []int{0, 2, 3}},
		{list(a, b), []int{0, 1}},
		{list(b, a), []int{0, 1}},
		{list(a, b, Vec{3, 4}), []int{2}},
		{list(Vec{3, 4}, b, a), []int{0}},
		{list(a, Vec{}, a, Vec{}), []int{0, 2}},
		{list(Vec{1}, Vec{2}, Vec{3}), []int{2}},
		{list(Vec{3}, Vec{2}, Vec{1}), []int{0}},
		{list(Vec{2}, Vec{3}, Vec{1}, Vec{3}), []int{1, 3}},
		{list(Vec{0, 0, 1}, Vec{0, 1}, Vec{1}), []int{0, 1, 2}},
		{list(Vec{1, 3}, Vec{2, 2}, Vec{3, 1}, Vec{2, 1}, Vec{1, 2}), []int{0, 1, 2}},
		{list(Vec{9}, Vec{0, 2}, Vec{0, 1}, Vec{9}), []int{0, 1, 3}},
		{list(Vec{0, 1}, Vec{9, 0}, Vec{0, 2}), []int{1, 2}},
		{list(Vec{15: 1}, Vec{15: 2}), []int{1}},
		{list(Vec{1 << 31}, Vec{1<<31 - 1}, Vec{1}), []int{0}},
		{list(full(top), Vec{}, full(top-1), full(top)), []int{0, 3}},
		{list(at(8, top), full(top-1), at(8, top-1)), []int{0, 1}},
	} {
		if got := Peaks(c.l); !slices.Equal(got, c.want) {
			t.Errorf("Peaks %v: %v, not %v", c.l, got, c.want)
		}
		if !slices.Equal(peaks(c.l), c.want) {
			t.Errorf("the second reading of Peaks %v: %v, not %v", c.l, peaks(c.l), c.want)
		}
	}
}

// checkList holds what is told of a list against the chapter's definitions, taken literally.
func checkList(t *testing.T, l []Vec) {
	t.Helper()
	count := Count(l)
	whole := 0
	for v, n := range count {
		occurs := 0
		for _, w := range l {
			if w == v {
				occurs++
			}
		}
		if n != occurs || n < 1 {
			t.Fatalf("Count %v: %d times %v", l, n, v)
		}
		whole += n
	}
	if whole != len(l) {
		t.Fatalf("Count %v: %v, %d in all", l, count, whole)
	}
	if got, want := Peaks(l), peaks(l); !slices.Equal(got, want) {
		t.Fatalf("Peaks %v: %v, not %v", l, got, want)
	}
}

func TestP1203Lists(t *testing.T) {
	check := func(l []Vec) {
		t.Helper()
		checkList(t, l)
	}
	nine := grid([]uint32{0, 1, top}, 3, 11)
	for n := range 5 {
		listsOf(nine, n, check)
	}
	listsOf(grid([]uint32{1, 2, 3}, 0, 1, 15), 3, check)
	next := dice(3)
	for i := range 2000 {
		check(anyList(next, i%50))
	}
	check(vectors())
}

// checkBounds holds vectors against the laws of bounds: c, if it is above a and b, is above their join, and if it is below both, it is below their meet.
func checkBounds(t *testing.T, a, b, c Vec) {
	t.Helper()
	join, meet := Join(a, b), Meet(a, b)
	if !Leq(a, join) || !Leq(b, join) || !Leq(meet, a) || !Leq(meet, b) {
		t.Fatalf("the join %v or the meet %v of %v and %v is not a bound", join, meet, a, b)
	}
	if Leq(a, c) && Leq(b, c) && !Leq(join, c) {
		t.Fatalf("the join %v of %v and %v is not below %v", join, a, b, c)
	}
	if Leq(c, a) && Leq(c, b) && !Leq(c, meet) {
		t.Fatalf("the meet %v of %v and %v is not above %v", meet, a, b, c)
	}
	if Join(join, c) != Join(a, Join(b, c)) || Meet(meet, c) != Meet(a, Meet(b, c)) || join != Join(b, a) || meet != Meet(b, a) {
		t.Fatalf("the joins or meets of %v, %v and %v depend on their order", a, b, c)
	}
	if Leq(a, b) != (join == b) || Leq(a, b) != (meet == a) || Join(a, meet) != a || Meet(a, join) != a {
		t.Fatalf("Leq, Join and Meet of %v and %v disagree", a, b)
	}
}

func TestP1204Bounds(t *testing.T) {
	listsOf(grid([]uint32{0, 1, top}, 0, 7, 15), 3, func(l []Vec) { checkBounds(t, l[0], l[1], l[2]) })
	next := dice(4)
	for range 5000 {
		l := anyList(next, 3)
		checkBounds(t, l[0], l[1], l[2])
		// A bound without a pattern is seldom one: these are.
		checkBounds(t, l[0], l[1], Join(l[2], Join(l[0], l[1])))
		checkBounds(t, l[0], l[1], Meet(l[2], Meet(l[0], l[1])))
	}
}

// TestP1204Order: being below is a partial order.
func TestP1204Order(t *testing.T) {
	listsOf(grid([]uint32{0, 1, top}, 2, 3, 4), 3, func(l []Vec) {
		a, b, c := l[0], l[1], l[2]
		if !Leq(a, a) || Leq(a, b) && Leq(b, a) && a != b || Leq(a, b) && Leq(b, c) && !Leq(a, c) {
			t.Fatalf("%v, %v and %v are not ordered", a, b, c)
		}
	})
}

// TestP1204States: the vector of a join of states is the join of their vectors.
func TestP1204States(t *testing.T) {
	check := func(a, b []api.Atom) {
		t.Helper()
		if got, want := Of(lat.Join(a, b)), Join(Of(a), Of(b)); got != want {
			t.Fatalf("the vector of the join of %v and %v: %v, not %v", a, b, got, want)
		}
		if lat.Leq(a, b) && !Leq(Of(a), Of(b)) {
			t.Fatalf("the vector of %v is not below that of %v", a, b)
		}
	}
	few := row(
		tag(1, "a", 2, 3, api.There), tag(1, "a", 2, 3, api.Gone), tag(0, "b", 2, 4, api.There), tag(1, "a", 3, 1, api.Gone),
		tag(1, "a", 2, 9, 3), half(api.Plus, 1, "a", 2, 7),
	)
	for m := range 3 {
		listsOf(few, m, func(a []api.Atom) {
			for n := range 3 {
				listsOf(few, n, func(b []api.Atom) { check(a, b) })
			}
		})
	}
	next := dice(5)
	for i := range 1000 {
		check(anyRow(next, i%40), anyRow(next, i%30))
	}
}

// TestP1204Bump: a vector is before the result of Bump, which is the next one with another number of the replica.
func TestP1204Bump(t *testing.T) {
	check := func(v Vec) {
		t.Helper()
		for rep := range uint8(api.MaxReps) {
			w, e := Bump(v, rep)
			if e != api.OK {
				continue
			}
			if Compare(v, w) != Before || Compare(w, v) != After || Join(v, w) != w || Meet(v, w) != v {
				t.Fatalf("Bump %v, %d: %v is not after it", v, rep, w)
			}
			if !slices.Equal(Peaks(list(v, w, v)), []int{1}) {
				t.Fatalf("Peaks of %v, and the result of Bump twice: %v", v, Peaks(list(v, w, v)))
			}
		}
	}
	for _, v := range vectors() {
		check(v)
	}
	next := dice(6)
	for range 1000 {
		check(anyVec(next))
	}
}

// TestP1202Example1: the vectors 1, 0 and 0, 1 are Apart; the first one is Before their join.
func TestP1202Example1(t *testing.T) {
	a, b := Vec{1, 0}, Vec{0, 1}
	if Compare(a, b) != Apart || Compare(a, Join(a, b)) != Before {
		t.Errorf("Compare: %d, and %d", Compare(a, b), Compare(a, Join(a, b)))
	}
}

// TestMany: lists and rows have no greatest length.
func TestMany(t *testing.T) {
	const n = 1<<16 + 1
	var atoms []api.Atom
	var rising []Vec
	var want Vec
	for i := range n {
		rep, seq := i%api.MaxReps, uint32(n-i)
		atoms = append(atoms, tag(uint16(i/api.MaxReps), "cup", uint8(rep), seq, api.There))
		want[rep] = max(want[rep], seq)
		rising = append(rising, at(3, uint32(i/2)))
	}
	if got := Of(atoms); got != want {
		t.Errorf("Of %d atoms: %v, not %v", n, got, want)
	}
	slices.Reverse(atoms)
	if got := Of(atoms); got != want {
		t.Errorf("Of %d atoms in reverse: %v, not %v", n, got, want)
	}
	if got := Peaks(rising); !slices.Equal(got, []int{n - 1}) {
		t.Errorf("Peaks of %d rising vectors: %v", n, got)
	}
	if got := Count(rising); len(got) != n/2+1 || got[at(3, 0)] != 2 || got[at(3, n/2)] != 1 {
		t.Errorf("Count of %d rising vectors: %d", n, len(got))
	}
	slices.Reverse(rising)
	if got := Peaks(rising[1:]); !slices.Equal(got, []int{0, 1}) {
		t.Errorf("Peaks of %d falling vectors: %v", n-1, got)
	}
}

// TestManyApart: no two of these vectors are related, but for equal ones.
func TestManyApart(t *testing.T) {
	const n = 2000
	var l []Vec
	var all []int
	for i := range uint32(n) {
		l = append(l, Vec{i, n - i}, Vec{i, n - i})
		all = append(all, int(2*i), int(2*i)+1)
	}
	if got := Peaks(l); !slices.Equal(got, all) {
		t.Errorf("Peaks of %d vectors: %d", len(l), len(got))
	}
	low := append(list(Vec{0, n - 1}), l...)
	if got := Peaks(low); len(got) != len(l) || got[0] != 1 {
		t.Errorf("Peaks of %d vectors: %d", len(low), len(got))
	}
}

// TestArguments: arguments and their spare capacity stay as they are, and results are apart from them.
func TestArguments(t *testing.T) {
	next := dice(7)
	for i := range 300 {
		wholeList, wholeRow := anyList(next, i%40+3), anyRow(next, i%40+3)
		keptList, keptRow := slices.Clone(wholeList), slices.Clone(wholeRow)
		l, r := wholeList[:len(wholeList)/2], wholeRow[:len(wholeRow)/2]
		found, count := Peaks(l), Count(l)
		Of(r)
		clear(found[:cap(found)])
		clear(count)
		if !slices.Equal(wholeList, keptList) || !slices.Equal(wholeRow, keptRow) {
			t.Fatalf("the list %v or the row %v has changed", keptList, keptRow)
		}
	}
	v := Vec{3, 1}
	if w, _ := Bump(v, 1); v != (Vec{3, 1}) || w != (Vec{3, 2}) {
		t.Errorf("Bump has changed %v", v)
	}
}

// TestRepeated: the order in which a map is visited is not to be seen.
func TestRepeated(t *testing.T) {
	next := dice(8)
	l, r := anyList(next, 60), anyRow(next, 100)
	found, count, v := Peaks(l), Count(l), Of(r)
	for range 100 {
		if !slices.Equal(Peaks(l), found) || !maps.Equal(Count(l), count) || Of(r) != v {
			t.Fatal("a second call has another result")
		}
	}
}

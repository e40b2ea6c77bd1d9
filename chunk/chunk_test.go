package chunk

import (
	"math"
	"slices"
	"testing"

	"handcart/api"
	"handcart/atom"
	"handcart/lat"
)

// dice returns a function whose results have no pattern, but are the same in each run.
func dice(seed uint64) func() uint64 {
	x := 88172645463325252 + seed
	return func() uint64 {
		x ^= x << 13
		x ^= x >> 7
		x ^= x << 17
		return x
	}
}

// padded returns s in an api.Name.
func padded(s string) api.Name {
	var n api.Name
	copy(n[:], s)
	return n
}

func tag(cart uint16, item string, rep uint8, seq uint32, n uint64) api.Atom {
	return api.Atom{K: api.Key{Sort: 1, Cart: cart, Item: padded(item), Rep: rep, Seq: seq}, V: api.Val{N: n}}
}

func half(sort uint8, cart uint16, item string, rep uint8, n uint64) api.Atom {
	return api.Atom{K: api.Key{Sort: sort, Cart: cart, Item: padded(item), Rep: rep}, V: api.Val{N: n}}
}

func note(cart uint16, stamp uint64, text string) api.Atom {
	return api.Atom{K: api.Key{Sort: 4, Cart: cart}, V: api.Val{N: stamp, Text: padded(text)}}
}

// row is a short form.
func row(l ...api.Atom) []api.Atom { return l }

// few are valid atoms of all sorts with few keys, so that rows of them often have a key twice.
func few() []api.Atom {
	return row(
		tag(1, "a", 2, 3, 1), tag(1, "a", 2, 3, 2), tag(1, "a", 2, 4, 1),
		half(2, 0, "b", 0, 1), half(2, 0, "b", 0, 9), half(3, 0, "b", 0, 9),
		note(4, 256, ""), note(4, 256, "b"), note(4, 257, "a"), note(65535, 1<<40-241, "zzzzzzzz"),
	)
}

// wrong are atoms that are not valid.
func wrong() []api.Atom {
	owned := note(1, 256, "")
	owned.K.Rep = 1
	return row(
		api.Atom{}, owned, tag(1, "a", 2, 3, 0), tag(1, "a", 2, 3, 3), tag(1, "a", 2, 0, 1), tag(1, "", 2, 3, 1), tag(1, "a", 16, 3, 1),
		half(2, 0, "b", 0, 0), half(2, 0, "b", 0, 1<<32), half(5, 0, "b", 0, 1), half(3, 0, "9", 0, 1),
		note(4, 255, ""), note(4, 272, ""), note(4, 256, "A"), note(4, 1<<40, ""),
	)
}

// anyRow has n atoms without a pattern, with few or with many keys, some of which are invalid.
func anyRow(next func() uint64, n int) []api.Atom {
	known, bad := few(), wrong()
	var l []api.Atom
	for range n {
		x := next()
		c, item, rep := uint16(x>>8), string(rune('a'+x>>24%26)), uint8(x>>32%16)
		switch x % 8 {
		case 0:
			l = append(l, known[x>>8%uint64(len(known))])
		case 1:
			l = append(l, bad[x>>8%uint64(len(bad))])
		case 2, 3:
			l = append(l, tag(c, item, rep, uint32(next())|1, x>>60%2+1))
		case 4:
			l = append(l, half(2, c, item, rep, next()>>32|1))
		case 5:
			l = append(l, half(3, c, item, rep, next()>>40|1))
		case 6:
			l = append(l, note(c%9, atom.Stamp(uint32(x>>40)|1, rep), item))
		default:
			l = append(l, note(c, atom.Stamp(uint32(x>>40)|1, rep), ""))
		}
	}
	return l
}

func shuffled(next func() uint64, l []api.Atom) []api.Atom {
	l = slices.Clone(l)
	for i := range l {
		j := int(next() % uint64(i+1))
		l[i], l[j] = l[j], l[i]
	}
	return l
}

// sizes are those of the atoms of a row's state, in its order, counted in what is written of them.
func sizes(s []api.Atom) []int {
	var l []int
	for _, a := range lat.Norm(s) {
		l = append(l, len(atom.Bytes(a)))
	}
	return l
}

func sum(l []int) int {
	total := 0
	for _, n := range l {
		total += n
	}
	return total
}

// tooBig reports whether one of the sizes is above the budget.
func tooBig(l []int, budget int) bool {
	return slices.ContainsFunc(l, func(n int) bool { return n > budget })
}

// lengths are those of the pieces that the chapter asks for: each takes the most of the next sizes that come to at most budget.
func lengths(l []int, budget int) []int {
	var all []int
	for len(l) > 0 {
		n := len(l)
		for sum(l[:n]) > budget {
			n--
		}
		all = append(all, n)
		l = l[n:]
	}
	return all
}

// fewest returns the least number of pieces of at most budget bytes into which the sizes can be split in order, if none of them is above it: the last piece may be any that fits, with the fewest pieces ahead of it.
func fewest(l []int, budget int) int {
	best := []int{0}
	for end := 1; end <= len(l); end++ {
		most := end
		for start := end; start > 0 && sum(l[start-1:end]) <= budget; start-- {
			most = min(most, best[start-1]+1)
		}
		best = append(best, most)
	}
	return best[len(l)]
}

// checkCut holds Cut against the chapter, and its laws.
func checkCut(t *testing.T, s []api.Atom, budget int) {
	t.Helper()
	state, all := lat.Norm(s), sizes(s)
	pieces, e := Cut(s, budget)
	if tooBig(all, budget) || budget < 0 {
		if e != api.ErrBudget || pieces != nil {
			t.Fatalf("Cut(%v, %d) = %v, %d", s, budget, pieces, e)
		}
		return
	}
	if e != api.OK {
		t.Fatalf("Cut(%v, %d): error %d", s, budget, e)
	}
	var got []int
	for _, piece := range pieces {
		got = append(got, len(piece))
	}
	if want := lengths(all, budget); !slices.Equal(got, want) {
		t.Fatalf("Cut(%v, %d) has pieces of %d atoms, not %d", s, budget, got, want)
	}
	if !slices.Equal(slices.Concat(pieces...), state) {
		t.Fatalf("Cut(%v, %d) = %v", s, budget, pieces)
	}
	if !slices.Equal(lat.All(pieces...), state) || !Fits(pieces, budget) {
		t.Fatalf("Cut(%v, %d) = %v: their join is %v, and Fits is %v", s, budget, pieces, lat.All(pieces...), Fits(pieces, budget))
	}
	if want := fewest(all, budget); len(pieces) != want {
		t.Fatalf("Cut(%v, %d) = %v: it could be %d pieces", s, budget, pieces, want)
	}
}

// checkRow holds Least, Bytes and Fits of a row against the chapter, and Cut with the budgets at which its result may change.
func checkRow(t *testing.T, s []api.Atom) {
	t.Helper()
	all := sizes(s)
	least, total := slices.Max(append(all, 0)), sum(all)
	if got := Least(s); got != least {
		t.Fatalf("Least(%v) = %d, not %d", s, got, least)
	}
	if got := Bytes(s); got != total {
		t.Fatalf("Bytes(%v) = %d, not %d", s, got, total)
	}
	for _, budget := range []int{math.MinInt, -1, 0, least - 1, least, least + 1, 2*least - 1, 2 * least, total / 2, total - 1, total, total + 1, math.MaxInt} {
		checkCut(t, s, budget)
		if got, want := Fits([][]api.Atom{s}, budget), total <= budget; got != want {
			t.Fatalf("Fits([%v], %d) = %v", s, budget, got)
		}
		if _, e := Cut(s, budget); (e == api.OK) != (budget >= Least(s)) {
			t.Fatalf("Cut(%v, %d): error %d, and Least is %d", s, budget, e, Least(s))
		}
	}
}

// long is a valid atom with the greatest size.
func long() api.Atom {
	return tag(65535, "zzzzzzzz", 15, math.MaxUint32, 2)
}

// steps are five tags, of which two have 7 bytes and the others 8.
func steps() []api.Atom {
	return row(tag(1, "a", 0, 60, 1), tag(1, "a", 0, 120, 1), tag(1, "a", 0, 180, 1), tag(1, "a", 0, 240, 1), tag(1, "a", 0, 300, 1))
}

// TestP2101Example1: three atoms of 7 bytes.
func TestP2101Example1(t *testing.T) {
	a, b, c := tag(1, "a", 0, 1, 1), tag(1, "a", 0, 2, 1), tag(1, "a", 0, 3, 1)
	got, e := Cut(row(c, a, b), 14)
	if e != api.OK || len(got) != 2 || !slices.Equal(got[0], row(a, b)) || !slices.Equal(got[1], row(c)) {
		t.Errorf("pieces %v, error %d", got, e)
	}
}

// TestP2101Cut: numbers of atoms in the pieces that were counted by hand.
func TestP2101Cut(t *testing.T) {
	small, big := tag(1, "a", 0, 1, 1), long()
	for _, l := range []struct {
		s      []api.Atom
		budget int
		e      api.Errno
		want   []int
	}{
		{steps(), 6, api.ErrBudget, nil},
		{steps(), 7, api.ErrBudget, nil},
		{steps(), 8, api.OK, []int{1, 1, 1, 1, 1}},
		{steps(), 13, api.OK, []int{1, 1, 1, 1, 1}},
		{steps(), 14, api.OK, []int{2, 1, 1, 1}},
		{steps(), 15, api.OK, []int{2, 1, 1, 1}},
		{steps(), 16, api.OK, []int{2, 2, 1}},
		{steps(), 21, api.OK, []int{2, 2, 1}},
		{steps(), 22, api.OK, []int{3, 2}},
		{steps(), 30, api.OK, []int{4, 1}},
		{steps(), 37, api.OK, []int{4, 1}},
		{steps(), 38, api.OK, []int{5}},
		{steps(), math.MaxInt, api.OK, []int{5}},
		{steps(), 0, api.ErrBudget, nil},
		{steps(), -1, api.ErrBudget, nil},
		{steps(), math.MinInt, api.ErrBudget, nil},
		{steps()[:2], 7, api.OK, []int{1, 1}},
		{nil, 0, api.OK, nil},
		{row(), 0, api.OK, nil},
		{wrong(), 0, api.OK, nil},
		{nil, math.MaxInt, api.OK, nil},
		// No budget is less than none: the least is 0.
		{nil, -1, api.ErrBudget, nil},
		{nil, math.MinInt, api.ErrBudget, nil},
		// One atom at the end, too big alone, leaves nothing of the others.
		{row(small, big), 19, api.ErrBudget, nil},
		{row(small, big), 20, api.OK, []int{1, 1}},
		{row(small, big), 26, api.OK, []int{1, 1}},
		{row(small, big), 27, api.OK, []int{2}},
		{row(big, small, big, wrong()[0], small), 20, api.OK, []int{1, 1}},
		// Of the three values of this key only the last counts.
		{row(note(4, 256, "zzzzzzzz"), note(4, 257, "zz"), note(4, 513, "z")), 6, api.OK, []int{1}},
	} {
		got, e := Cut(l.s, l.budget)
		var lens []int
		for _, piece := range got {
			lens = append(lens, len(piece))
		}
		if e != l.e || !slices.Equal(lens, l.want) {
			t.Errorf("Cut(%v, %d): pieces of %d atoms, error %d, not %d and %d", l.s, l.budget, lens, e, l.want, l.e)
		}
		checkCut(t, l.s, l.budget)
		checkRow(t, l.s)
	}
}

// TestP2101Rows: all rows of up to 3 of few atoms, valid or not, with each budget that can matter.
func TestP2101Rows(t *testing.T) {
	all := append(few(), wrong()[:3]...)
	all = append(all, long())
	rows := [][]api.Atom{nil}
	for i := 0; i < len(rows); i++ {
		if len(rows[i]) < 3 {
			for _, a := range all {
				rows = append(rows, append(slices.Clone(rows[i]), a))
			}
		}
		for budget := -1; budget <= sum(sizes(rows[i]))+1; budget++ {
			checkCut(t, rows[i], budget)
		}
		checkRow(t, rows[i])
	}
}

// TestP2101Any: rows without a pattern, with each budget below the size of their states.
func TestP2101Any(t *testing.T) {
	next := dice(1)
	for i := range 100 {
		s := anyRow(next, i%25)
		for budget := -1; budget <= sum(sizes(s))+1; budget++ {
			checkCut(t, s, budget)
		}
		checkRow(t, s)
		checkRow(t, shuffled(next, s))
		checkRow(t, append(s, s...))
	}
}

// TestP2102LeastBytes: known sizes of states, whatever stands in their rows.
func TestP2102LeastBytes(t *testing.T) {
	a, b := tag(1, "a", 2, 3, 1), half(2, 1, "a", 2, 300)
	for _, l := range []struct {
		s            []api.Atom
		least, bytes int
	}{
		{nil, 0, 0}, {row(), 0, 0}, {wrong(), 0, 0},
		{row(a), 7, 7}, {row(a, a, a), 7, 7}, {row(b), 7, 7}, {row(a, b), 7, 14}, {append(wrong(), b, a), 7, 14},
		{row(a, long()), 20, 27}, {row(long(), a), 20, 27}, {row(long(), a, long()), 20, 27},
		{steps(), 8, 38}, {append(steps(), wrong()...), 8, 38},
		// An overtaken value counts nothing, even if it has more bytes.
		{row(note(4, 256, "zzzzzzzz"), note(4, 513, "z")), 6, 6},
		{row(note(4, 513, "z"), note(4, 256, "zzzzzzzz"), a), 7, 13},
		{row(half(2, 1, "a", 2, 127), half(2, 1, "a", 2, 128)), 7, 7},
		{row(half(2, 1, "a", 2, 127)), 6, 6},
	} {
		if got := Least(l.s); got != l.least {
			t.Errorf("Least(%v) = %d, not %d", l.s, got, l.least)
		}
		if got := Bytes(l.s); got != l.bytes {
			t.Errorf("Bytes(%v) = %d, not %d", l.s, got, l.bytes)
		}
		checkRow(t, l.s)
	}
}

// TestP2102Fits: each piece counts alone and as a state, wherever it stands.
func TestP2102Fits(t *testing.T) {
	a, b, c := tag(1, "a", 0, 1, 1), tag(1, "a", 0, 2, 1), long()
	for _, l := range []struct {
		l    [][]api.Atom
		most int
	}{
		{[][]api.Atom{nil}, 0},
		{[][]api.Atom{row(), nil}, 0},
		{[][]api.Atom{wrong()}, 0},
		{[][]api.Atom{row(a)}, 7},
		{[][]api.Atom{row(a), row(b), row(a)}, 7},
		{[][]api.Atom{row(a, b)}, 14},
		{[][]api.Atom{row(a), row(a, b)}, 14},
		{[][]api.Atom{row(a, b), row(a)}, 14},
		{[][]api.Atom{row(a), row(b, a), nil, row(b)}, 14},
		{[][]api.Atom{row(a, a, a, a)}, 7},
		{[][]api.Atom{row(a), row(b), row(c)}, 20},
		{[][]api.Atom{row(c), row(b), row(a)}, 20},
		{[][]api.Atom{row(c, a), row(b, a), row(a)}, 27},
		{[][]api.Atom{append(wrong(), a), row(b, note(4, 256, "zzzzzzzz"), note(4, 513, "z"))}, 13},
	} {
		for budget := -1; budget < 60; budget++ {
			if got, want := Fits(l.l, budget), budget >= l.most; got != want {
				t.Errorf("Fits(%v, %d) = %v", l.l, budget, got)
			}
		}
		if Fits(l.l, math.MinInt) || !Fits(l.l, math.MaxInt) {
			t.Errorf("Fits(%v): at the bounds of int", l.l)
		}
	}
	// Of no pieces, none is too big.
	for _, budget := range []int{math.MinInt, -1, 0, 7} {
		if !Fits(nil, budget) || !Fits([][]api.Atom{}, budget) {
			t.Errorf("no pieces do not fit into %d", budget)
		}
	}
}

// TestP2102FitsAny: lists of rows without a pattern.
func TestP2102FitsAny(t *testing.T) {
	next := dice(2)
	for i := range 300 {
		var l [][]api.Atom
		most := 0
		for range 1 + i%6 {
			s := anyRow(next, int(next()%8))
			l = append(l, s)
			most = max(most, sum(sizes(s)))
		}
		for budget := -1; budget < most+2; budget++ {
			if got, want := Fits(l, budget), budget >= most; got != want {
				t.Fatalf("Fits(%v, %d) = %v", l, budget, got)
			}
		}
	}
}

// TestP2103Laws: the laws alone, without the definition of the pieces, on longer rows with budgets near the least.
func TestP2103Laws(t *testing.T) {
	next := dice(3)
	for i := range 60 {
		s := anyRow(next, 3*i)
		least, all := Least(s), sizes(s)
		for budget := least - 2; budget < least+70; budget++ {
			pieces, e := Cut(s, budget)
			if budget < least {
				if e != api.ErrBudget {
					t.Fatalf("Cut(%v, %d): error %d, and the least budget is %d", s, budget, e, least)
				}
				continue
			}
			if e != api.OK || !Fits(pieces, budget) || !slices.Equal(lat.All(pieces...), lat.Norm(s)) {
				t.Fatalf("Cut(%v, %d) = %v, %d", s, budget, pieces, e)
			}
			if want := fewest(all, budget); len(pieces) != want {
				t.Fatalf("Cut(%v, %d): %d pieces, and there could be %d", s, budget, len(pieces), want)
			}
		}
	}
}

// TestMany: states with more atoms than MaxAtoms, whose pieces are cut at places that can be told.
func TestMany(t *testing.T) {
	var s []api.Atom
	for i := range 65537 {
		s = append(s, tag(uint16(i>>8+1), "a", uint8(i&15), uint32(i>>4&15+1), 1))
	}
	s = lat.Norm(s)
	for _, budget := range []int{Least(s), 100, 4096, Bytes(s) - 1, Bytes(s)} {
		pieces, e := Cut(shuffled(dice(4), s), budget)
		if e != api.OK || !Fits(pieces, budget) || !slices.Equal(slices.Concat(pieces...), s) {
			t.Fatalf("%d pieces of %d bytes, error %d", len(pieces), budget, e)
		}
		for i, piece := range pieces[1:] {
			if Bytes(pieces[i])+Bytes(piece[:1]) <= budget {
				t.Fatalf("piece %d of %d bytes could take one more atom", i, budget)
			}
		}
	}
	if _, e := Cut(s, Least(s)-1); e != api.ErrBudget {
		t.Errorf("error %d", e)
	}
}

// TestArguments: no argument is changed, nor what lies behind it, and results are new and apart.
func TestArguments(t *testing.T) {
	next := dice(5)
	for i := range 60 {
		s := anyRow(next, 40)
		if i%2 == 0 {
			s = lat.Norm(s)
		}
		was := slices.Clone(s)
		half := s[: len(s)/2 : len(s)]
		for _, budget := range []int{0, 20, 50, math.MaxInt} {
			Least(half)
			Bytes(half)
			Fits([][]api.Atom{half, half}, budget)
			pieces, _ := Cut(half, budget)
			again, _ := Cut(half, budget)
			for j, piece := range pieces {
				if cap(piece) != len(piece) || len(piece) == 0 {
					t.Fatalf("a piece of %d atoms with room for %d", len(piece), cap(piece))
				}
				for k := range piece {
					piece[k] = long()
				}
				if j+1 < len(pieces) && !slices.Equal(pieces[j+1], again[j+1]) {
					t.Fatalf("writing to piece %d changes the next one", j)
				}
			}
			if !slices.Equal(s, was) {
				t.Fatalf("budget %d: an argument changed", budget)
			}
			if third, _ := Cut(half, budget); !slices.Equal(slices.Concat(third...), slices.Concat(again...)) {
				t.Fatalf("budget %d: a result changed a later one", budget)
			}
		}
	}
}

// TestRepeated: equal arguments have equal results.
func TestRepeated(t *testing.T) {
	s := anyRow(dice(6), 50)
	first, _ := Cut(s, 60)
	for range 20 {
		again, e := Cut(s, 60)
		if e != api.OK || !slices.EqualFunc(first, again, slices.Equal) {
			t.Fatal("Cut differs")
		}
	}
}

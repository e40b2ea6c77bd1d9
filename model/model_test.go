package model

import (
	"bytes"
	"math"
	"math/big"
	"slices"
	"testing"

	"handcart/api"
	"handcart/cart"
	"handcart/count"
	"handcart/lat"
	"handcart/note"
	"handcart/shop"
	"handcart/tags"
)

// top is the greatest value of a half, and the greatest N of an operation.
const top = math.MaxUint32

// ample is room for all that the tests do.
const ample = 1 << 30

// dice returns a function whose results have no pattern, but are the same in each run.
func dice(seed uint64) func() uint64 {
	x := 88172645463325252 + seed
	return func() uint64 {
		x ^= x << 13
		x ^= x >> 7
		x ^= x << 17
		return x
	}
}

// padded returns s in an api.Name.
func padded(s string) api.Name {
	var n api.Name
	copy(n[:], s)
	return n
}

// Events, with nothing in the fields that are ignored.
func add(rep uint8, cart uint16, item string, n int) Event {
	return Event{Rep: rep, Op: api.Op{Kind: 1, Cart: cart, Item: padded(item), N: n}}
}

func remove(rep uint8, cart uint16, item string) Event {
	return Event{Rep: rep, Op: api.Op{Kind: 2, Cart: cart, Item: padded(item)}}
}

func set(rep uint8, cart uint16, item string, n int) Event {
	return Event{Rep: rep, Op: api.Op{Kind: 3, Cart: cart, Item: padded(item), N: n}}
}

func write(rep uint8, cart uint16, text string) Event {
	return Event{Rep: rep, Op: api.Op{Kind: 4, Cart: cart, Text: padded(text)}}
}

func empty(rep uint8, cart uint16) Event {
	return Event{Rep: rep, Op: api.Op{Kind: 5, Cart: cart}}
}

func merge(rep, from uint8) Event { return Event{Merge: true, Rep: rep, From: from} }

// events is a short form.
func events(l ...Event) []Event { return l }

// Facts of those events, with the numbers of the facts that they saw.
func added(e Event, saw ...int) Fact {
	return Fact{Rep: e.Rep, Op: e.Op, Saw: saw, Items: names(string(e.Op.Item[:])), By: nums(e.Op.N)}
}

func changed(e Event, by int, saw ...int) Fact {
	return Fact{Rep: e.Rep, Op: e.Op, Saw: saw, Items: names(string(e.Op.Item[:])), By: nums(by)}
}

func wrote(e Event, stamp int, saw ...int) Fact {
	return Fact{Rep: e.Rep, Op: e.Op, Saw: saw, Stamp: stamp}
}

func cleared(e Event, items []api.Name, by []int, saw ...int) Fact {
	return Fact{Rep: e.Rep, Op: e.Op, Saw: saw, Items: items, By: by}
}

// Short forms.
func facts(l ...Fact) []Fact { return l }

func nums(l ...int) []int { return l }

func lists(l ...[]int) [][]int { return l }

func errs(l ...api.Errno) []api.Errno { return l }

func ids(l ...uint16) []uint16 { return l }

func names(l ...string) []api.Name {
	var all []api.Name
	for _, s := range l {
		all = append(all, padded(s))
	}
	return all
}

// seen is a view with a note.
func seen(text string, lines ...api.Line) cart.View {
	return cart.View{Lines: lines, Note: padded(text)}
}

func line(item string, n int) api.Line { return api.Line{Item: padded(item), N: n} }

// equalFacts compares facts, field by field.
func equalFacts(a, b []Fact) bool {
	return slices.EqualFunc(a, b, func(f, g Fact) bool {
		return f.Rep == g.Rep && f.Op == g.Op && slices.Equal(f.Saw, g.Saw) && slices.Equal(f.Items, g.Items) && slices.Equal(f.By, g.By) && f.Stamp == g.Stamp
	})
}

// equalLists compares lists of lists.
func equalLists[T comparable](a, b [][]T) bool {
	return slices.EqualFunc(a, b, slices.Equal[[]T])
}

// story is what the chapter says of events, read a second time.
type story struct {
	n       int
	l       []Event
	states  [][]api.Atom
	results []api.Errno
	number  []int // of the fact that an event is, or -1
	facts   []Fact
	past    map[[2]int]map[int]struct{}
}

// told reads the chapter's definitions literally: what is known is found by going back from each event to those before it.
func told(n, room int, l []Event) *story {
	s := &story{n: min(16, max(1, n)), l: l, past: map[[2]int]map[int]struct{}{}}
	s.states = make([][]api.Atom, s.n)
	for t, e := range l {
		s.number = append(s.number, -1)
		switch {
		case int(e.Rep) >= s.n || e.Merge && int(e.From) >= s.n:
			s.results = append(s.results, 1)
		case e.Merge:
			s.results = append(s.results, 0)
			s.states[e.Rep] = lat.All(s.states[e.Rep], s.states[e.From])
		default:
			delta, result := shop.Do(s.states[e.Rep], room, e.Rep, e.Op)
			s.results = append(s.results, result)
			after := lat.All(s.states[e.Rep], delta)
			if result == 0 {
				s.number[t] = len(s.facts)
				s.facts = append(s.facts, s.fact(t, s.states[e.Rep], after))
			}
			s.states[e.Rep] = after
		}
	}
	return s
}

// fact is the fact that the event t is, with the states before and after it.
func (s *story) fact(t int, before, after []api.Atom) Fact {
	e := s.l[t]
	f := Fact{Rep: e.Rep, Op: e.Op, Saw: s.knows(e.Rep, t)}
	switch e.Op.Kind {
	case 1, 2, 3:
		f.Items = []api.Name{e.Op.Item}
	case 4:
		_, stamp, _ := note.Get(after, e.Op.Cart)
		f.Stamp = int(stamp)
	case 5:
		f.Items = tags.Items(before, e.Op.Cart)
	}
	for _, item := range f.Items {
		f.By = append(f.By, count.Total(after, e.Op.Cart, item)-count.Total(before, e.Op.Cart, item))
	}
	return f
}

// knows are the numbers of the facts that a replica knows before the event t, in increasing order.
func (s *story) knows(rep uint8, t int) []int {
	var l []int
	known := s.before(rep, t)
	for i := range s.facts {
		if _, ok := known[i]; ok {
			l = append(l, i)
		}
	}
	return l
}

// before is the set of these numbers: what the replica did last, or what it was merged with, and all that it knew before that.
func (s *story) before(rep uint8, t int) map[int]struct{} {
	if t == 0 {
		return nil
	}
	if all, ok := s.past[[2]int{int(rep), t}]; ok {
		return all
	}
	e := s.l[t-1]
	all := map[int]struct{}{}
	for i := range s.before(rep, t-1) {
		all[i] = struct{}{}
	}
	if e.Rep == rep && e.Merge && s.results[t-1] == 0 {
		for i := range s.before(e.From, t-1) {
			all[i] = struct{}{}
		}
	}
	if e.Rep == rep && s.number[t-1] >= 0 {
		all[s.number[t-1]] = struct{}{}
	}
	s.past[[2]int{int(rep), t}] = all
	return all
}

// all are the numbers that each replica knows at the end.
func (s *story) all() [][]int {
	var l [][]int
	for rep := range s.n {
		l = append(l, s.knows(uint8(rep), len(s.l)))
	}
	return l
}

// viewed is the result of View, by the chapter's definition.
func viewed(facts []Fact, knows []int, c uint16) cart.View {
	var v cart.View
	known := func(i int, kind int) bool {
		return slices.Contains(knows, i) && facts[i].Op.Cart == c && facts[i].Op.Kind == kind
	}
	for i, f := range facts {
		undone := slices.ContainsFunc(v.Lines, func(l api.Line) bool { return l.Item == f.Op.Item })
		for j, g := range facts {
			takes := known(j, 2) && g.Op.Item == f.Op.Item || known(j, 5) && slices.Contains(g.Items, f.Op.Item)
			undone = undone || takes && slices.Contains(g.Saw, i)
		}
		if known(i, 1) && !undone {
			v.Lines = append(v.Lines, api.Line{Item: f.Op.Item, N: quantity(facts, knows, c, f.Op.Item)})
		}
	}
	slices.SortFunc(v.Lines, func(a, b api.Line) int { return bytes.Compare(a.Item[:], b.Item[:]) })
	for i, f := range facts {
		last := known(i, 4)
		for j, g := range facts {
			last = last && !(known(j, 4) && later(g, f))
		}
		if last {
			v.Note = f.Op.Text
		}
	}
	return v
}

// later reports whether the note of f is over that of g.
func later(f, g Fact) bool {
	switch {
	case f.Stamp != g.Stamp:
		return f.Stamp > g.Stamp
	case f.Rep != g.Rep:
		return f.Rep > g.Rep
	}
	return bytes.Compare(f.Op.Text[:], g.Op.Text[:]) > 0
}

// quantity is the sum of all changes of an item, with numbers of any size.
func quantity(facts []Fact, knows []int, c uint16, item api.Name) int {
	sum := new(big.Int)
	for i, f := range facts {
		for j := 0; j < len(f.Items) && j < len(f.By); j++ {
			if slices.Contains(knows, i) && f.Op.Cart == c && f.Items[j] == item {
				sum.Add(sum, big.NewInt(int64(f.By[j])))
			}
		}
	}
	switch {
	case sum.Sign() < 0:
		return 0
	case sum.Cmp(big.NewInt(math.MaxInt)) > 0:
		return math.MaxInt
	}
	return int(sum.Int64())
}

// some are the carts that have a line or a text, among those that the facts are about.
func some(facts []Fact, knows []int) []uint16 {
	var all []uint16
	for _, f := range facts {
		if v := viewed(facts, knows, f.Op.Cart); len(v.Lines) > 0 || v.Note != (api.Name{}) {
			all = append(all, f.Op.Cart)
		}
	}
	slices.Sort(all)
	return slices.Compact(all)
}

// listsOf calls visit with all lists of n of the elements of l.
func listsOf[T any](l []T, n int, visit func(l []T)) {
	chosen := make([]T, n)
	var choose func(i int)
	choose = func(i int) {
		if i == n {
			visit(chosen)
			return
		}
		for _, x := range l {
			chosen[i] = x
			choose(i + 1)
		}
	}
	choose(0)
}

// checkPlay holds what is told of events against the second reading.
func checkPlay(t *testing.T, n, room int, l []Event) {
	t.Helper()
	want := told(n, room, l)
	if got := States(n, room, l); !equalLists(got, want.states) {
		t.Fatalf("States %d, %d, %v: %v, not %v", n, room, l, got, want.states)
	}
	if got := Answers(n, room, l); !slices.Equal(got, want.results) {
		t.Fatalf("Answers %d, %d, %v: %d, not %d", n, room, l, got, want.results)
	}
	got, knows := Facts(n, room, l)
	if !equalFacts(got, want.facts) || !equalLists(knows, want.all()) {
		t.Fatalf("Facts %d, %d, %v: %v, %v, not %v, %v", n, room, l, got, knows, want.facts, want.all())
	}
}

// checkView holds views of facts, and the carts, against the second reading.
func checkView(t *testing.T, facts []Fact, knows []int, carts ...uint16) {
	t.Helper()
	for _, c := range carts {
		if got, want := View(facts, knows, c), viewed(facts, knows, c); !cart.Same(got, want) {
			t.Fatalf("View %v, %v, %d: %v, not %v", facts, knows, c, got, want)
		}
	}
	if got, want := Carts(facts, knows), some(facts, knows); !slices.Equal(got, want) {
		t.Fatalf("Carts %v, %v: %v, not %v", facts, knows, got, want)
	}
}

// checkTheorem holds the carts of each replica against the facts that it knows.
func checkTheorem(t *testing.T, n, room int, l []Event) {
	t.Helper()
	states := States(n, room, l)
	facts, knows := Facts(n, room, l)
	for rep, s := range states {
		if got, want := Carts(facts, knows[rep]), cart.Carts(s); !slices.Equal(got, want) {
			t.Fatalf("%d, %d, %v: replica %d has the carts %v, and those of the facts are %v", n, room, l, rep, want, got)
		}
		for _, c := range append(cart.Carts(s), 0, 1, 2, 3, 65535) {
			if got, want := View(facts, knows[rep], c), cart.Of(s, c); !cart.Same(got, want) {
				t.Fatalf("%d, %d, %v: cart %d of replica %d is %v, and that of the facts %v", n, room, l, c, rep, want, got)
			}
		}
	}
}

// Atoms, for the states.
func there(cart uint16, item string, rep uint8, seq uint32) api.Atom {
	return api.Atom{K: api.Key{Sort: 1, Cart: cart, Item: padded(item), Rep: rep, Seq: seq}, V: api.Val{N: 1}}
}

func gone(cart uint16, item string, rep uint8, seq uint32) api.Atom {
	return api.Atom{K: api.Key{Sort: 1, Cart: cart, Item: padded(item), Rep: rep, Seq: seq}, V: api.Val{N: 2}}
}

func plus(cart uint16, item string, rep uint8, n uint64) api.Atom {
	return api.Atom{K: api.Key{Sort: 2, Cart: cart, Item: padded(item), Rep: rep}, V: api.Val{N: n}}
}

func minus(cart uint16, item string, rep uint8, n uint64) api.Atom {
	return api.Atom{K: api.Key{Sort: 3, Cart: cart, Item: padded(item), Rep: rep}, V: api.Val{N: n}}
}

func written(cart uint16, n uint64, rep uint64, text string) api.Atom {
	return api.Atom{K: api.Key{Sort: 4, Cart: cart}, V: api.Val{N: n*256 + rep, Text: padded(text)}}
}

// state and states are short forms.
func state(l ...api.Atom) []api.Atom { return l }

func states(l ...[]api.Atom) [][]api.Atom { return l }

func TestP1901Cases(t *testing.T) {
	for _, c := range []struct {
		n, room int
		l       []Event
		states  [][]api.Atom
		results []api.Errno
		facts   []Fact
		knows   [][]int
	}{
		{1, ample, nil, states(nil), nil, nil, lists(nil)},
		{2, ample, events(), states(nil, nil), nil, nil, lists(nil, nil)},
		{1, ample, events(add(0, 1, "a", 3)), states(state(there(1, "a", 0, 1), plus(1, "a", 0, 3))), errs(0), facts(added(add(0, 1, "a", 3))), lists(nums(0))},
		{2, ample, events(add(1, 1, "a", 0)), states(nil, state(there(1, "a", 1, 1))), errs(0), facts(added(add(1, 1, "a", 0))), lists(nil, nums(0))},
		{2, ample, events(add(0, 1, "a", 3), merge(1, 0)), states(state(there(1, "a", 0, 1), plus(1, "a", 0, 3)), state(there(1, "a", 0, 1), plus(1, "a", 0, 3))), errs(0, 0), facts(added(add(0, 1, "a", 3))), lists(nums(0), nums(0))},
		{2, ample, events(add(0, 1, "a", 3), merge(0, 1)), states(state(there(1, "a", 0, 1), plus(1, "a", 0, 3)), nil), errs(0, 0), facts(added(add(0, 1, "a", 3))), lists(nums(0), nil)},
		{2, ample, events(merge(1, 0), add(0, 1, "a", 3), merge(0, 0)), states(state(there(1, "a", 0, 1), plus(1, "a", 0, 3)), nil), errs(0, 0, 0), facts(added(add(0, 1, "a", 3))), lists(nums(0), nil)},
		// What a replica learns later is not what it saw, and a merge goes one way.
		{2, ample, events(add(0, 1, "a", 3), add(1, 1, "a", 2), merge(0, 1), set(0, 1, "a", 1), remove(1, 1, "a")),
			states(state(there(1, "a", 0, 1), there(1, "a", 1, 1), plus(1, "a", 0, 3), plus(1, "a", 1, 2), minus(1, "a", 0, 4)), state(gone(1, "a", 1, 1), plus(1, "a", 1, 2), minus(1, "a", 1, 2))), errs(0, 0, 0, 0, 0),
			facts(added(add(0, 1, "a", 3)), added(add(1, 1, "a", 2)), changed(set(0, 1, "a", 1), -4, 0, 1), changed(remove(1, 1, "a"), -2, 1)), lists(nums(0, 1, 2), nums(1, 3))},
		// What is known passes on from replica to replica.
		{3, ample, events(write(2, 1, "x"), merge(1, 2), write(1, 1, ""), merge(0, 1), write(0, 1, "y"), write(2, 1, "z")),
			states(state(written(1, 3, 0, "y")), state(written(1, 2, 1, "")), state(written(1, 2, 2, "z"))), errs(0, 0, 0, 0, 0, 0),
			facts(wrote(write(2, 1, "x"), 1), wrote(write(1, 1, ""), 2, 0), wrote(write(0, 1, "y"), 3, 0, 1), wrote(write(2, 1, "z"), 2, 0)), lists(nums(0, 1, 2), nums(0, 1), nums(0, 3))},
		// A Clear takes away what is present, and no other item of the cart, or of other carts.
		{1, ample, events(add(0, 1, "b", 3), add(0, 1, "a", 2), add(0, 1, "c", 1), add(0, 2, "a", 4), remove(0, 1, "c"), empty(0, 1), empty(0, 1)),
			states(state(gone(1, "a", 0, 2), gone(1, "b", 0, 1), gone(1, "c", 0, 3), there(2, "a", 0, 4), plus(1, "a", 0, 2), plus(1, "b", 0, 3), plus(1, "c", 0, 1), plus(2, "a", 0, 4), minus(1, "a", 0, 2), minus(1, "b", 0, 3), minus(1, "c", 0, 1))), errs(0, 0, 0, 0, 0, 0, 0),
			facts(added(add(0, 1, "b", 3)), added(add(0, 1, "a", 2), 0), added(add(0, 1, "c", 1), 0, 1), added(add(0, 2, "a", 4), 0, 1, 2), changed(remove(0, 1, "c"), -1, 0, 1, 2, 3), cleared(empty(0, 1), names("a", "b"), nums(-2, -3), 0, 1, 2, 3, 4), cleared(empty(0, 1), nil, nil, 0, 1, 2, 3, 4, 5)), lists(nums(0, 1, 2, 3, 4, 5, 6))},
		// A total below 0: nothing is taken away, and what is set counts from there.
		{2, ample, events(add(0, 1, "a", 5), merge(1, 0), set(0, 1, "a", 0), set(1, 1, "a", 1), merge(0, 1), remove(0, 1, "a"), add(1, 1, "a", 1), merge(1, 0), set(1, 1, "a", 2)),
			states(state(gone(1, "a", 0, 1), plus(1, "a", 0, 5), minus(1, "a", 0, 5), minus(1, "a", 1, 4)), state(gone(1, "a", 0, 1), there(1, "a", 1, 1), plus(1, "a", 0, 5), plus(1, "a", 1, 6), minus(1, "a", 0, 5), minus(1, "a", 1, 4))), errs(0, 0, 0, 0, 0, 0, 0, 0, 0),
			facts(added(add(0, 1, "a", 5)), changed(set(0, 1, "a", 0), -5, 0), changed(set(1, 1, "a", 1), -4, 0), changed(remove(0, 1, "a"), 0, 0, 1, 2), added(add(1, 1, "a", 1), 0, 2), changed(set(1, 1, "a", 2), 5, 0, 1, 2, 3, 4)), lists(nums(0, 1, 2, 3), nums(0, 1, 2, 3, 4, 5))},
		// Operations that are rejected are not facts.
		{2, ample, events(remove(0, 1, "a"), set(0, 1, "a", 1), add(0, 1, "A", 1), add(0, 1, "a", top+1), Event{}, add(2, 1, "a", 1), write(1, 1, "Hi"), add(1, 1, "a", top), add(1, 1, "a", 1)),
			states(nil, state(there(1, "a", 1, 1), plus(1, "a", 1, top))), errs(6, 6, 1, 1, 14, 1, 1, 0, 8), facts(added(add(1, 1, "a", top))), lists(nil, nums(0))},
		{2, 2, events(write(0, 1, "a"), write(0, 1, "b"), add(0, 1, "a", 1), add(0, 1, "a", 0), add(1, 1, "a", 1), merge(0, 1), write(0, 2, "x"), write(0, 1, "x")),
			states(state(there(1, "a", 0, 1), there(1, "a", 1, 1), plus(1, "a", 1, 1), written(1, 3, 0, "x")), state(there(1, "a", 1, 1), plus(1, "a", 1, 1))), errs(0, 0, 7, 0, 0, 0, 7, 0),
			facts(wrote(write(0, 1, "a"), 1), wrote(write(0, 1, "b"), 2, 0), added(add(0, 1, "a", 0), 0, 1), added(add(1, 1, "a", 1)), wrote(write(0, 1, "x"), 3, 0, 1, 2, 3)), lists(nums(0, 1, 2, 3, 4), nums(3))},
		{1, 0, events(write(0, 1, "a"), add(0, 1, "a", 0), empty(0, 1)), states(nil), errs(7, 7, 0), facts(cleared(empty(0, 1), nil, nil)), lists(nums(0))},
		{1, math.MinInt, events(write(0, 1, "a"), empty(0, 1)), states(nil), errs(7, 0), facts(cleared(empty(0, 1), nil, nil)), lists(nums(0))},
		// The error of a replica that does not exist comes first, and a merge looks at no operation.
		{1, ample, events(Event{Rep: 1}, Event{Rep: 1, Op: api.Op{Kind: 6}}, merge(1, 0), merge(0, 1), merge(255, 0), merge(0, 255), merge(0, 0), Event{Merge: true, Op: api.Op{Kind: 1, Cart: 1, Item: padded("a"), N: 1}}),
			states(nil), errs(1, 1, 1, 1, 1, 1, 0, 0), nil, lists(nil)},
		// An operation looks at no From, and at no field that its kind ignores; its fact keeps all of them.
		{1, ample, events(Event{From: 9, Op: api.Op{Kind: 4, Cart: 1, Item: padded("A"), N: -1, Text: padded("a")}}, Event{From: 16, Op: api.Op{Kind: 5, Cart: 1, Item: padded("b"), N: -2, Text: padded("C")}}),
			states(state(written(1, 1, 0, "a"))), errs(0, 0), facts(Fact{Op: api.Op{Kind: 4, Cart: 1, Item: padded("A"), N: -1, Text: padded("a")}, Stamp: 1}, Fact{Op: api.Op{Kind: 5, Cart: 1, Item: padded("b"), N: -2, Text: padded("C")}, Saw: nums(0)}), lists(nums(0, 1))},
	} {
		if got := States(c.n, c.room, c.l); !equalLists(got, c.states) {
			t.Errorf("States %d, %d, %v: %v, not %v", c.n, c.room, c.l, got, c.states)
		}
		if got := Answers(c.n, c.room, c.l); !slices.Equal(got, c.results) {
			t.Errorf("Answers %d, %d, %v: %d, not %d", c.n, c.room, c.l, got, c.results)
		}
		if got, knows := Facts(c.n, c.room, c.l); !equalFacts(got, c.facts) || !equalLists(knows, c.knows) {
			t.Errorf("Facts %d, %d, %v: %v, %v, not %v, %v", c.n, c.room, c.l, got, knows, c.facts, c.knows)
		}
		if s := told(c.n, c.room, c.l); !equalLists(s.states, c.states) || !slices.Equal(s.results, c.results) || !equalFacts(s.facts, c.facts) || !equalLists(s.all(), c.knows) {
			t.Errorf("the second reading of %d, %d, %v: %v, %v, %v, %v", c.n, c.room, c.l, s.states, s.results, s.facts, s.all())
		}
	}
}

// TestP1901Replicas: there are 1 to 16 replicas, and each event is of one of them.
func TestP1901Replicas(t *testing.T) {
	for _, c := range []struct{ n, want int }{
		{math.MinInt, 1}, {-257, 1}, {-1, 1}, {0, 1}, {1, 1}, {2, 2}, {3, 3}, {7, 7}, {15, 15}, {16, 16}, {17, 16}, {256, 16}, {257, 16}, {1<<32 + 1, 16}, {math.MaxInt, 16},
	} {
		if got := States(c.n, ample, nil); len(got) != c.want {
			t.Errorf("%d replicas: %d states, not %d", c.n, len(got), c.want)
		}
		if l, got := Facts(c.n, ample, nil); len(got) != c.want || len(l) != 0 {
			t.Errorf("%d replicas: %d lists, not %d", c.n, len(got), c.want)
		}
		for i := range 256 {
			rep := uint8(i)
			l := events(add(rep, 1, "a", 1), merge(rep, 0), merge(0, rep), write(rep, 1, "b"))
			want := errs(0, 0, 0, 0)
			if i >= c.want {
				want = errs(1, 1, 1, 1)
			}
			if got := Answers(c.n, ample, l); !slices.Equal(got, want) {
				t.Errorf("Answers %d, %v: %d, not %d", c.n, l, got, want)
			}
			checkPlay(t, c.n, ample, l)
		}
	}
}

// deeds are events of two replicas, of which most change what others do.
func deeds() []Event {
	return events(
		add(0, 1, "a", 3), merge(1, 0), remove(1, 1, "a"), empty(0, 1), write(1, 1, "x"), merge(0, 1), add(1, 1, "a", 2), set(1, 1, "a", 1),
		remove(0, 1, "a"), write(0, 1, ""), set(0, 1, "a", 0), empty(1, 1), add(0, 1, "b", 1), add(1, 2, "a", 4), merge(0, 2), add(2, 1, "a", 5),
	)
}

// TestP1901Lists: all short lists of events, with ample room and with little.
func TestP1901Lists(t *testing.T) {
	for n := range 4 {
		listsOf(deeds(), n, func(l []Event) {
			checkPlay(t, 2, ample, l)
			checkPlay(t, 2, 2, l)
		})
	}
	listsOf(deeds()[:8], 4, func(l []Event) { checkPlay(t, 2, ample, l) })
}

// anyName is one of few items, or of few texts.
func anyName(next func() uint64) string {
	if next()%16 == 0 {
		return []string{"", "A", "9", "a\x00b", "zzzzzzzz"}[next()%5]
	}
	return []string{"a", "b", "cup", ""}[next()%4]
}

// anyEvent is an event of one of n replicas, or of one that does not exist, with something in the fields that are ignored.
func anyEvent(next func() uint64, n int) Event {
	replicas := uint64(n)
	if next()%32 == 0 {
		replicas = 20
	}
	e := Event{Merge: next()%4 == 0, Rep: uint8(next() % replicas), From: uint8(next() % replicas)}
	e.Op = api.Op{Kind: int(next()%5 + 1), Cart: uint16(next() % 3), Item: padded(anyName(next)), N: int(next() % 12), Text: padded(anyName(next))}
	if next()%4 == 0 {
		e.Op.Kind = 1
	}
	switch next() % 16 {
	case 0:
		e.Op.N = int(next() >> (next() % 64))
	case 1:
		e.Op.N = -int(next() % 3)
	case 2:
		e.Op.N = top - int(next()%5)
	case 3:
		e.Op.Kind = int(next() % 9)
	case 4:
		e.Op.Cart = uint16(next())
	}
	return e
}

// anyEvents are some of them.
func anyEvents(next func() uint64, n, size int) []Event {
	var l []Event
	for range size {
		l = append(l, anyEvent(next, n))
	}
	return l
}

// TestP1901Runs: events without a pattern.
func TestP1901Runs(t *testing.T) {
	next := dice(1)
	for i := range 300 {
		n := int(next()%5 + 1)
		if i%10 == 0 {
			n = 16
		}
		checkPlay(t, n, []int{ample, 20, 8, int(next() % 12)}[next()%4], anyEvents(next, n, i%80))
	}
}

// TestP1901Deltas: the state of a replica is the join of what the facts did that it knows, each on what it saw.
func TestP1901Deltas(t *testing.T) {
	next := dice(2)
	for i := range 60 {
		n, l := int(next()%4+2), anyEvents(next, 4, i+20)
		all, knows := Facts(n, ample, l)
		deltas := make([][]api.Atom, len(all))
		reached := func(numbers []int) []api.Atom {
			var s []api.Atom
			for _, i := range numbers {
				s = append(s, deltas[i]...)
			}
			return lat.Norm(s)
		}
		for i, f := range all {
			if slices.Max(append(f.Saw, -1)) >= i || !slices.IsSorted(f.Saw) {
				t.Fatalf("fact %d saw %v", i, f.Saw)
			}
			delta, e := shop.Do(reached(f.Saw), ample, f.Rep, f.Op)
			if e != api.OK {
				t.Fatalf("fact %d, %v: %d", i, f, e)
			}
			deltas[i] = delta
		}
		for rep, s := range States(n, ample, l) {
			if got := reached(knows[rep]); !slices.Equal(got, s) {
				t.Fatalf("%v: the state of %d is %v, and the deltas of its facts are %v", l, rep, s, got)
			}
			for _, i := range knows[rep] {
				for _, j := range all[i].Saw {
					if !slices.Contains(knows[rep], j) {
						t.Fatalf("%v: %d knows %d, and not %d", l, rep, i, j)
					}
				}
			}
		}
	}
}

// TestP1901Bounds: halves that are full, and totals beyond one half.
func TestP1901Bounds(t *testing.T) {
	var l []Event
	for rep := range uint8(16) {
		l = append(l, add(rep, 1, "a", top), add(rep, 1, "a", 1), add(rep, 1, "a", 0), merge(15, rep))
	}
	l = append(l, set(15, 1, "a", top), set(15, 1, "a", 0), remove(15, 1, "a"), empty(15, 1), set(15, 1, "a", 1<<33), merge(0, 15), remove(0, 1, "a"), empty(0, 1))
	checkPlay(t, 16, ample, l)
	checkTheorem(t, 16, ample, l)
	all, knows := Facts(16, ample, l)
	if got, want := View(all, knows[15], 1), seen("", line("a", 16*top)); !cart.Same(got, want) {
		t.Errorf("%v, not %v", got, want)
	}
	l = events(add(0, 1, "a", top), merge(1, 0), merge(2, 0), remove(1, 1, "a"), add(1, 1, "a", top), set(1, 1, "a", 0), set(1, 1, "a", top), set(2, 1, "a", 0), merge(0, 1), merge(0, 2), set(0, 1, "a", top), set(0, 1, "a", 0), remove(0, 1, "a"))
	if got, want := Answers(3, ample, l), errs(0, 0, 0, 0, 0, 8, 0, 0, 0, 0, 8, 0, 0); !slices.Equal(got, want) {
		t.Errorf("Answers %v: %d, not %d", l, got, want)
	}
	checkPlay(t, 3, ample, l)
	checkTheorem(t, 3, ample, l)
}

func TestP1902Cases(t *testing.T) {
	cup := added(add(0, 1, "cup", 3))
	for _, c := range []struct {
		facts []Fact
		knows []int
		c     uint16
		want  cart.View
	}{
		{nil, nil, 1, seen("")},
		{nil, nums(0), 1, seen("")},
		{facts(cup), nil, 1, seen("")},
		{facts(cup), nums(0), 1, seen("", line("cup", 3))},
		{facts(cup), nums(0), 0, seen("")},
		{facts(cup), nums(0), 257, seen("")},
		{facts(cup), nums(-1, 1, 2, math.MinInt, math.MaxInt, 1<<32), 1, seen("")},
		{facts(cup), nums(-1, 0, 1), 1, seen("", line("cup", 3))},
		{facts(cup), nums(0, 0, 0), 1, seen("", line("cup", 3))},
		{facts(cup, cup), nums(1, 0, 1), 1, seen("", line("cup", 6))},
		{facts(cup, added(add(1, 1, "cup", 4))), nums(0, 1), 1, seen("", line("cup", 7))},
		{facts(cup, added(add(1, 1, "cup", 4))), nums(1), 1, seen("", line("cup", 4))},
		{facts(cup, added(add(1, 2, "cup", 4))), nums(0, 1), 1, seen("", line("cup", 3))},
		{facts(cup, added(add(1, 2, "cup", 4))), nums(0, 1), 2, seen("", line("cup", 4))},
		{facts(cup, added(add(0, 1, "b", 0)), added(add(0, 1, "zz", 1)), added(add(0, 1, "z", 2)), added(add(0, 1, "a-1", 9))), nums(4, 3, 2, 1, 0), 1, seen("", line("a-1", 9), line("b", 0), line("cup", 3), line("z", 2), line("zz", 1))},
		{facts(added(add(0, 1, "\xff", 1)), added(add(0, 1, "", 2)), added(add(0, 1, "a", 3)), added(add(0, 1, "\x00\x00\x00\x00\x00\x00\x00a", 4))), nums(0, 1, 2, 3), 1, seen("", line("", 2), line("\x00\x00\x00\x00\x00\x00\x00a", 4), line("a", 3), line("\xff", 1))},
		// A Remove takes away what it saw, and nothing else.
		{facts(cup, changed(remove(0, 1, "cup"), -3, 0)), nums(0, 1), 1, seen("")},
		{facts(cup, changed(remove(0, 1, "cup"), -3, 0)), nums(0), 1, seen("", line("cup", 3))},
		{facts(cup, changed(remove(0, 1, "cup"), -3, 0)), nums(1), 1, seen("")},
		{facts(cup, changed(remove(0, 1, "cup"), -3)), nums(0, 1), 1, seen("", line("cup", 0))},
		{facts(cup, changed(remove(0, 1, "cup"), -2, 1, 2, -1)), nums(0, 1), 1, seen("", line("cup", 1))},
		{facts(cup, changed(remove(0, 1, "pen"), -2, 0)), nums(0, 1), 1, seen("", line("cup", 3))},
		{facts(cup, changed(remove(0, 2, "cup"), -2, 0)), nums(0, 1), 1, seen("", line("cup", 3))},
		{facts(cup, changed(remove(0, 1, "cup"), -3, 0), added(add(1, 1, "cup", 4), 0)), nums(0, 1, 2), 1, seen("", line("cup", 4))},
		{facts(cup, changed(remove(0, 1, "cup"), -3, 0), added(add(1, 1, "cup", 4), 0), changed(remove(2, 1, "cup"), -7, 0, 2)), nums(0, 1, 2, 3), 1, seen("")},
		{facts(cup, changed(remove(0, 1, "cup"), -3, 0), added(add(1, 1, "cup", 4), 0), changed(remove(2, 1, "cup"), -7, 0, 2)), nums(0, 2, 3), 1, seen("")},
		{facts(changed(remove(0, 1, "cup"), -3, 1), cup), nums(0, 1), 1, seen("")},
		{facts(cup, cup, changed(remove(0, 1, "cup"), -3, 1, 1, 0, 1)), nums(0, 1, 2), 1, seen("")},
		{facts(cup, cup, changed(remove(0, 1, "cup"), -3, 1)), nums(0, 1, 2), 1, seen("", line("cup", 3))},
		// So does a Clear, with the items that it lists.
		{facts(cup, cleared(empty(0, 1), names("cup"), nums(-3), 0)), nums(0, 1), 1, seen("")},
		{facts(cup, cleared(empty(0, 1), names("cup"), nums(-3))), nums(0, 1), 1, seen("", line("cup", 0))},
		{facts(cup, cleared(empty(0, 1), names("a", "b"), nums(-3, -3), 0)), nums(0, 1), 1, seen("", line("cup", 3))},
		{facts(cup, cleared(empty(0, 1), names("a", "cup", "pen"), nums(-3, -2, -1), 0)), nums(0, 1), 1, seen("")},
		{facts(cup, cleared(empty(0, 1), nil, nil, 0)), nums(0, 1), 1, seen("", line("cup", 3))},
		{facts(cup, cleared(empty(0, 2), names("cup"), nums(-3), 0)), nums(0, 1), 1, seen("", line("cup", 3))},
		{facts(cup, cleared(Event{Op: api.Op{Kind: 5, Cart: 1, Item: padded("cup")}}, names("pen"), nums(-3), 0)), nums(0, 1), 1, seen("", line("cup", 3))},
		{facts(cup, added(add(1, 1, "cup", 4)), added(add(1, 1, "pen", 5)), cleared(empty(0, 1), names("cup"), nums(-3), 0, 2)), nums(0, 1, 2, 3), 1, seen("", line("cup", 4), line("pen", 5))},
		// Others see, and take nothing away.
		{facts(cup, changed(set(0, 1, "cup", 1), -2, 0)), nums(0, 1), 1, seen("", line("cup", 1))},
		{facts(cup, changed(set(0, 1, "cup", 1), -2, 0)), nums(1), 1, seen("")},
		{facts(cup, wrote(write(0, 1, "hi"), 1, 0)), nums(0, 1), 1, seen("hi", line("cup", 3))},
		{facts(cup, added(add(0, 1, "cup", 0), 0)), nums(0, 1), 1, seen("", line("cup", 3))},
		{facts(cup, Fact{Op: api.Op{Kind: 6, Cart: 1, Item: padded("cup")}, Saw: nums(0)}, Fact{Op: api.Op{Cart: 1, Item: padded("cup")}, Saw: nums(0)}), nums(0, 1, 2), 1, seen("", line("cup", 3))},
		// Sums.
		{facts(cup, changed(set(1, 1, "cup", 0), -4)), nums(0, 1), 1, seen("", line("cup", 0))},
		{facts(cup, changed(set(1, 1, "cup", 0), -4), changed(set(1, 1, "cup", 0), 2)), nums(0, 1, 2), 1, seen("", line("cup", 1))},
		{facts(cup, changed(set(1, 1, "cup", 0), math.MinInt), changed(set(1, 1, "cup", 0), math.MinInt)), nums(0, 1, 2), 1, seen("", line("cup", 0))},
		{facts(cup, changed(set(1, 1, "cup", 0), math.MinInt), changed(set(1, 1, "cup", 0), math.MaxInt)), nums(0, 1, 2), 1, seen("", line("cup", 2))},
		{facts(cup, changed(set(1, 1, "cup", 0), math.MaxInt), changed(set(1, 1, "cup", 0), -3)), nums(0, 1, 2), 1, seen("", line("cup", math.MaxInt))},
		{facts(cup, cleared(empty(0, 1), names("cup", "a", "cup"), nums(1, 2, 5))), nums(0, 1), 1, seen("", line("cup", 9))},
		{facts(cup, cleared(empty(0, 1), names("a", "cup"), nums(1))), nums(0, 1), 1, seen("", line("cup", 3))},
		{facts(cup, cleared(empty(0, 1), names("cup"), nums(1, 2))), nums(0, 1), 1, seen("", line("cup", 4))},
		{facts(cup, cleared(empty(0, 1), nil, nums(1))), nums(0, 1), 1, seen("", line("cup", 3))},
		// Notes.
		{facts(wrote(write(0, 1, "hi"), 1)), nums(0), 1, seen("hi")},
		{facts(wrote(write(0, 1, "hi"), 1)), nums(0), 2, seen("")},
		{facts(wrote(write(0, 1, "hi"), 1)), nil, 1, seen("")},
		{facts(wrote(write(0, 1, "hi"), 1), wrote(write(0, 1, "ha"), 2)), nums(0, 1), 1, seen("ha")},
		{facts(wrote(write(0, 1, "hi"), 1), wrote(write(0, 1, "ha"), 2)), nums(0), 1, seen("hi")},
		{facts(wrote(write(0, 1, "ha"), 2), wrote(write(9, 1, "hi"), 1)), nums(0, 1), 1, seen("ha")},
		{facts(wrote(write(0, 1, "hi"), 1), wrote(write(0, 1, ""), 2)), nums(0, 1), 1, seen("")},
		{facts(wrote(write(0, 1, "hi"), 1), wrote(write(0, 2, "ha"), 2)), nums(0, 1), 1, seen("hi")},
		{facts(wrote(write(2, 1, "a"), 1), wrote(write(3, 1, "b"), 1), wrote(write(1, 1, "c"), 1)), nums(0, 1, 2), 1, seen("b")},
		{facts(wrote(write(2, 1, "a"), 1), wrote(write(2, 1, "b"), 1), wrote(write(2, 1, ""), 1)), nums(0, 1, 2), 1, seen("b")},
		{facts(wrote(write(2, 1, "ab"), 1), wrote(write(2, 1, "b"), 1), wrote(write(2, 1, "a\xff"), 1)), nums(0, 1, 2), 1, seen("b")},
		{facts(wrote(write(2, 1, "\x01"), 1), wrote(write(2, 1, "\xff"), 1)), nums(0, 1), 1, seen("\xff")},
		{facts(wrote(write(255, 1, "x"), 0), wrote(write(0, 1, "y"), -1)), nums(0, 1), 1, seen("x")},
		{facts(wrote(write(255, 1, "x"), math.MinInt), wrote(write(0, 1, "y"), math.MaxInt)), nums(0, 1), 1, seen("y")},
		{facts(wrote(write(0, 1, "x"), math.MinInt)), nums(0), 1, seen("x")},
		{facts(wrote(write(0, 1, "x"), 1), Fact{Op: api.Op{Kind: 1, Cart: 1, Item: padded("a"), Text: padded("z")}, Stamp: 9}, Fact{Op: api.Op{Cart: 1, Text: padded("z")}, Stamp: 9}), nums(0, 1, 2), 1, seen("x", line("a", 0))},
	} {
		if got := View(c.facts, c.knows, c.c); !cart.Same(got, c.want) {
			t.Errorf("View %v, %v, %d: %v, not %v", c.facts, c.knows, c.c, got, c.want)
		}
		if got := viewed(c.facts, c.knows, c.c); !cart.Same(got, c.want) {
			t.Errorf("the second reading of View %v, %v, %d: %v, not %v", c.facts, c.knows, c.c, got, c.want)
		}
	}
}

// digits are the places of the n lowest binary digits of x that are 1.
func digits(x, n int) []int {
	var l []int
	for i := range n {
		if x>>i&1 == 1 {
			l = append(l, i)
		}
	}
	return l
}

// TestP1902Lists: all short lists of facts, whichever others they saw, and all sets of them that may be known.
func TestP1902Lists(t *testing.T) {
	kinds := facts(
		added(add(0, 1, "a", 3)), changed(remove(0, 1, "a"), -2), cleared(empty(0, 1), names("b", "a"), nums(1, -4)), wrote(write(1, 1, "x"), 1), added(add(1, 1, "b", 0)), changed(set(1, 1, "a", 1), 5),
		cleared(empty(1, 2), names("a"), nums(-1)), added(add(0, 2, "a", 1)), wrote(write(0, 1, "y"), 2), wrote(write(1, 1, ""), 2), changed(remove(1, 1, "b"), 0),
	)
	for n, size := range []int{1, len(kinds), len(kinds), 5} {
		var all []Fact
		for _, f := range kinds[:size] {
			for saw := range 1 << n {
				f.Saw = digits(saw, n)
				all = append(all, f)
			}
		}
		listsOf(all, n, func(l []Fact) {
			for known := range 1 << n {
				checkView(t, l, digits(known, n), 1)
			}
		})
	}
}

// TestP1902Last: which one of two or three notes counts, in any order of them.
func TestP1902Last(t *testing.T) {
	var all []Fact
	for _, stamp := range nums(math.MinInt, -1, 0, 1, 255, top, math.MaxInt) {
		for _, rep := range []uint8{0, 1, 15, 255} {
			for _, text := range []string{"", "a", "ab", "b", "\x80"} {
				all = append(all, wrote(write(rep, 1, text), stamp))
			}
		}
	}
	listsOf(all, 2, func(l []Fact) { checkView(t, l, nums(0, 1), 1) })
	next := dice(3)
	for range 2000 {
		l := facts(all[next()%140], all[next()%140], all[next()%140], all[next()%140])
		checkView(t, l, nums(0, 1, 2, 3), 1)
	}
}

// anyFact is a fact of anything, also of what no events come to, among n facts.
func anyFact(next func() uint64, n int) Fact {
	e := anyEvent(next, 4)
	f := Fact{Rep: e.Rep, Op: e.Op, Stamp: int(next() % 4)}
	for range next() % 6 {
		f.Saw = append(f.Saw, int(next()%uint64(n+2))-1)
	}
	f.Items, f.By = []api.Name{e.Op.Item}, nums(int(next()%16)-8)
	for range next() % 4 {
		f.Items, f.By = append(f.Items, padded(anyName(next))), append(f.By, int(next()%16)-8)
	}
	switch next() % 16 {
	case 0:
		f.By = append(f.By, int(next()))
	case 1:
		f.By = f.By[1:]
	case 2:
		f.By[0] = int(next())
	case 3:
		f.By[0] = []int{math.MinInt, math.MaxInt, math.MinInt + 1, math.MaxInt - 1}[next()%4]
	case 4:
		f.Stamp = int(next())
	case 5:
		f.Saw = append(f.Saw, int(next()), math.MinInt, math.MaxInt)
	case 6:
		f.Items, f.By = nil, nil
	}
	return f
}

// anyFacts are n of them, and some of their numbers.
func anyFacts(next func() uint64, n int) ([]Fact, []int) {
	var l []Fact
	var knows []int
	for range n {
		l = append(l, anyFact(next, n))
	}
	for range next() % uint64(2*n+1) {
		knows = append(knows, int(next()%uint64(n+2))-1)
	}
	if next()%4 == 0 {
		knows = append(knows, int(next()), -int(next()>>1), math.MinInt, math.MaxInt, n, n+1)
	}
	return l, knows
}

// TestP1902Facts: facts without a pattern.
func TestP1902Facts(t *testing.T) {
	next := dice(4)
	for i := range 1500 {
		l, knows := anyFacts(next, i%40)
		carts := ids(0, 1, 2, 3)
		for _, f := range l {
			carts = append(carts, f.Op.Cart)
		}
		slices.Sort(carts)
		checkView(t, l, knows, slices.Compact(carts)...)
	}
}

// TestP1902Sums: sums of changes at and beyond the bounds of an int, with each intermediate sum beyond them.
func TestP1902Sums(t *testing.T) {
	sizes := nums(math.MinInt, math.MinInt+1, -1<<62, -1<<32, -2, -1, 0, 1, 2, 1<<32, 1<<62, math.MaxInt-1, math.MaxInt)
	for n := range 5 {
		listsOf(sizes, n, func(l []int) {
			items := make([]api.Name, n)
			f := facts(Fact{Op: api.Op{Kind: 1}, Items: items, By: l})
			if got, want := View(f, nums(0), 0), viewed(f, nums(0), 0); !cart.Same(got, want) {
				t.Fatalf("the sum of %d: %v, not %v", l, got, want)
			}
		})
	}
	// Many changes, of which each one alone may fill an int.
	for _, by := range sizes {
		const n = 3000
		items := make([]api.Name, n)
		same := slices.Repeat(nums(by), n)
		for _, l := range [][]int{same, append(same[:n-1:n-1], 7), append(nums(math.MinInt), same[1:]...), append(nums(math.MaxInt), same[1:]...)} {
			f := facts(Fact{Op: api.Op{Kind: 1}, Items: items, By: l})
			if got, want := View(f, nums(0), 0), viewed(f, nums(0), 0); !cart.Same(got, want) {
				t.Fatalf("the sum of %d changes by %d: %v, not %v", n, by, got, want)
			}
		}
	}
}

func TestP1903Cases(t *testing.T) {
	for _, c := range []struct {
		facts []Fact
		knows []int
		want  []uint16
	}{
		{nil, nil, nil},
		{nil, nums(0, 1), nil},
		{facts(added(add(0, 1, "a", 3))), nil, nil},
		{facts(added(add(0, 1, "a", 3))), nums(0), ids(1)},
		{facts(added(add(0, 1, "a", 3))), nums(-1, 1), nil},
		{facts(added(add(0, 1, "a", 0))), nums(0), ids(1)},
		{facts(added(add(0, 1, "a", -3))), nums(0), ids(1)},
		{facts(added(add(0, 65535, "a", 1)), added(add(0, 0, "a", 1)), added(add(0, 256, "a", 1)), added(add(0, 1, "a", 1)), added(add(0, 0, "b", 1))), nums(0, 1, 2, 3, 4), ids(0, 1, 256, 65535)},
		{facts(added(add(0, 65535, "a", 1)), added(add(0, 0, "a", 1)), added(add(0, 256, "a", 1)), added(add(0, 1, "a", 1)), added(add(0, 0, "b", 1))), nums(3, 0), ids(1, 65535)},
		{facts(wrote(write(0, 7, "x"), 1), wrote(write(0, 5, ""), 1)), nums(0, 1), ids(7)},
		{facts(wrote(write(0, 7, "x"), 1), wrote(write(0, 7, ""), 2)), nums(0, 1), nil},
		{facts(wrote(write(0, 7, "x"), 1), wrote(write(0, 7, ""), 2)), nums(0), ids(7)},
		{facts(added(add(0, 1, "a", 3)), changed(remove(0, 1, "a"), -3, 0)), nums(0, 1), nil},
		{facts(added(add(0, 1, "a", 3)), changed(remove(0, 1, "a"), -3, 0)), nums(0), ids(1)},
		{facts(added(add(0, 1, "a", 3)), changed(remove(0, 1, "a"), -3, 0), wrote(write(0, 1, "x"), 1)), nums(0, 1, 2), ids(1)},
		{facts(added(add(0, 1, "a", 3)), cleared(empty(0, 1), names("a"), nums(-3), 0)), nums(0, 1), nil},
		{facts(added(add(0, 1, "a", 3)), cleared(empty(0, 2), names("a"), nums(-3), 0)), nums(0, 1), ids(1)},
		{facts(changed(set(0, 1, "a", 3), 3), changed(remove(0, 2, "a"), 3), cleared(empty(0, 3), names("a"), nums(3)), Fact{Op: api.Op{Kind: 6, Cart: 4}}), nums(0, 1, 2, 3), nil},
	} {
		if got := Carts(c.facts, c.knows); !slices.Equal(got, c.want) {
			t.Errorf("Carts %v, %v: %v, not %v", c.facts, c.knows, got, c.want)
		}
		if got := some(c.facts, c.knows); !slices.Equal(got, c.want) {
			t.Errorf("the second reading of Carts %v, %v: %v, not %v", c.facts, c.knows, got, c.want)
		}
	}
}

// TestP1903All: a cart is among the carts if and only if View has something of it, whichever cart it is.
func TestP1903All(t *testing.T) {
	next := dice(5)
	for i := range 3 {
		l, knows := anyFacts(next, 10*i)
		carts := Carts(l, knows)
		for c := range 1 << 16 {
			v := View(l, knows, uint16(c))
			if got := len(v.Lines) > 0 || v.Note != (api.Name{}); got != slices.Contains(carts, uint16(c)) {
				t.Fatalf("Carts %v, %v: %v, and cart %d is %v", l, knows, carts, c, v)
			}
		}
	}
}

// TestP1904Lists: the theorem, for all short lists of events.
func TestP1904Lists(t *testing.T) {
	for n := range 4 {
		listsOf(deeds(), n, func(l []Event) {
			checkTheorem(t, 2, ample, l)
			checkTheorem(t, 2, 3, l)
		})
	}
	listsOf(deeds()[:8], 4, func(l []Event) { checkTheorem(t, 2, ample, l) })
	// From here on both know of one add and one note.
	start := events(add(0, 1, "a", 2), write(0, 1, "z"), merge(1, 0))
	listsOf(deeds()[:8], 4, func(l []Event) { checkTheorem(t, 2, ample, slices.Concat(start, l)) })
}

// TestP1904Runs: the theorem, for events without a pattern.
func TestP1904Runs(t *testing.T) {
	next := dice(6)
	for i := range 600 {
		n := int(next()%5 + 1)
		if i%10 == 0 {
			n = 16
		}
		checkTheorem(t, n, []int{ample, 20, 8, int(next() % 12)}[next()%4], anyEvents(next, n, i%80))
	}
}

// TestP1904Merged: after all have been merged with all, the facts say the same of each replica, and in any order of merging.
func TestP1904Merged(t *testing.T) {
	next := dice(7)
	for i := range 60 {
		n := int(next()%4 + 2)
		l := anyEvents(next, n, i+5)
		for range 2 {
			for from := range n {
				l = append(l, merge(uint8((from+1+i)%n), uint8((from+i)%n)))
			}
		}
		checkTheorem(t, n, ample, l)
		all, knows := Facts(n, ample, l)
		for rep := range n {
			if len(knows[rep]) != len(all) || !slices.Equal(knows[rep], knows[0]) {
				t.Fatalf("%v: of %d facts %d knows %v", l, len(all), rep, knows[rep])
			}
		}
	}
}

// TestP1904Example1: replicas 0 and 1 each add a cup and are merged; then 0 removes it while 1 adds it again; after another merge it is present.
func TestP1904Example1(t *testing.T) {
	l := events(add(0, 1, "cup", 2), add(1, 1, "cup", 3), merge(0, 1), merge(1, 0), remove(0, 1, "cup"), add(1, 1, "cup", 4), merge(0, 1), merge(1, 0))
	all, knows := Facts(2, ample, l)
	want := facts(added(add(0, 1, "cup", 2)), added(add(1, 1, "cup", 3)), changed(remove(0, 1, "cup"), -5, 0, 1), added(add(1, 1, "cup", 4), 0, 1))
	if !equalFacts(all, want) || !equalLists(knows, lists(nums(0, 1, 2, 3), nums(0, 1, 2, 3))) {
		t.Errorf("%v, %v", all, knows)
	}
	for rep, s := range States(2, ample, l) {
		if v := View(all, knows[rep], 1); !cart.Same(v, seen("", line("cup", 4))) || !cart.Same(v, cart.Of(s, 1)) || !slices.Equal(Carts(all, knows[rep]), ids(1)) {
			t.Errorf("replica %d: %v", rep, v)
		}
	}
	// Before the last merges 0 has no cup, and 1 has all of them.
	all, knows = Facts(2, ample, l[:6])
	if v := View(all, knows[0], 1); !cart.Same(v, seen("")) || len(Carts(all, knows[0])) != 0 {
		t.Errorf("replica 0: %v", v)
	}
	if v := View(all, knows[1], 1); !cart.Same(v, seen("", line("cup", 9))) {
		t.Errorf("replica 1: %v", v)
	}
}

// nameOf is one of 26^4 names, in the order of i.
func nameOf(i int) string {
	b := []byte("aaaa")
	for j := 3; j >= 0; j-- {
		b[j] += byte(i % 26)
		i /= 26
	}
	return string(b)
}

// TestMany: there may be many facts, carts and items.
func TestMany(t *testing.T) {
	const n = 1 << 12
	var l []Fact
	var knows, by []int
	var items []api.Name
	for i := range n {
		// 1637 and n have no factor in common, so each number occurs once.
		j := i * 1637 % n
		l = append(l, added(add(0, 1, nameOf(j), j)), added(add(1, uint16(j+2), "a", 1)))
		items, by = append(items, padded(nameOf(j))), append(by, -1)
		knows = append(knows, 2*i, 2*i+1)
	}
	// A Clear that saw the first half of the facts, and one that saw nothing.
	l = append(l, cleared(empty(0, 1), items, by, knows[:n]...), cleared(empty(0, 1), items, by))
	knows = append(knows, 2*n, 2*n+1)
	v := View(l, knows, 1)
	if len(v.Lines) != n/2 || len(Carts(l, knows)) != n+1 {
		t.Fatalf("%d lines, %d carts", len(v.Lines), len(Carts(l, knows)))
	}
	lost := map[api.Name]struct{}{}
	for i := range n / 2 {
		lost[l[2*i].Op.Item] = struct{}{}
	}
	k := 0
	for j := range n {
		if _, ok := lost[padded(nameOf(j))]; ok {
			continue
		}
		if want := line(nameOf(j), max(0, j-2)); v.Lines[k] != want {
			t.Fatalf("line %d: %v, not %v", k, v.Lines[k], want)
		}
		k++
	}
	next := dice(8)
	long := anyEvents(next, 6, 700)
	checkPlay(t, 6, ample, long)
	checkTheorem(t, 6, ample, long)
}

// TestArguments: arguments and their spare capacity stay as they are, and results are apart from them and from each other.
func TestArguments(t *testing.T) {
	next := dice(9)
	for i := range 100 {
		whole := anyEvents(next, 3, i%40+3)
		kept, l := slices.Clone(whole), whole[:len(whole)/2]
		want := told(3, ample, l)
		first := States(3, ample, l)
		for _, s := range first {
			// Each state apart from the others: what is written behind one is not seen in the next one.
			clear(s[:cap(s)])
		}
		results := Answers(3, ample, l)
		clear(results[:cap(results)])
		all, knows := Facts(3, ample, l)
		for j := range all {
			saw, items, by := all[j].Saw, all[j].Items, all[j].By
			if f := want.facts[j]; !slices.Equal(saw, f.Saw) || !slices.Equal(items, f.Items) || !slices.Equal(by, f.By) {
				t.Fatalf("%v: fact %d has changed to %v", l, j, all[j])
			}
			clear(saw[:cap(saw)])
			clear(items[:cap(items)])
			clear(by[:cap(by)])
		}
		for rep, k := range knows {
			if !slices.Equal(k, want.all()[rep]) {
				t.Fatalf("%v: what %d knows has changed to %v", l, rep, k)
			}
			clear(k[:cap(k)])
		}
		checkPlay(t, 3, ample, l)
		if !slices.Equal(whole, kept) {
			t.Fatalf("the events %v have changed to %v", kept, whole)
		}
	}
	for i := range 200 {
		l, knows := anyFacts(next, i%30+2)
		kept := make([]Fact, len(l))
		for i, f := range l {
			f.Saw, f.Items, f.By = slices.Clone(f.Saw), slices.Clone(f.Items), slices.Clone(f.By)
			kept[i] = f
		}
		known := slices.Clone(knows)
		want := viewed(l[:len(l)/2], knows[:len(knows)/2], 1)
		first, second := View(l[:len(l)/2], knows[:len(knows)/2], 1), View(l[:len(l)/2], knows[:len(knows)/2], 1)
		clear(first.Lines[:cap(first.Lines)])
		carts := Carts(l[:len(l)/2], knows[:len(knows)/2])
		clear(carts[:cap(carts)])
		if !cart.Same(second, want) || !equalFacts(l, kept) || !slices.Equal(knows, known) {
			t.Fatalf("the facts %v or the numbers %v have changed", kept, known)
		}
	}
}

// TestStatesApart: what is appended to one state, or changed in it, is not seen in that of a replica that was merged with it.
func TestStatesApart(t *testing.T) {
	l := events(add(0, 1, "a", 3), merge(1, 0), merge(2, 1), merge(2, 2), merge(0, 2), empty(3, 1))
	got, want := States(4, ample, l), States(4, ample, l)
	for rep := range got {
		clear(got[rep][:cap(got[rep])])
		for other := rep + 1; other < len(got); other++ {
			if !slices.Equal(got[other], want[other]) {
				t.Fatalf("the state of %d is part of that of %d", rep, other)
			}
		}
	}
	_, knows := Facts(4, ample, l)
	for rep := range knows {
		whole := knows[rep][:cap(knows[rep])]
		for i := range whole {
			whole[i] = 7
		}
		for other := rep + 1; other < 3; other++ {
			if !slices.Equal(knows[other], nums(0)) {
				t.Fatalf("what %d knows is part of what %d knows", rep, other)
			}
		}
	}
}

// TestRepeated: the order in which a map is visited is not to be seen.
func TestRepeated(t *testing.T) {
	next := dice(10)
	l := anyEvents(next, 4, 120)
	all, knows := anyFacts(next, 60)
	for i := range 40 {
		all = append(all, added(add(0, uint16(i%4), nameOf(i*77), i)), wrote(write(3, uint16(i%5), nameOf(i*11)), 1))
		knows = append(knows, 60+2*i, 61+2*i)
	}
	for range 4 {
		checkPlay(t, 4, ample, l)
		checkView(t, all, knows, 0, 1, 2, 3, 4)
	}
}

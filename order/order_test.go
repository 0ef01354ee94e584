package order

import (
	"math"
	"slices"
	"testing"

	"chinoiserie/api"
)

type pair = [2]int

// outside tells elements that no order of so many has.
func outside(many int) []int {
	return []int{-1, -2, -16, -64, many, many + 1, 16, 17, 63, 64, 1 << 32, math.MinInt, math.MaxInt}
}

func makeOrder(t *testing.T, many int, pairs ...pair) *Order {
	t.Helper()
	o, e := New(many)
	if e != api.OK || o == nil {
		t.Fatalf("New(%d): %v, %d", many, o, e)
	}
	for _, p := range pairs {
		if e := o.Add(p[0], p[1]); e != api.OK {
			t.Fatalf("Add(%d, %d) of %v: %d", p[0], p[1], pairs, e)
		}
	}
	return o
}

// row tells the pairs that lay so many elements in a row, increasing.
func row(many int) []pair {
	var pairs []pair
	for a := 1; a < many; a++ {
		pairs = append(pairs, pair{a - 1, a})
	}
	return pairs
}

// view is all that the methods tell of an order.
type view struct {
	many     int
	atMost   [][]bool
	up, down [][]int
	covers   []pair
	line     []int
}

func viewOf(o *Order) view {
	v := view{many: o.Many(), covers: o.Covers(), line: o.Line()}
	for a := range o.Many() {
		var is []bool
		for b := range o.Many() {
			is = append(is, o.AtMost(a, b))
		}
		v.atMost = append(v.atMost, is)
		v.up = append(v.up, o.Up(a))
		v.down = append(v.down, o.Down(a))
	}
	return v
}

// expected is what the definitions say of an order to which these pairs were added, found in another way than the program's.
func expected(many int, pairs []pair) view {
	v := view{many: many}
	below := make([][]bool, many)
	for a := range many {
		below[a] = make([]bool, many)
	}
	for _, p := range pairs {
		below[p[0]][p[1]] = true
	}
	for m := range many {
		for a := range many {
			for b := range many {
				below[a][b] = below[a][b] || below[a][m] && below[m][b]
			}
		}
	}
	for a := range many {
		is := make([]bool, many)
		var up, down []int
		for b := range many {
			is[b] = a == b || below[a][b]
			if is[b] {
				up = append(up, b)
			}
			if a == b || below[b][a] {
				down = append(down, b)
			}
			between := false
			for m := range many {
				between = between || below[a][m] && below[m][b]
			}
			if below[a][b] && !between {
				v.covers = append(v.covers, pair{a, b})
			}
		}
		v.atMost = append(v.atMost, is)
		v.up = append(v.up, up)
		v.down = append(v.down, down)
	}
	for len(v.line) < many {
		for a := range many {
			free := !slices.Contains(v.line, a)
			for b := range many {
				free = free && (slices.Contains(v.line, b) || !below[b][a])
			}
			if free {
				v.line = append(v.line, a)
				break
			}
		}
	}
	return v
}

func sameView(v, w view) bool {
	return v.many == w.many &&
		slices.EqualFunc(v.atMost, w.atMost, slices.Equal[[]bool]) &&
		slices.EqualFunc(v.up, w.up, slices.Equal[[]int]) &&
		slices.EqualFunc(v.down, w.down, slices.Equal[[]int]) &&
		slices.Equal(v.covers, w.covers) && slices.Equal(v.line, w.line)
}

func expectView(t *testing.T, o *Order, want view) {
	t.Helper()
	if got := viewOf(o); !sameView(got, want) {
		t.Fatalf("the order is\n%v, not\n%v", got, want)
	}
}

// sampler tells numbers that look drawn and are the same in every run.
type sampler uint64

func (s *sampler) below(n int) int {
	*s = *s*6364136223846793005 + 1442695040888963407
	return int(uint64(*s) >> 33 % uint64(n))
}

// shuffled tells the pairs in another sequence.
func (s *sampler) shuffled(pairs []pair) []pair {
	all := slices.Clone(pairs)
	for i := len(all) - 1; i > 0; i-- {
		j := s.below(i + 1)
		all[i], all[j] = all[j], all[i]
	}
	return all
}

// acyclic tells pairs that an order of so many accepts in any sequence.
func (s *sampler) acyclic(many, tries int) []pair {
	rank := make([]int, many)
	for a := range many {
		rank[a] = a
	}
	for i := many - 1; i > 0; i-- {
		j := s.below(i + 1)
		rank[i], rank[j] = rank[j], rank[i]
	}
	var pairs []pair
	for range tries {
		if a, b := s.below(many), s.below(many); rank[a] < rank[b] {
			pairs = append(pairs, pair{a, b})
		}
	}
	return pairs
}

// eachOrder goes through all sets of pairs of so many elements that close no cycle.
func eachOrder(many int, do func(pairs []pair)) {
	var all []pair
	for a := range many {
		for b := range many {
			if a != b {
				all = append(all, pair{a, b})
			}
		}
	}
	for chosen := range 1 << len(all) {
		var pairs []pair
		for i, p := range all {
			if chosen>>i&1 == 1 {
				pairs = append(pairs, p)
			}
		}
		if !cyclic(many, pairs) {
			do(pairs)
		}
	}
}

// cyclic tells whether elements remain of which each has a remaining one below it.
func cyclic(many int, pairs []pair) bool {
	gone := make([]bool, many)
	for range many {
		for a := range many {
			free := true
			for _, p := range pairs {
				free = free && (p[1] != a || gone[p[0]])
			}
			gone[a] = gone[a] || free
		}
	}
	return slices.Contains(gone, false)
}

// The table 'Examples' of the chapter.
func TestExamples(t *testing.T) {
	o := makeOrder(t, 4, pair{0, 1}, pair{1, 2})
	if !o.AtMost(0, 2) {
		t.Error("0 is not at most 2")
	}
	if e := o.Add(2, 0); e != api.ErrCycle {
		t.Error("Add(2, 0):", e)
	}
	if up, down := o.Up(1), o.Down(2); !slices.Equal(up, []int{1, 2}) || !slices.Equal(down, []int{0, 1, 2}) {
		t.Error("Up(1):", up, "Down(2):", down)
	}
	if c, l := o.Covers(), o.Line(); !slices.Equal(c, []pair{{0, 1}, {1, 2}}) || !slices.Equal(l, []int{0, 1, 2, 3}) {
		t.Error("Covers:", c, "Line:", l)
	}
	if e := o.Add(0, 2); e != api.OK {
		t.Error("Add(0, 2):", e)
	}
	if c := o.Covers(); !slices.Equal(c, []pair{{0, 1}, {1, 2}}) {
		t.Error("Covers:", c)
	}
	if e := o.Add(3, 0); e != api.OK {
		t.Error("Add(3, 0):", e)
	}
	if l := o.Line(); !slices.Equal(l, []int{3, 0, 1, 2}) {
		t.Error("Line:", l)
	}
}

// P2.1
func TestNewAndMany(t *testing.T) {
	for _, many := range []int{math.MinInt, -65535, -16, -1, 0, 17, 18, 32, 64, 65537, 1 << 32, 1<<32 + 1, math.MaxInt} {
		if o, e := New(many); o != nil || e != api.ErrArg {
			t.Errorf("New(%d): %v, %d", many, o, e)
		}
	}
	for many := 1; many <= 16; many++ {
		o := makeOrder(t, many)
		if o.Many() != many {
			t.Errorf("New(%d).Many(): %d", many, o.Many())
		}
		for a := range many {
			for b := range many {
				if o.AtMost(a, b) != (a == b) {
					t.Errorf("a new order of %d: AtMost(%d, %d)", many, a, b)
				}
			}
		}
	}
}

// P2.1
func TestManyStays(t *testing.T) {
	o := makeOrder(t, 5, row(5)...)
	o.Add(4, 0)
	o.Add(5, 0)
	if o.Many() != 5 {
		t.Error("Many:", o.Many())
	}
}

// P2.1
func TestAddOfWhatIsNoElement(t *testing.T) {
	for _, many := range []int{1, 2, 3, 15, 16} {
		o := makeOrder(t, many, row(many)...)
		before := viewOf(o)
		for _, x := range outside(many) {
			if x >= 0 && x < many {
				continue
			}
			for _, p := range []pair{{x, 0}, {0, x}, {x, many - 1}, {many - 1, x}, {x, x}, {x, -x}, {-x, x}, {x, x + 1}, {x, many}, {-1, x}} {
				if e := o.Add(p[0], p[1]); e != api.ErrRange {
					t.Errorf("of %d Add(%d, %d): %d", many, p[0], p[1], e)
				}
			}
		}
		expectView(t, o, before)
	}
}

// P2.1
func TestAddOfAnElementAndItself(t *testing.T) {
	for _, many := range []int{1, 2, 16} {
		o := makeOrder(t, many)
		for a := range many {
			if e := o.Add(a, a); e != api.ErrCycle {
				t.Errorf("of %d Add(%d, %d): %d", many, a, a, e)
			}
		}
		expectView(t, o, expected(many, nil))
	}
}

// P2.1
func TestAddOfWhatIsSoAlready(t *testing.T) {
	o := makeOrder(t, 4, pair{0, 1}, pair{1, 2}, pair{2, 3})
	before := viewOf(o)
	for _, p := range []pair{{0, 1}, {0, 1}, {1, 2}, {2, 3}, {0, 2}, {1, 3}, {0, 3}, {0, 3}} {
		if e := o.Add(p[0], p[1]); e != api.OK {
			t.Errorf("Add(%d, %d): %d", p[0], p[1], e)
		}
	}
	expectView(t, o, before)
}

// P2.1
func TestAddOfWhatClosesACycle(t *testing.T) {
	for many := 2; many <= 16; many++ {
		o := makeOrder(t, many, row(many)...)
		before := viewOf(o)
		for low := range many {
			for high := range low {
				if e := o.Add(low, high); e != api.ErrCycle {
					t.Errorf("in a row of %d Add(%d, %d): %d", many, low, high, e)
				}
			}
		}
		expectView(t, o, before)
	}
	// A cycle over a fork, and its elements not in the sequence of their numbers.
	o := makeOrder(t, 7, pair{6, 2}, pair{2, 5}, pair{2, 0}, pair{5, 1}, pair{0, 1}, pair{1, 3})
	for _, low := range []int{6, 2, 5, 0, 1, 3} {
		if e := o.Add(low, 6); e != api.ErrCycle {
			t.Errorf("Add(%d, 6): %d", low, e)
		}
	}
	if e := o.Add(4, 6); e != api.OK {
		t.Errorf("Add(4, 6): %d", e)
	}
	if e := o.Add(3, 4); e != api.ErrCycle {
		t.Errorf("Add(3, 4): %d", e)
	}
}

// P2.2
func TestWhatIsNoElementIsNotThere(t *testing.T) {
	for _, many := range []int{1, 2, 3, 15, 16} {
		o := makeOrder(t, many, row(many)...)
		for _, x := range outside(many) {
			if x >= 0 && x < many {
				continue
			}
			if o.AtMost(x, 0) || o.AtMost(0, x) || o.AtMost(x, many-1) || o.AtMost(many-1, x) || o.AtMost(x, x) {
				t.Errorf("of %d: AtMost with %d", many, x)
			}
			if up, down := o.Up(x), o.Down(x); len(up) != 0 || len(down) != 0 {
				t.Errorf("of %d: Up(%d) %v, Down(%d) %v", many, x, up, x, down)
			}
		}
	}
}

// P2.2, P2.3
func TestNoPairWasAdded(t *testing.T) {
	for many := 1; many <= 16; many++ {
		o := makeOrder(t, many)
		expectView(t, o, expected(many, nil))
		if len(o.Covers()) != 0 {
			t.Errorf("of %d Covers: %v", many, o.Covers())
		}
		for a, x := range o.Line() {
			if a != x {
				t.Errorf("of %d Line: %v", many, o.Line())
			}
		}
	}
}

// P2.2, P2.3
func TestAllInARow(t *testing.T) {
	for many := 1; many <= 16; many++ {
		up := row(many)
		var down []pair
		for _, p := range up {
			down = append(down, pair{p[1], p[0]})
		}
		for _, pairs := range [][]pair{up, down} {
			o := makeOrder(t, many, pairs...)
			expectView(t, o, expected(many, pairs))
			if !slices.Equal(o.Covers(), pairs) {
				t.Errorf("Covers of %v: %v", pairs, o.Covers())
			}
		}
		o := makeOrder(t, many, down...)
		if line := o.Line(); len(line) != many || line[0] != many-1 || line[many-1] != 0 {
			t.Errorf("Line of %v: %v", down, line)
		}
		if got := o.Down(0); len(got) != many || !slices.IsSorted(got) {
			t.Errorf("Down(0) of %v: %v", down, got)
		}
		if got := o.Up(many - 1); len(got) != many || !slices.IsSorted(got) {
			t.Errorf("Up(%d) of %v: %v", many-1, down, got)
		}
	}
}

// P2.3
func TestLineTakesTheSmallestThatIsFree(t *testing.T) {
	for _, c := range []struct {
		many   int
		pairs  []pair
		covers []pair
		line   []int
	}{
		{1, nil, nil, []int{0}},
		{2, []pair{{1, 0}}, []pair{{1, 0}}, []int{1, 0}},
		{4, []pair{{3, 0}}, []pair{{3, 0}}, []int{1, 2, 3, 0}},
		{4, []pair{{2, 0}}, []pair{{2, 0}}, []int{1, 2, 0, 3}},
		{4, []pair{{3, 1}, {1, 0}}, []pair{{1, 0}, {3, 1}}, []int{2, 3, 1, 0}},
		{4, []pair{{0, 1}, {0, 2}, {1, 3}, {2, 3}}, []pair{{0, 1}, {0, 2}, {1, 3}, {2, 3}}, []int{0, 1, 2, 3}},
		{4, []pair{{3, 1}, {3, 2}, {1, 0}, {2, 0}, {3, 0}}, []pair{{1, 0}, {2, 0}, {3, 1}, {3, 2}}, []int{3, 1, 2, 0}},
		{5, []pair{{0, 4}, {0, 3}, {0, 1}}, []pair{{0, 1}, {0, 3}, {0, 4}}, []int{0, 1, 2, 3, 4}},
		{16, []pair{{15, 0}, {14, 15}}, []pair{{14, 15}, {15, 0}}, []int{1, 2, 3, 4, 5, 6, 7, 8, 9, 10, 11, 12, 13, 14, 15, 0}},
	} {
		o := makeOrder(t, c.many, c.pairs...)
		if got := o.Covers(); !slices.Equal(got, c.covers) {
			t.Errorf("Covers of %v: %v", c.pairs, got)
		}
		if got := o.Line(); !slices.Equal(got, c.line) {
			t.Errorf("Line of %v: %v", c.pairs, got)
		}
	}
}

// P2.1 to P2.3
func TestAllSmallOrders(t *testing.T) {
	for many := 1; many <= 4; many++ {
		eachOrder(many, func(pairs []pair) {
			o := makeOrder(t, many, pairs...)
			want := expected(many, pairs)
			expectView(t, o, want)
			for low := range many {
				for high := range many {
					e := o.Copy().Add(low, high)
					if (e == api.ErrCycle) != want.atMost[high][low] || e != api.ErrCycle && e != api.OK {
						t.Fatalf("Add(%d, %d) after %v: %d", low, high, pairs, e)
					}
				}
			}
		})
	}
}

// P2.1 to P2.3, P2.6
func TestRefusedPairsAmongOthers(t *testing.T) {
	var s sampler
	for range 200 {
		many := 1 + s.below(16)
		o := makeOrder(t, many)
		var accepted []pair
		for range 3 * many {
			p := pair{s.below(many+2) - 1, s.below(many+2) - 1}
			want := api.OK
			if p[0] < 0 || p[0] >= many || p[1] < 0 || p[1] >= many {
				want = api.ErrRange
			} else if expected(many, accepted).atMost[p[1]][p[0]] {
				want = api.ErrCycle
			}
			if e := o.Add(p[0], p[1]); e != want {
				t.Fatalf("of %d Add(%d, %d) after %v: %d, not %d", many, p[0], p[1], accepted, e, want)
			}
			if want == api.OK {
				accepted = append(accepted, p)
			}
			expectView(t, o, expected(many, accepted))
		}
	}
}

// P2.4
func TestAnErrorChangesNothing(t *testing.T) {
	pairs := []pair{{0, 2}, {1, 2}, {2, 4}, {5, 4}}
	o := makeOrder(t, 6, pairs...)
	for range 2 {
		for _, p := range []pair{{4, 0}, {4, 1}, {2, 0}, {3, 3}, {0, 0}, {4, 5}} {
			if e := o.Add(p[0], p[1]); e != api.ErrCycle {
				t.Errorf("Add(%d, %d): %d", p[0], p[1], e)
			}
			expectView(t, o, expected(6, pairs))
		}
		for _, p := range []pair{{-1, 0}, {0, -1}, {6, 0}, {0, 6}, {6, 6}, {0, 16}, {16, 0}, {2, 17}} {
			if e := o.Add(p[0], p[1]); e != api.ErrRange {
				t.Errorf("Add(%d, %d): %d", p[0], p[1], e)
			}
			expectView(t, o, expected(6, pairs))
		}
	}
	if e := o.Add(4, 3); e != api.OK {
		t.Error("Add(4, 3):", e)
	}
	expectView(t, o, expected(6, append(pairs, pair{4, 3})))
}

// P2.4
func TestACopyHasItsOwnMemory(t *testing.T) {
	pairs := []pair{{0, 1}, {1, 3}}
	o := makeOrder(t, 5, pairs...)
	c := o.Copy()
	if c == nil || c == o {
		t.Fatal("Copy:", c)
	}
	expectView(t, c, expected(5, pairs))
	if e := c.Add(3, 4); e != api.OK {
		t.Error("Add to the copy:", e)
	}
	expectView(t, o, expected(5, pairs))
	if e := o.Add(4, 3); e != api.OK {
		t.Error("Add to the original:", e)
	}
	if e := o.Add(2, 0); e != api.OK {
		t.Error("Add to the original:", e)
	}
	expectView(t, c, expected(5, append(slices.Clone(pairs), pair{3, 4})))
	expectView(t, o, expected(5, append(slices.Clone(pairs), pair{4, 3}, pair{2, 0})))
	again := c.Copy()
	if e := again.Add(2, 4); e != api.OK || c.AtMost(2, 4) || o.AtMost(3, 4) {
		t.Error("Add to a copy's copy:", e, viewOf(c), viewOf(o))
	}
}

// P2.4
func TestNewOrdersAreApart(t *testing.T) {
	a, b := makeOrder(t, 3), makeOrder(t, 3)
	a.Add(0, 1)
	expectView(t, b, expected(3, nil))
	b.Add(1, 0)
	expectView(t, a, expected(3, []pair{{0, 1}}))
}

// P2.4
func TestResultsAreNewMemory(t *testing.T) {
	pairs := []pair{{0, 1}, {1, 2}, {0, 3}}
	o := makeOrder(t, 5, pairs...)
	want := expected(5, pairs)
	// The room behind a result is overwritten too: another result might lie there.
	spoil := func(list []int) {
		for i := range list[:cap(list)] {
			list[:cap(list)][i] = -7
		}
	}
	for range 2 {
		kept := viewOf(o)
		for a := range 5 {
			spoil(o.Up(a))
			spoil(o.Down(a))
		}
		spoil(o.Line())
		covers := o.Covers()
		for i := range covers[:cap(covers)] {
			covers[:cap(covers)][i] = pair{-7, -7}
		}
		if !sameView(kept, want) {
			t.Fatal("a later result changed an earlier one:", kept)
		}
		expectView(t, o, want)
	}
	line, up, down, covers := o.Line(), o.Up(0), o.Down(2), o.Covers()
	o.Add(4, 0)
	if !slices.Equal(line, want.line) || !slices.Equal(up, want.up[0]) || !slices.Equal(down, want.down[2]) || !slices.Equal(covers, want.covers) {
		t.Error("Add changed an earlier result:", line, up, down, covers)
	}
}

// P2.5
func TestItIsAPartialOrder(t *testing.T) {
	check := func(o *Order, pairs []pair) {
		for a := range o.Many() {
			if !o.AtMost(a, a) {
				t.Fatal("not reflexive:", pairs, a)
			}
			for b := range o.Many() {
				if a != b && o.AtMost(a, b) && o.AtMost(b, a) {
					t.Fatal("not antisymmetric:", pairs, a, b)
				}
				for c := range o.Many() {
					if o.AtMost(a, b) && o.AtMost(b, c) && !o.AtMost(a, c) {
						t.Fatal("not transitive:", pairs, a, b, c)
					}
				}
			}
		}
	}
	eachOrder(4, func(pairs []pair) { check(makeOrder(t, 4, pairs...), pairs) })
	var s sampler
	for range 300 {
		many := 1 + s.below(16)
		o := makeOrder(t, many)
		var tried []pair
		for range 2 * many {
			p := pair{s.below(many), s.below(many)}
			tried = append(tried, p)
			o.Add(p[0], p[1])
		}
		check(o, tried)
	}
}

// P2.6
func TestWhatWasAddedLiesBelow(t *testing.T) {
	var s sampler
	for range 300 {
		many := 1 + s.below(16)
		pairs := s.acyclic(many, 3*many)
		o := makeOrder(t, many, pairs...)
		for _, p := range pairs {
			if !o.AtMost(p[0], p[1]) || o.AtMost(p[1], p[0]) {
				t.Fatalf("%v was added, of %v", p, pairs)
			}
		}
		expectView(t, o, expected(many, pairs))
	}
}

// P2.6
func TestTheSequenceOfPairsDoesNotMatter(t *testing.T) {
	pairs := []pair{{0, 1}, {1, 2}, {3, 2}, {0, 2}, {4, 0}}
	want := expected(5, pairs)
	permute(pairs, 0, func(seq []pair) {
		expectView(t, makeOrder(t, 5, seq...), want)
	})
	var s sampler
	for range 100 {
		many := 2 + s.below(15)
		pairs := s.acyclic(many, 3*many)
		want := viewOf(makeOrder(t, many, pairs...))
		backwards := slices.Clone(pairs)
		slices.Reverse(backwards)
		expectView(t, makeOrder(t, many, backwards...), want)
		for range 5 {
			expectView(t, makeOrder(t, many, s.shuffled(pairs)...), want)
		}
	}
	long := row(16)
	for range 50 {
		expectView(t, makeOrder(t, 16, s.shuffled(long)...), expected(16, long))
	}
}

// permute goes through all sequences of the pairs from the place at on.
func permute(pairs []pair, at int, do func([]pair)) {
	if at == len(pairs) {
		do(pairs)
		return
	}
	for i := at; i < len(pairs); i++ {
		pairs[at], pairs[i] = pairs[i], pairs[at]
		permute(pairs, at+1, do)
		pairs[at], pairs[i] = pairs[i], pairs[at]
	}
}

// checkCovers tells whether the covering pairs, and no fewer of them, make the order again, and whether Line goes upwards.
func checkCovers(t *testing.T, o *Order) {
	t.Helper()
	many, covers := o.Many(), o.Covers()
	expectView(t, makeOrder(t, many, covers...), viewOf(o))
	for i := range covers {
		fewer := slices.Delete(slices.Clone(covers), i, i+1)
		if makeOrder(t, many, fewer...).AtMost(covers[i][0], covers[i][1]) {
			t.Fatalf("of %v the pair %v follows from the others", covers, covers[i])
		}
	}
	line := o.Line()
	if got := slices.Sorted(slices.Values(line)); len(got) != many || len(slices.Compact(got)) != many || slices.Min(line) < 0 || slices.Max(line) >= many {
		t.Fatalf("of %v Line: %v", covers, line)
	}
	for i, a := range line {
		for _, b := range line[i+1:] {
			if o.AtMost(b, a) {
				t.Fatalf("of %v Line: %v: %d lies below %d", covers, line, b, a)
			}
		}
	}
}

// P2.7
func TestCoversDetermineTheOrderAndLineGoesUp(t *testing.T) {
	for many := 1; many <= 4; many++ {
		eachOrder(many, func(pairs []pair) { checkCovers(t, makeOrder(t, many, pairs...)) })
	}
	var s sampler
	for i := range 200 {
		many := 1 + s.below(16)
		checkCovers(t, makeOrder(t, many, s.acyclic(many, i)...))
	}
	// Each pair of a row, most of them not covering.
	var all []pair
	for b := range 16 {
		for a := range b {
			all = append(all, pair{a, b})
		}
	}
	o := makeOrder(t, 16, s.shuffled(all)...)
	checkCovers(t, o)
	if got := o.Covers(); !slices.Equal(got, row(16)) {
		t.Error("Covers:", got)
	}
}

// The sentence ahead of the promises.
func TestNilAndZeroOrders(t *testing.T) {
	for name, o := range map[string]*Order{"nil": nil, "zero": {}} {
		for range 2 {
			if o.Many() != 0 || len(o.Covers()) != 0 || len(o.Line()) != 0 || o.Copy() != nil {
				t.Error(name, viewOf(o), o.Copy())
			}
			for _, a := range []int{0, 1, 15, 16, -1, math.MinInt, math.MaxInt} {
				if len(o.Up(a)) != 0 || len(o.Down(a)) != 0 {
					t.Error(name, a, o.Up(a), o.Down(a))
				}
				for _, b := range []int{0, 1, 15, 16, -1, math.MinInt, math.MaxInt} {
					if e := o.Add(a, b); e != api.ErrNil || o.AtMost(a, b) {
						t.Error(name, a, b, e, o.AtMost(a, b))
					}
				}
			}
		}
	}
}

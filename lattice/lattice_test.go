package lattice

import (
	"math"
	"slices"
	"strings"
	"sync"
	"testing"
	"unsafe"

	"chinoiserie/api"
)

type pair = [2]int

// someNames tells so many names, of which one begins with another one.
func someNames(many int) []string {
	all := []string{"low", "a", "lo", "high", "a-1", "z", "abcdefghijkl", "b", "low2", "c--", "k", "l", "m", "n", "o", "p", "q"}
	return slices.Clone(all[:many])
}

// outside tells numbers that are no labels where there are so many.
func outside(many int) []int {
	var all []int
	for _, x := range []int{math.MinInt, -1 << 32, -64, -10, -2, -1, many, many + 1, 9, 10, 11, 15, 16, 63, 64, 1 << 32, math.MaxInt} {
		if x < 0 || x >= many {
			all = append(all, x)
		}
	}
	return all
}

// shape is labels and pairs; what the definitions say of it is found in another way than the program's.
type shape struct {
	many  int
	pairs []pair
	leq   [][]bool
}

func shapeOf(many int, pairs []pair) shape {
	leq := make([][]bool, many)
	for a := range many {
		leq[a] = make([]bool, many)
		leq[a][a] = true
	}
	for _, p := range pairs {
		leq[p[0]][p[1]] = true
	}
	for m := range many {
		for a := range many {
			for b := range many {
				leq[a][b] = leq[a][b] || leq[a][m] && leq[m][b]
			}
		}
	}
	return shape{many, pairs, leq}
}

func (s shape) cyclic() bool {
	for _, p := range s.pairs {
		if s.leq[p[1]][p[0]] {
			return true
		}
	}
	return false
}

func (s shape) join(a, b int) (int, bool) {
	return s.bound(a, b, func(x, y int) bool { return s.leq[x][y] })
}

func (s shape) meet(a, b int) (int, bool) {
	return s.bound(a, b, func(x, y int) bool { return s.leq[y][x] })
}

// bound finds what both are at most, and what is at most all that both are at most; atMost tells the order, or the order turned round.
func (s shape) bound(a, b int, atMost func(x, y int) bool) (int, bool) {
	for c := range s.many {
		is := atMost(a, c) && atMost(b, c)
		for d := range s.many {
			is = is && (!atMost(a, d) || !atMost(b, d) || atMost(c, d))
		}
		if is {
			return c, true
		}
	}
	return -1, false
}

func (s shape) upsideDown() shape {
	var pairs []pair
	for _, p := range s.pairs {
		pairs = append(pairs, pair{p[1], p[0]})
	}
	return shapeOf(s.many, pairs)
}

// extreme finds the label that all labels are at most.
func (s shape) extreme() int {
	for a := range s.many {
		all := true
		for b := range s.many {
			all = all && s.leq[b][a]
		}
		if all {
			return a
		}
	}
	return -1
}

func (s shape) code(a int) int {
	sum := 0
	power := 1
	for k := range s.many {
		if s.leq[k][a] {
			sum += power
		}
		power *= 2
	}
	return sum
}

// fault is the error that Make has to return of these labels and pairs.
func (s shape) fault() api.Errno {
	if s.cyclic() {
		return api.ErrCycle
	}
	for a := range s.many {
		for b := range s.many {
			_, up := s.join(a, b)
			_, down := s.meet(a, b)
			if !up || !down {
				return api.ErrLattice
			}
		}
	}
	return api.OK
}

// renumbered is the same shape with other numbers: label a is now label to[a].
func (s shape) renumbered(to []int) shape {
	var pairs []pair
	for _, p := range s.pairs {
		pairs = append(pairs, pair{to[p[0]], to[p[1]]})
	}
	return shapeOf(s.many, pairs)
}

func (s shape) make(t *testing.T) *Lattice {
	t.Helper()
	l, e := Make(someNames(s.many), s.pairs)
	if e != api.OK || l == nil {
		t.Fatalf("Make of %d labels, %v: %v, %d", s.many, s.pairs, l, e)
	}
	return l
}

// expectShape holds all that the methods tell against the definitions.
func expectShape(t *testing.T, l *Lattice, s shape) {
	t.Helper()
	if l.Many() != s.many {
		t.Fatalf("%v: Many %d, not %d", s.pairs, l.Many(), s.many)
	}
	low, high := s.upsideDown().extreme(), s.extreme()
	if l.Low() != api.Label(low) || l.High() != api.Label(high) {
		t.Fatalf("%v: Low %d, High %d, not %d, %d", s.pairs, l.Low(), l.High(), low, high)
	}
	names := someNames(s.many)
	for a := range s.many {
		x := api.Label(a)
		if l.Name(x) != names[a] {
			t.Fatalf("%v: Name(%d) %q", s.pairs, a, l.Name(x))
		}
		if f, ok := l.Find(names[a]); f != x || !ok {
			t.Fatalf("%v: Find(%q) %d, %t", s.pairs, names[a], f, ok)
		}
		code := s.code(a)
		if l.Code(x) != code {
			t.Fatalf("%v: Code(%d) %d, not %d", s.pairs, a, l.Code(x), code)
		}
		if d, e := l.Decode(code); d != x || e != api.OK {
			t.Fatalf("%v: Decode(%d) %d, %d, not %d", s.pairs, code, d, e, a)
		}
		for b := range s.many {
			y := api.Label(b)
			if l.Leq(x, y) != s.leq[a][b] {
				t.Fatalf("%v: Leq(%d, %d) %t", s.pairs, a, b, l.Leq(x, y))
			}
			join, _ := s.join(a, b)
			meet, _ := s.meet(a, b)
			if l.Join(x, y) != api.Label(join) || l.Meet(x, y) != api.Label(meet) {
				t.Fatalf("%v: of %d, %d Join %d, Meet %d, not %d, %d", s.pairs, a, b, l.Join(x, y), l.Meet(x, y), join, meet)
			}
		}
	}
}

// sampler tells numbers that look drawn and are the same in every run.
type sampler uint64

func (s *sampler) below(n int) int {
	*s = *s*6364136223846793005 + 1442695040888963407
	return int(uint64(*s) >> 33 % uint64(n))
}

func (s *sampler) permutation(many int) []int {
	all := make([]int, many)
	for i := range all {
		j := s.below(i + 1)
		all[i] = all[j]
		all[j] = i
	}
	return all
}

// chain tells so many labels in a row, increasing.
func chain(many int) shape {
	var pairs []pair
	for a := 1; a < many; a++ {
		pairs = append(pairs, pair{a - 1, a})
	}
	return shapeOf(many, pairs)
}

// grid tells the pairs of two numbers, one below wide and one below high: a label lies below what is greater in one of them.
func grid(wide, high int) shape {
	var pairs []pair
	for x := range wide {
		for y := range high {
			if x > 0 {
				pairs = append(pairs, pair{(x-1)*high + y, x*high + y})
			}
			if y > 0 {
				pairs = append(pairs, pair{x*high + y - 1, x*high + y})
			}
		}
	}
	return shapeOf(wide*high, pairs)
}

// fan tells a low label, a high label and so many between them that have nothing to do with each other.
func fan(between int) shape {
	var pairs []pair
	for a := 1; a <= between; a++ {
		pairs = append(pairs, pair{0, a}, pair{a, between + 1})
	}
	return shapeOf(between+2, pairs)
}

// subsets tells the sets of three things.
func subsets() shape {
	var pairs []pair
	for a := range 8 {
		for bit := 1; bit < 8; bit *= 2 {
			if a&bit == 0 {
				pairs = append(pairs, pair{a, a | bit})
			}
		}
	}
	return shapeOf(8, pairs)
}

// someShapes tells lattices: chains, and some that are none, upside down too, each with its numbers as they are, turned round, and mixed.
func someShapes() []shape {
	var first []shape
	for many := 1; many <= api.MaxLabels; many++ {
		first = append(first, chain(many))
	}
	for between := 2; between <= api.MaxLabels-2; between++ {
		first = append(first, fan(between))
	}
	first = append(first, grid(2, 3), grid(2, 4), grid(2, 5), grid(3, 3), subsets())
	// A pentagon; a diamond on a diamond; a diamond whose pairs are all there, not only those of neighbours; a chain beside three labels.
	first = append(first,
		shapeOf(5, []pair{{0, 1}, {1, 2}, {2, 4}, {0, 3}, {3, 4}}),
		shapeOf(7, []pair{{0, 1}, {0, 2}, {1, 3}, {2, 3}, {3, 4}, {3, 5}, {4, 6}, {5, 6}}),
		shapeOf(4, []pair{{0, 3}, {0, 1}, {1, 3}, {2, 3}, {0, 2}, {0, 1}, {0, 3}}),
		shapeOf(10, []pair{{0, 1}, {1, 2}, {2, 9}, {0, 3}, {3, 9}, {0, 4}, {4, 9}, {0, 5}, {5, 6}, {6, 7}, {7, 8}, {8, 9}}),
	)
	var all []shape
	var s sampler
	for _, f := range first {
		back := make([]int, f.many)
		for a := range back {
			back[a] = f.many - 1 - a
		}
		all = append(all, f, f.upsideDown(), f.renumbered(back))
		for range 3 {
			all = append(all, f.renumbered(s.permutation(f.many)))
		}
	}
	return all
}

// The table 'Examples' of the chapter.
func TestExamples(t *testing.T) {
	l, e := Make([]string{"low", "a", "b", "high"}, []pair{{0, 1}, {0, 2}, {1, 3}, {2, 3}})
	if e != api.OK {
		t.Fatal(e)
	}
	if l.Leq(1, 2) || !l.Leq(0, 3) || l.Join(1, 2) != 3 || l.Meet(1, 2) != 0 || l.Join(1, 9) != 3 {
		t.Error("Leq, Join, Meet:", l.Leq(1, 2), l.Leq(0, 3), l.Join(1, 2), l.Meet(1, 2), l.Join(1, 9))
	}
	if l.Low() != 0 || l.High() != 3 || l.Name(2) != "b" {
		t.Error("Low, High, Name:", l.Low(), l.High(), l.Name(2))
	}
	if a, ok := l.Find("b"); a != 2 || !ok {
		t.Error("Find(b):", a, ok)
	}
	if a, ok := l.Find("c"); a != 0 || ok {
		t.Error("Find(c):", a, ok)
	}
	if l.Code(1) != 3 || l.Code(3) != 15 {
		t.Error("Code:", l.Code(1), l.Code(3))
	}
	if a, e := l.Decode(5); a != 2 || e != api.OK {
		t.Error("Decode(5):", a, e)
	}
	if a, e := l.Decode(6); a != 0 || e != api.ErrForm {
		t.Error("Decode(6):", a, e)
	}
	refuse(t, []string{"a", "b"}, nil, api.ErrLattice)
	refuse(t, []string{"a", "a"}, nil, api.ErrName)
	refuse(t, []string{"a", "b"}, []pair{{0, 1}, {1, 0}}, api.ErrCycle)
}

func refuse(t *testing.T, names []string, below []pair, want api.Errno) {
	t.Helper()
	if l, e := Make(names, below); l != nil || e != want {
		t.Errorf("Make(%.60q, %v): %v, %d, not %d", names, below, l, e, want)
	}
}

// P3.1
func TestHowManyNames(t *testing.T) {
	refuse(t, nil, nil, api.ErrArg)
	refuse(t, []string{}, []pair{}, api.ErrArg)
	for many := 1; many <= api.MaxLabels; many++ {
		expectShape(t, chain(many).make(t), chain(many))
	}
	for many := api.MaxLabels + 1; many <= 17; many++ {
		refuse(t, someNames(many), chain(many).pairs, api.ErrArg)
		refuse(t, someNames(many), chain(api.MaxLabels).pairs, api.ErrArg)
	}
	refuse(t, make([]string, 1<<16+1), nil, api.ErrArg)
}

// P3.1
func TestEachNameIsAName(t *testing.T) {
	wrong := []string{"", "1a", "-a", "A", "aB", "abcdefghijklm", strings.Repeat("a", api.MaxText), "a b", " a", "a ", "a\n", "a.b", "a_b", "é", "a\x00", "a\xff"}
	for _, many := range []int{1, 2, 3, api.MaxLabels} {
		for at := range many {
			for _, w := range wrong {
				names := someNames(many)
				names[at] = w
				refuse(t, names, chain(many).pairs, api.ErrName)
			}
		}
	}
	for _, right := range []string{"a", "z", "a-1", "z-", "a--0", "abcdefghijkl", "x-0123456789"} {
		l, e := Make([]string{right}, nil)
		if e != api.OK || l.Name(0) != right {
			t.Errorf("Make(%q): %d", right, e)
		}
	}
}

// P3.1
func TestNoNameOccursTwice(t *testing.T) {
	for _, many := range []int{2, 3, api.MaxLabels} {
		for first := range many {
			for second := first + 1; second < many; second++ {
				names := someNames(many)
				names[second] = names[first]
				refuse(t, names, chain(many).pairs, api.ErrName)
			}
		}
	}
	for _, a := range []string{"a", "ab", "abc", "b", "a-"} {
		for _, b := range []string{"ba", "abcd", "a1", "c"} {
			if _, e := Make([]string{a, b}, []pair{{0, 1}}); e != api.OK {
				t.Errorf("Make(%q, %q): %d", a, b, e)
			}
		}
	}
}

// P3.1
func TestEachPairIsOfLabels(t *testing.T) {
	for many := 1; many <= api.MaxLabels; many++ {
		names := someNames(many)
		for _, x := range outside(many) {
			for _, p := range []pair{{x, 0}, {0, x}, {x, many - 1}, {many - 1, x}, {x, x}, {x, -x}, {-1, x}, {x, many}} {
				row := chain(many).pairs
				refuse(t, names, []pair{p}, api.ErrRange)
				refuse(t, names, append([]pair{p}, row...), api.ErrRange)
				refuse(t, names, append(slices.Clone(row), p), api.ErrRange)
				refuse(t, names, append(append(slices.Clone(row), p), row...), api.ErrRange)
				refuse(t, names, []pair{{0, 0}, p}, api.ErrRange)
				refuse(t, names, append(slices.Clone(row), pair{many - 1, 0}, p), api.ErrRange)
			}
		}
	}
}

// P3.1
func TestPairsThatGoRound(t *testing.T) {
	for many := 1; many <= api.MaxLabels; many++ {
		names := someNames(many)
		row := chain(many).pairs
		for a := range many {
			refuse(t, names, []pair{{a, a}}, api.ErrCycle)
			refuse(t, names, append(slices.Clone(row), pair{a, a}), api.ErrCycle)
			refuse(t, names, append([]pair{{a, a}}, row...), api.ErrCycle)
			for b := range a {
				refuse(t, names, append(slices.Clone(row), pair{a, b}), api.ErrCycle)
				refuse(t, names, append([]pair{{a, b}}, row...), api.ErrCycle)
			}
		}
	}
	// Round over a fork, in numbers that do not increase.
	refuse(t, someNames(5), []pair{{3, 1}, {3, 4}, {1, 0}, {4, 0}, {0, 2}, {2, 3}}, api.ErrCycle)
}

// P3.1
func TestWhichErrorComesFirst(t *testing.T) {
	refuse(t, nil, []pair{{0, 0}, {-1, 5}}, api.ErrArg)
	refuse(t, []string{"a", "a", "B", "", "c", "d", "e", "f", "g", "h", "i"}, []pair{{-1, 0}, {0, 0}}, api.ErrArg)
	refuse(t, []string{"a", "b", "c", "d", "e", "f", "g", "h", "i", "j", "a"}, nil, api.ErrArg)
	refuse(t, []string{"a", "B"}, []pair{{0, 2}, {0, 0}}, api.ErrName)
	refuse(t, []string{"a", "a"}, []pair{{-1, 0}}, api.ErrName)
	refuse(t, []string{"a", "b", "a"}, []pair{{1, 1}}, api.ErrName)
	refuse(t, []string{"a", "b", ""}, nil, api.ErrName)
	refuse(t, []string{"a", "b"}, []pair{{0, 0}, {0, 2}}, api.ErrRange)
	refuse(t, []string{"a", "b"}, []pair{{0, 1}, {1, 0}, {-1, 0}}, api.ErrRange)
	refuse(t, []string{"a", "b", "c"}, []pair{{0, 1}, {3, 3}}, api.ErrRange)
	refuse(t, []string{"a", "b", "c"}, []pair{{0, 1}, {1, 0}}, api.ErrCycle)
	refuse(t, []string{"a", "b"}, []pair{{1, 1}}, api.ErrCycle)
	refuse(t, []string{"a", "b", "c"}, []pair{{0, 1}}, api.ErrLattice)
}

// P3.1
func TestOrdersThatAreNoLattices(t *testing.T) {
	var all []shape
	for many := 2; many <= api.MaxLabels; many++ {
		alone := shapeOf(many, nil)
		beside := shapeOf(many, chain(many-1).pairs)
		all = append(all, alone, beside)
	}
	all = append(all,
		// Every two have a meet, but some no join.
		shapeOf(3, []pair{{0, 1}, {0, 2}}),
		shapeOf(4, []pair{{0, 1}, {0, 2}, {0, 3}}),
		shapeOf(5, []pair{{0, 1}, {1, 2}, {0, 3}, {3, 4}}),
		// Low and high are there, but two have two least ones above them, and these no greatest one below them.
		shapeOf(6, []pair{{0, 1}, {0, 2}, {1, 3}, {1, 4}, {2, 3}, {2, 4}, {3, 5}, {4, 5}}),
		shapeOf(10, []pair{{0, 1}, {1, 2}, {0, 3}, {2, 4}, {2, 5}, {3, 4}, {3, 5}, {4, 6}, {5, 6}, {6, 7}, {7, 8}, {8, 9}}),
		// No low and no high one.
		shapeOf(4, []pair{{0, 2}, {0, 3}, {1, 2}, {1, 3}}),
		shapeOf(4, []pair{{0, 1}, {2, 3}}),
	)
	var s sampler
	for _, n := range all {
		for _, m := range []shape{n, n.upsideDown(), n.renumbered(s.permutation(n.many)), n.upsideDown().renumbered(s.permutation(n.many))} {
			if m.fault() != api.ErrLattice {
				t.Fatal("the test's own lattice:", m.pairs)
			}
			refuse(t, someNames(m.many), m.pairs, api.ErrLattice)
		}
	}
}

// P3.1 to P3.4
func TestSomeLattices(t *testing.T) {
	for _, s := range someShapes() {
		l := s.make(t)
		expectShape(t, l, s)
		expectShape(t, l, s)
	}
}

// P3.1 to P3.4
func TestAllPairsOfUpToFourLabels(t *testing.T) {
	// So many lattices there are of so many labels.
	for many, lattices := range []int{0, 1, 2, 6, 36} {
		if many == 0 {
			continue
		}
		found := map[[4]int]int{}
		for chosen := range 1 << (many * many) {
			var pairs []pair
			for i := range many * many {
				if chosen>>i&1 == 1 {
					pairs = append(pairs, pair{i / many, i % many})
				}
			}
			s := shapeOf(many, pairs)
			if want := s.fault(); want != api.OK {
				refuse(t, someNames(many), pairs, want)
				continue
			}
			l := s.make(t)
			expectShape(t, l, s)
			var codes [4]int
			for a := range many {
				codes[a] = l.Code(api.Label(a))
			}
			found[codes]++
		}
		if len(found) != lattices {
			t.Errorf("%d lattices of %d labels, not %d", len(found), many, lattices)
		}
	}
}

// P3.1 to P3.4
func TestDrawnPairs(t *testing.T) {
	var s sampler
	kinds := map[api.Errno]int{}
	for range 6000 {
		many := 2 + s.below(api.MaxLabels-1)
		to := s.permutation(many)
		// A low and a high one, so that it depends on the rest.
		var pairs []pair
		for a := 1; a < many-1; a++ {
			pairs = append(pairs, pair{to[0], to[a]}, pair{to[a], to[many-1]})
		}
		for range s.below(2 * many) {
			a, b := s.below(many), s.below(many)
			if a > b && s.below(40) > 0 {
				a, b = b, a
			}
			if a != b {
				pairs = append(pairs, pair{to[a], to[b]})
			}
		}
		drawn := shapeOf(many, pairs)
		want := drawn.fault()
		kinds[want]++
		if want != api.OK {
			refuse(t, someNames(many), pairs, want)
			continue
		}
		expectShape(t, drawn.make(t), drawn)
	}
	for _, e := range []api.Errno{api.OK, api.ErrCycle, api.ErrLattice} {
		if kinds[e] < 100 {
			t.Errorf("only %d with %d", kinds[e], e)
		}
	}
}

// P3.2, P3.3
func TestOneLabelAlone(t *testing.T) {
	l, e := Make([]string{"only"}, nil)
	if e != api.OK {
		t.Fatal(e)
	}
	if l.Many() != 1 || l.Low() != 0 || l.High() != 0 || !l.Leq(0, 0) || l.Join(0, 0) != 0 || l.Meet(0, 0) != 0 || l.JoinAll(nil) != 0 || l.JoinAll([]api.Label{0, 0}) != 0 {
		t.Error("its label:", l.Many(), l.Low(), l.High(), l.Leq(0, 0), l.Join(0, 0), l.Meet(0, 0))
	}
	if a, ok := l.Find("only"); a != 0 || !ok || l.Name(0) != "only" {
		t.Error("its name:", a, ok, l.Name(0))
	}
	if a, e := l.Decode(1); a != 0 || e != api.OK || l.Code(0) != 1 {
		t.Error("its code:", a, e, l.Code(0))
	}
}

// P3.2 to P3.4
func TestWhatIsNoLabel(t *testing.T) {
	for _, s := range someShapes() {
		l := s.make(t)
		for _, o := range outside(s.many) {
			x := api.Label(o)
			if l.Name(x) != "" || l.Code(x) != 0 {
				t.Fatalf("%v: Name(%d) %q, Code %d", s.pairs, x, l.Name(x), l.Code(x))
			}
			for a := -1; a <= s.many; a++ {
				y := api.Label(a)
				if l.Leq(x, y) || l.Leq(y, x) || l.Leq(x, x) {
					t.Fatalf("%v: Leq with %d and %d", s.pairs, x, y)
				}
				for _, got := range []api.Label{l.Join(x, y), l.Join(y, x), l.Join(x, x), l.JoinAll([]api.Label{x, y}), l.JoinAll([]api.Label{y, x}), l.JoinAll([]api.Label{x})} {
					if got != l.High() {
						t.Fatalf("%v: a join of %d and %d: %d", s.pairs, x, y, got)
					}
				}
				if l.Meet(x, y) != l.Low() || l.Meet(y, x) != l.Low() || l.Meet(x, x) != l.Low() {
					t.Fatalf("%v: a meet of %d and %d: %d, %d", s.pairs, x, y, l.Meet(x, y), l.Meet(y, x))
				}
			}
		}
		expectShape(t, l, s)
	}
}

// P3.2
func TestJoinAll(t *testing.T) {
	diamond := shapeOf(5, []pair{{4, 1}, {4, 2}, {1, 3}, {2, 3}, {3, 0}}).make(t)
	for _, c := range []struct {
		in   []api.Label
		want api.Label
	}{
		{nil, 4},
		{[]api.Label{}, 4},
		{[]api.Label{4}, 4},
		{[]api.Label{1}, 1},
		{[]api.Label{4, 2, 4}, 2},
		{[]api.Label{1, 2}, 3},
		{[]api.Label{2, 2, 1, 1, 4}, 3},
		{[]api.Label{3, 1}, 3},
		{[]api.Label{1, 0}, 0},
		{[]api.Label{4, -1}, 0},
		{[]api.Label{5, 4}, 0},
	} {
		if got := diamond.JoinAll(c.in); got != c.want {
			t.Errorf("JoinAll(%v): %d, not %d", c.in, got, c.want)
		}
	}
}

// P3.3
func TestNamesThatNoLabelHas(t *testing.T) {
	l := chain(3).make(t)
	for _, name := range []string{"", "lo ", "LOW", "Low", "l", "low-", "lowlow", "aa", "a-1", "high", "\x00", "low\x00", strings.Repeat("a", api.MaxText), "é"} {
		if a, ok := l.Find(name); a != 0 || ok {
			t.Errorf("Find(%.20q): %d, %t", name, a, ok)
		}
	}
}

// P3.4
func TestCodesThatNoLabelHas(t *testing.T) {
	large := []int{math.MinInt, math.MinInt + 1, -1 << 32, -1 << 10, 1 << 10, 1<<10 + 1, 1 << 16, 1<<32 + 1, 1<<53 - 1, math.MaxInt}
	for _, s := range someShapes() {
		l := s.make(t)
		labels := map[int]int{}
		for a := range s.many {
			labels[s.code(a)] = a
		}
		codes := slices.Clone(large)
		for code := -1100; code <= 1100; code++ {
			codes = append(codes, code)
		}
		for _, code := range codes {
			want, wantE := api.Label(0), api.ErrForm
			if a, ok := labels[code]; ok {
				want, wantE = api.Label(a), api.OK
			}
			if a, e := l.Decode(code); a != want || e != wantE {
				t.Fatalf("%v: Decode(%d): %d, %d, not %d, %d", s.pairs, code, a, e, want, wantE)
			}
		}
	}
}

// The sentence ahead of the promises.
func TestNilAndZeroLattices(t *testing.T) {
	for _, l := range []*Lattice{nil, {}} {
		numbers := append(outside(0), 0, 1, 2)
		for range 2 {
			if l.Many() != 0 || l.Low() != 0 || l.High() != 0 || l.JoinAll(nil) != 0 {
				t.Error("Many, Low, High, JoinAll:", l.Many(), l.Low(), l.High(), l.JoinAll(nil))
			}
			for _, n := range numbers {
				x := api.Label(n)
				if l.Name(x) != "" || l.Code(x) != 0 || l.JoinAll([]api.Label{x}) != 0 {
					t.Error("Name, Code, JoinAll of", x, l.Name(x), l.Code(x), l.JoinAll([]api.Label{x}))
				}
				for _, m := range numbers {
					if y := api.Label(m); l.Leq(x, y) || l.Join(x, y) != 0 || l.Meet(x, y) != 0 {
						t.Error("Leq, Join, Meet of", x, y, l.Leq(x, y), l.Join(x, y), l.Meet(x, y))
					}
				}
				if a, e := l.Decode(n); a != 0 || e != api.ErrForm {
					t.Error("Decode of", n, a, e)
				}
			}
			for _, name := range []string{"", "a", "low", "A"} {
				if a, ok := l.Find(name); a != 0 || ok {
					t.Error("Find of", name, a, ok)
				}
			}
		}
	}
}

// P3.5
func TestArgumentsAreOnlyRead(t *testing.T) {
	allNames := append(someNames(4), "rest", "Rest", "")
	allPairs := []pair{{0, 1}, {0, 2}, {1, 3}, {2, 3}, {-7, 9}, {3, 3}}
	for _, c := range []struct{ names, pairs int }{{4, 4}, {0, 4}, {4, 5}, {4, 3}, {4, 6}, {6, 4}, {7, 0}, {3, 4}} {
		names, pairs := slices.Clone(allNames), slices.Clone(allPairs)
		Make(names[:c.names], pairs[:c.pairs])
		if !slices.Equal(names, allNames) || !slices.Equal(pairs, allPairs) {
			t.Errorf("Make of %d names and %d pairs left %q, %v", c.names, c.pairs, names, pairs)
		}
	}
	l := shapeOf(4, allPairs[:4]).make(t)
	labels := []api.Label{1, 9, 2, 1, -1, 0, 3}
	for many := range labels {
		given := slices.Clone(labels)
		l.JoinAll(given[:many])
		if !slices.Equal(given, labels) {
			t.Errorf("JoinAll of %d labels left %v", many, given)
		}
	}
}

// P3.5
func TestArgumentsAreNotRetained(t *testing.T) {
	s := shapeOf(4, []pair{{0, 1}, {0, 2}, {1, 3}, {2, 3}})
	for _, asked := range []bool{false, true} {
		// The names lie in memory that is overwritten after the call.
		var names []string
		var memory [][]byte
		for _, name := range someNames(s.many) {
			bytes := []byte(name)
			memory = append(memory, bytes)
			names = append(names, unsafe.String(&bytes[0], len(bytes)))
		}
		pairs := slices.Clone(s.pairs)
		l, e := Make(names, pairs)
		if e != api.OK {
			t.Fatal(e)
		}
		if asked {
			expectShape(t, l, s)
		}
		for i := range memory {
			for j := range memory[i] {
				memory[i][j] = '#'
			}
			names[i] = "gone"
		}
		for i := range pairs {
			pairs[i] = pair{-1, -1}
		}
		expectShape(t, l, s)
		if a, ok := l.Find("gone"); a != 0 || ok {
			t.Error("Find(gone):", a, ok)
		}
	}
}

// P3.5
func TestLatticesAreApart(t *testing.T) {
	one, other := chain(6), grid(2, 3).renumbered([]int{4, 1, 5, 0, 2, 3})
	a, b := one.make(t), other.make(t)
	expectShape(t, a, one)
	expectShape(t, b, other)
	expectShape(t, a, one)
	refuse(t, someNames(3), nil, api.ErrLattice)
	expectShape(t, b, other)
}

// P3.2: whoever asks first, and whatever for.
func TestTheFirstThatAsks(t *testing.T) {
	s := subsets()
	firsts := []func(*Lattice) bool{
		func(l *Lattice) bool { return l.Join(1, 2) == 3 },
		func(l *Lattice) bool { return l.Meet(3, 6) == 2 },
		func(l *Lattice) bool { return l.JoinAll([]api.Label{1, 4}) == 5 },
		func(l *Lattice) bool { return l.Leq(1, 3) && !l.Leq(3, 1) },
		func(l *Lattice) bool { return l.Join(1, 8) == 7 && l.Meet(-1, 5) == 0 },
	}
	for i, first := range firsts {
		l := s.make(t)
		if !first(l) {
			t.Error("wrong at first:", i)
		}
		expectShape(t, l, s)
	}
	for range 50 {
		l := s.make(t)
		var all sync.WaitGroup
		right := make([]bool, 4*len(firsts))
		for i := range right {
			all.Go(func() { right[i] = firsts[i%len(firsts)](l) })
		}
		all.Wait()
		if slices.Contains(right, false) {
			t.Fatal("wrong where several ask at a time:", right)
		}
	}
}

// P3.6
func TestTheLawsOfJoinAndMeet(t *testing.T) {
	for _, s := range someShapes() {
		l := s.make(t)
		for i := range s.many * s.many * s.many {
			a, b, c := api.Label(i/s.many/s.many), api.Label(i/s.many%s.many), api.Label(i%s.many)
			switch {
			case l.Join(a, b) != l.Join(b, a) || l.Meet(a, b) != l.Meet(b, a):
				t.Fatal("not commutative:", s.pairs, a, b)
			case l.Join(a, l.Join(b, c)) != l.Join(l.Join(a, b), c) || l.Meet(a, l.Meet(b, c)) != l.Meet(l.Meet(a, b), c):
				t.Fatal("not associative:", s.pairs, a, b, c)
			case l.Join(a, l.Meet(a, b)) != a || l.Meet(a, l.Join(a, b)) != a:
				t.Fatal("no absorption:", s.pairs, a, b)
			case l.Leq(a, b) != (l.Join(a, b) == b) || l.Leq(a, b) != (l.Meet(a, b) == a):
				t.Fatal("Leq against Join and Meet:", s.pairs, a, b)
			}
		}
	}
}

// P3.7
func TestBounds(t *testing.T) {
	for _, s := range someShapes() {
		l := s.make(t)
		for i := range s.many * s.many {
			a, b := api.Label(i/s.many), api.Label(i%s.many)
			join, meet := l.Join(a, b), l.Meet(a, b)
			if !l.Leq(a, join) || !l.Leq(b, join) || !l.Leq(meet, a) || !l.Leq(meet, b) {
				t.Fatal("no bounds:", s.pairs, a, b, join, meet)
			}
			for c := range api.Label(s.many) {
				if l.Leq(a, c) && l.Leq(b, c) && !l.Leq(join, c) || l.Leq(c, a) && l.Leq(c, b) && !l.Leq(c, meet) {
					t.Fatal("not the least, or not the greatest:", s.pairs, a, b, join, meet, c)
				}
				if !l.Leq(l.Low(), c) || !l.Leq(c, l.High()) {
					t.Fatal("not between Low and High:", s.pairs, c)
				}
			}
		}
	}
}

// P3.7
func TestJoinAllOfTheSameLabelsIsTheSame(t *testing.T) {
	var draw sampler
	for _, s := range someShapes() {
		l := s.make(t)
		for range 30 {
			given := make([]api.Label, draw.below(6))
			for i := range given {
				given[i] = api.Label(draw.below(s.many))
			}
			want := l.JoinAll(given)
			if bounds := leastAbove(l, given); want != bounds {
				t.Fatalf("%v: JoinAll(%v): %d, not %d", s.pairs, given, want, bounds)
			}
			var mixed []api.Label
			for range 2 {
				for _, i := range draw.permutation(len(given)) {
					mixed = append(mixed, given[i])
				}
			}
			if got := l.JoinAll(mixed); got != want {
				t.Fatalf("%v: JoinAll(%v): %d, but of %v %d", s.pairs, mixed, got, given, want)
			}
		}
	}
}

// leastAbove finds the label that all given ones are at most, and that is at most each other such label.
func leastAbove(l *Lattice, given []api.Label) api.Label {
	var above []api.Label
	for c := range api.Label(l.Many()) {
		if !slices.ContainsFunc(given, func(a api.Label) bool { return !l.Leq(a, c) }) {
			above = append(above, c)
		}
	}
	for _, c := range above {
		if !slices.ContainsFunc(above, func(d api.Label) bool { return !l.Leq(c, d) }) {
			return c
		}
	}
	return -1
}

// P3.8
func TestCodesAreTheOrder(t *testing.T) {
	for _, s := range someShapes() {
		l := s.make(t)
		for i := range s.many * s.many {
			a, b := api.Label(i/s.many), api.Label(i%s.many)
			x, y := l.Code(a), l.Code(b)
			if (x == y) != (a == b) {
				t.Fatal("two labels, one code:", s.pairs, a, b, x, y)
			}
			if l.Leq(a, b) != (x&y == x) {
				t.Fatal("Leq against the codes:", s.pairs, a, b, x, y)
			}
			if l.Code(l.Meet(a, b)) != x&y {
				t.Fatal("the code of a meet:", s.pairs, a, b, x, y)
			}
			if x>>a&1 != 1 || x <= 0 || x >= 1<<s.many {
				t.Fatal("a code:", s.pairs, a, x)
			}
		}
	}
}

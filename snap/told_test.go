package snap

import (
	"fmt"
	"math"
	"slices"
	"strings"
	"testing"

	"chinoiserie/api"
	"chinoiserie/policy"
)

// What the document says, found in another way than the program's: orders and what can be called are found in matrices, and joins among all labels.

// told is a valid policy, with what lies at or below what, and what can be called from what.
type told struct {
	p     api.Policy
	leq   [][]bool
	calls [][]bool
}

func toldOf(p api.Policy) told {
	d := told{p, closed(len(p.Labels), p.Below), closed(len(p.Works), p.Calls)}
	for a := range p.Labels {
		d.leq[a][a] = true
	}
	return d
}

// closed is which of so many things come ahead of which, if these pairs do.
func closed(many int, pairs [][2]int) [][]bool {
	is := make([][]bool, many)
	for i := range is {
		is[i] = make([]bool, many)
	}
	for _, p := range pairs {
		is[p[0]][p[1]] = true
	}
	for m := range many {
		for a := range many {
			for b := range many {
				is[a][b] = is[a][b] || is[a][m] && is[m][b]
			}
		}
	}
	return is
}

// bounds are all labels that some are at most.
func (d told) bounds(some []int) []int {
	var all []int
	for c := range d.p.Labels {
		if !slices.ContainsFunc(some, func(a int) bool { return !d.leq[a][c] }) {
			all = append(all, c)
		}
	}
	return all
}

// joinOf is the least one of all labels that some are at most.
func (d told) joinOf(some []int) api.Label {
	bounds := d.bounds(some)
	for _, c := range bounds {
		if !slices.ContainsFunc(bounds, func(o int) bool { return !d.leq[c][o] }) {
			return api.Label(c)
		}
	}
	return -1
}

func (d told) join(a, b int) (api.Label, api.Errno) {
	if !d.isLabel(a) || !d.isLabel(b) {
		return 0, api.ErrRange
	}
	return d.joinOf([]int{a, b}), api.OK
}

func (d told) atMost(a, b int) bool { return d.isLabel(a) && d.isLabel(b) && d.leq[a][b] }

func (d told) reach(w int) (api.Label, api.Errno) {
	if !d.isWork(w) {
		return 0, api.ErrRange
	}
	some := []int{int(d.p.Works[w].Label)}
	for v, is := range d.calls[w] {
		if is {
			some = append(some, int(d.p.Works[v].Label))
		}
	}
	return d.joinOf(some), api.OK
}

func (d told) may(from, to int) bool {
	for _, c := range d.p.Calls {
		if c[0] == from && c[1] == to {
			return true
		}
	}
	return false
}

func (d told) isLabel(a int) bool { return 0 <= a && a < len(d.p.Labels) }

func (d told) isWork(w int) bool { return 0 <= w && w < len(d.p.Works) }

// allowed tells whether a host is a destination's and one of the patterns is for it.
func (d told) allowed(host string) bool {
	wide := ""
	if at := strings.IndexByte(host, '.'); at >= 0 {
		wide = "*" + host[at:]
	}
	for _, o := range d.p.Dests {
		for _, pattern := range d.p.Allow {
			if o.Host == host && (pattern == host || pattern == wide) {
				return true
			}
		}
	}
	return false
}

// around are the numbers of so many things, and others.
func around(many int) []int {
	all := []int{math.MinInt, -1 << 32, -64, -2, 10, 63, 64, 1 << 32, math.MaxInt}
	for i := -1; i <= many+1; i++ {
		all = append(all, i)
	}
	return all
}

// words are all names and hosts of a policy, and others like them.
func words(p api.Policy) []string {
	all := slices.Concat(p.Labels, p.Allow)
	for _, s := range p.Sources {
		all = append(all, s.Name)
	}
	for _, d := range p.Dests {
		all = append(all, d.Host)
	}
	for _, w := range p.Works {
		all = append(all, w.Name)
	}
	for _, r := range p.Routes {
		all = append(all, r.Host, r.Prefix)
	}
	for _, g := range p.Grants {
		all = append(all, g.Name)
	}
	for _, s := range slices.Clone(all) {
		all = append(all, strings.ToUpper(s), strings.ToUpper(s[:1])+s[1:], s+":80", s+" ", " "+s, s+"\n", s+".", s+"x", s[1:], s[:len(s)-1], "a."+s, "*."+s)
	}
	return append(all, "", ".", "*", "*.", "x", "no.one", "\x00", "\xff", "é", "0", "1", "-1", strings.Repeat("a", 1<<16))
}

// checkSnap holds all that a snapshot answers against what the document says of its policy.
func checkSnap(t *testing.T, what string, s *Snap, p api.Policy) {
	t.Helper()
	text, e := policy.Print(p)
	if e != api.OK || s == nil {
		t.Fatalf("%s: the policy has the error %d, the snapshot is %p", what, e, s)
	}
	if got := s.Policy(); !policy.Same(got, p) {
		t.Errorf("%s: the policy is %+v, not %+v", what, got, p)
	}
	if got := s.Text(); got != text {
		t.Errorf("%s: the text is %q, not %q", what, got, text)
	}
	if got := s.Many(); got != len(p.Works) {
		t.Errorf("%s: %d workloads, not %d", what, got, len(p.Works))
	}
	d := toldOf(p)
	checkLabels(t, what, s, d)
	checkLattice(t, what, s, d)
	checkWorks(t, what, s, d)
	for _, word := range words(p) {
		checkWord(t, what, s, d, word)
	}
}

func checkLabels(t *testing.T, what string, s *Snap, d told) {
	t.Helper()
	for _, a := range around(len(d.p.Labels)) {
		name := ""
		if d.isLabel(a) {
			name = d.p.Labels[a]
		}
		if got := s.Name(api.Label(a)); got != name {
			t.Errorf("%s: Name(%d): %q, not %q", what, a, got, name)
		}
		for _, b := range around(len(d.p.Labels)) {
			if got, want := s.Leq(api.Label(a), api.Label(b)), d.atMost(a, b); got != want {
				t.Errorf("%s: Leq(%d, %d): %t", what, a, b, got)
			}
			got, e := s.Join(api.Label(a), api.Label(b))
			if want, wantE := d.join(a, b); got != want || e != wantE {
				t.Errorf("%s: Join(%d, %d): %d, %d, not %d, %d", what, a, b, got, e, want, wantE)
			}
		}
	}
}

func checkLattice(t *testing.T, what string, s *Snap, d told) {
	t.Helper()
	l := s.Lattice()
	if l == nil || l.Many() != len(d.p.Labels) {
		t.Errorf("%s: the lattice is %p, with %d labels", what, l, l.Many())
	}
	for a, name := range d.p.Labels {
		if got := l.Name(api.Label(a)); got != name {
			t.Errorf("%s: the lattice names %d %q, not %q", what, a, got, name)
		}
		for b := range d.p.Labels {
			join, _ := d.join(a, b)
			if l.Leq(api.Label(a), api.Label(b)) != d.leq[a][b] || l.Join(api.Label(a), api.Label(b)) != join {
				t.Errorf("%s: the lattice has another order of %d and %d", what, a, b)
			}
		}
	}
}

func checkWorks(t *testing.T, what string, s *Snap, d told) {
	t.Helper()
	for _, w := range around(len(d.p.Works)) {
		got, e := s.Reach(w)
		if want, wantE := d.reach(w); got != want || e != wantE {
			t.Errorf("%s: Reach(%d): %d, %d, not %d, %d", what, w, got, e, want, wantE)
		}
		for _, v := range around(len(d.p.Works)) {
			if got, want := s.May(w, v), d.may(w, v); got != want {
				t.Errorf("%s: May(%d, %d): %t", what, w, v, got)
			}
		}
	}
}

// checkWord checks all that is found by a text.
func checkWord(t *testing.T, what string, s *Snap, d told, word string) {
	t.Helper()
	label, labelE := s.Label(word)
	source, sourceE := s.Source(word)
	dest, destE := s.Dest(word)
	work, workE := s.Work(word)
	got := fmt.Sprint(label, labelE, source, sourceE, dest, destE, work, workE, s.Allowed(word))
	label, labelE = api.Label(0), api.ErrName
	source, sourceE = api.Source{}, api.ErrName
	dest, destE = api.Dest{}, api.ErrName
	work, workE = 0, api.ErrName
	for i, name := range d.p.Labels {
		if name == word {
			label, labelE = api.Label(i), api.OK
		}
	}
	for _, o := range d.p.Sources {
		if o.Name == word {
			source, sourceE = o, api.OK
		}
	}
	for _, o := range d.p.Dests {
		if o.Host == word {
			dest, destE = o, api.OK
		}
	}
	for i, o := range d.p.Works {
		if o.Name == word {
			work, workE = i, api.OK
		}
	}
	want := fmt.Sprint(label, labelE, source, sourceE, dest, destE, work, workE, d.allowed(word))
	if got != want {
		t.Errorf("%s: %.80q: %s, not %s", what, word, got, want)
	}
}

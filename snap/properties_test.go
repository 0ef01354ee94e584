package snap

import (
	"fmt"
	"math/rand"
	"testing"

	"chinoiserie/api"
	"chinoiserie/policy"
)

// shape is labels that are a lattice: how many, and which lie below which.
type shape struct {
	many  int
	below [][2]int
}

// shapes are a row of each length, one with labels beside each other, ones that are no rows of such, and all parts of a set.
func shapes() []shape {
	all := []shape{
		{4, [][2]int{{0, 1}, {0, 2}, {1, 3}, {2, 3}}},
		{5, [][2]int{{0, 1}, {0, 2}, {0, 3}, {1, 4}, {2, 4}, {3, 4}}},
		{5, [][2]int{{0, 1}, {1, 2}, {2, 4}, {0, 3}, {3, 4}}},
		{7, [][2]int{{0, 1}, {1, 2}, {1, 3}, {2, 4}, {3, 4}, {4, 5}, {0, 6}, {6, 5}}},
		{10, [][2]int{{0, 1}, {0, 2}, {0, 3}, {0, 4}, {0, 5}, {0, 6}, {0, 7}, {0, 8}, {1, 9}, {2, 9}, {3, 9}, {4, 9}, {5, 9}, {6, 9}, {7, 9}, {8, 9}}},
	}
	for many := range api.MaxLabels {
		row := shape{many: many + 1}
		for i := range many {
			row.below = append(row.below, [2]int{i, i + 1})
		}
		all = append(all, row)
	}
	parts := shape{many: 8}
	for a := range 8 {
		for bit := 1; bit < 8; bit *= 2 {
			if a&bit == 0 {
				parts.below = append(parts.below, [2]int{a, a | bit})
			}
		}
	}
	return append(all, parts)
}

// somePolicy is a valid policy, with labels and workloads numbered at random.
func somePolicy(r *rand.Rand) api.Policy {
	var p api.Policy
	lattices := shapes()
	sh := lattices[r.Intn(len(lattices))]
	number := r.Perm(sh.many)
	for i := range sh.many {
		p.Labels = append(p.Labels, fmt.Sprint("l", i))
	}
	for _, c := range sh.below {
		p.Below = append(p.Below, [2]int{number[c[0]], number[c[1]]})
	}
	r.Shuffle(len(p.Below), func(i, j int) { p.Below[i], p.Below[j] = p.Below[j], p.Below[i] })
	label := func() api.Label { return api.Label(r.Intn(sh.many)) }
	names := []string{"a", "b", "c", "d", "e", "f", "l0", "l1", "a-1"}
	for _, i := range r.Perm(len(names))[:r.Intn(7)] {
		p.Sources = append(p.Sources, api.Source{Name: names[i], Label: label(), Clear: label()})
	}
	for _, i := range r.Perm(len(names))[:r.Intn(7)] {
		p.Works = append(p.Works, api.Work{Name: names[i], Label: label(), Quota: 1 + r.Intn(64)})
	}
	addHosts(r, &p, label)
	addCalls(r, &p)
	return p
}

func addHosts(r *rand.Rand, p *api.Policy, label func() api.Label) {
	hosts := []string{"a", "b", "a.b", "b.b", "a.a.b", "x.a.b", "b.a", "a.c"}
	for _, i := range r.Perm(len(hosts))[:r.Intn(7)] {
		p.Dests = append(p.Dests, api.Dest{Host: hosts[i], Clear: label()})
	}
	patterns := append(hosts, "*.a", "*.b", "*.a.b", "*.c", "*.x.a.b")
	for _, i := range r.Perm(len(patterns))[:r.Intn(7)] {
		p.Allow = append(p.Allow, patterns[i])
	}
}

// addCalls lets workloads call those that come later in some row of them.
func addCalls(r *rand.Rand, p *api.Policy) {
	row := r.Perm(len(p.Works))
	for i := range row {
		for j := range i {
			if r.Intn(3) == 0 {
				p.Calls = append(p.Calls, [2]int{row[j], row[i]})
			}
		}
	}
	r.Shuffle(len(p.Calls), func(i, j int) { p.Calls[i], p.Calls[j] = p.Calls[j], p.Calls[i] })
}

// P9.1 to P9.5, P9.8: many policies, held against what the document says; the snapshot of the text answers as the first one.
func TestManyPolicies(t *testing.T) {
	r := rand.New(rand.NewSource(9))
	for i := range 400 {
		checkBoth(t, fmt.Sprint(i), somePolicy(r))
	}
}

// keeps tells whether labels of workloads keep both that a workload's own one is at most its label here, and so are those of what it may call.
func keeps(s *Snap, p api.Policy, labels []api.Label) bool {
	for w, work := range p.Works {
		if !s.Leq(work.Label, labels[w]) {
			return false
		}
	}
	for from := range p.Works {
		for to := range p.Works {
			if s.May(from, to) && !s.Leq(labels[to], labels[from]) {
				return false
			}
		}
	}
	return true
}

// P9.7: reaches keep both, and are at most all labels of workloads that keep both.
func TestReachIsTheLeast(t *testing.T) {
	const most = 5000
	r := rand.New(rand.NewSource(7))
	for i := range 400 {
		p := somePolicy(r)
		s, e := Of(p)
		if e != api.OK {
			t.Fatalf("%d: %d", i, e)
		}
		reaches := make([]api.Label, len(p.Works))
		for w := range reaches {
			reaches[w], _ = s.Reach(w)
		}
		if !keeps(s, p, reaches) {
			t.Errorf("%+v: %v", p, reaches)
		}
		ways := 1
		for range p.Works {
			ways *= len(p.Labels)
		}
		for way := range min(ways, most) {
			if ways > most {
				way = r.Intn(ways)
			}
			checkAtMost(t, s, p, reaches, way)
		}
	}
}

// checkAtMost checks that reaches are at most the labels that a number stands for, if these keep both.
func checkAtMost(t *testing.T, s *Snap, p api.Policy, reaches []api.Label, way int) {
	t.Helper()
	labels := make([]api.Label, len(reaches))
	for w := range labels {
		labels[w] = api.Label(way % len(p.Labels))
		way /= len(p.Labels)
	}
	if !keeps(s, p, labels) {
		return
	}
	for w, reach := range reaches {
		if !s.Leq(reach, labels[w]) {
			t.Errorf("%+v: the reaches are %v, and %v are enough", p, reaches, labels)
		}
	}
}

// P9.8: a text results in a snapshot with this text, and with the same policy.
func TestTextResultsInTheSame(t *testing.T) {
	r := rand.New(rand.NewSource(8))
	for range 400 {
		s, e := Of(somePolicy(r))
		if e != api.OK {
			t.Fatal(e)
		}
		again := made(t, s.Text())
		if again.Text() != s.Text() || !policy.Same(again.Policy(), s.Policy()) {
			t.Errorf("%q, not %q", again.Text(), s.Text())
		}
	}
}

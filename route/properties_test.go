package route

import (
	"math"
	"math/rand"
	"slices"
	"strings"
	"testing"

	"chinoiserie/api"
	"chinoiserie/policy"
	"chinoiserie/snap"
)

var (
	someHosts = []string{"a", "a.b", "b.a", "a.a.b", "c"}
	somePaths = []string{"/", "/a", "/b", "/a/", "/a/b", "/aa", "/a/b/c", "//", "/a/b/c/d"}
)

// one is one of some things, at random.
func one[T any](r *rand.Rand, some []T) T { return some[r.Intn(len(some))] }

// somePolicy is a valid policy with routes at random.
func somePolicy(r *rand.Rand) api.Policy {
	p := api.Policy{Labels: []string{"l"}}
	for i := range 1 + r.Intn(api.MaxWorks) {
		p.Works = append(p.Works, api.Work{Name: string(rune('a' + i)), Quota: 1})
	}
	// Fewer hosts and paths let more routes come together.
	hosts, paths := someHosts[:1+r.Intn(len(someHosts))], somePaths[:1+r.Intn(len(somePaths))]
	for range r.Intn(30) {
		next := api.Route{Host: one(r, hosts), Prefix: one(r, paths), Work: r.Intn(len(p.Works)), Weight: someWeight(r)}
		alike := func(o api.Route) bool { return o.Host == next.Host && o.Prefix == next.Prefix && o.Work == next.Work }
		if len(p.Routes) < api.MaxRoutes && !slices.ContainsFunc(p.Routes, alike) {
			p.Routes = append(p.Routes, next)
		}
	}
	return p
}

func someWeight(r *rand.Rand) int {
	return one(r, []int{1, 1, 2, 3, 100, 1 + r.Intn(100)})
}

func someDraw(r *rand.Rand) int {
	return one(r, []int{0, 1, -1, r.Intn(1300) - 600, int(r.Uint64()), math.MaxInt - r.Intn(700), math.MinInt + r.Intn(700)})
}

func someAuthority(r *rand.Rand) string {
	name := one(r, someHosts)
	return one(r, []string{name, strings.ToUpper(name), name + ":80", name + ":8080", "x" + name, name + ":", "-" + name, ""})
}

func somePath(r *rand.Rand) string {
	path := one(r, somePaths) + one(r, []string{"", "/", "a", "b", "/b", "/b/c", "z"})
	return path[min(r.Intn(8)/6, len(path)):]
}

func someGone(r *rand.Rand) []int {
	var gone []int
	for range r.Intn(9) {
		gone = append(gone, r.Intn(8)-1)
	}
	return gone
}

// snapOf is the snapshot of a valid policy.
func snapOf(t *testing.T, p api.Policy) *snap.Snap {
	t.Helper()
	s, e := snap.Of(p)
	if e != api.OK {
		t.Fatalf("%+v: %d", p, e)
	}
	return s
}

// P10.1 to P10.3: many policies and requests, held against what the document says.
func TestManyPolicies(t *testing.T) {
	r := rand.New(rand.NewSource(10))
	for range 400 {
		p := somePolicy(r)
		s := snapOf(t, p)
		for range 60 {
			check(t, s, p, someAuthority(r), somePath(r), someDraw(r), someGone(r))
		}
	}
}

// P10.5: as many consecutive draws as the sum of the weights select each candidate as often as its weight, wherever they begin.
func TestShares(t *testing.T) {
	r := rand.New(rand.NewSource(5))
	checked := 0
	for range 200 {
		s := snapOf(t, somePolicy(r))
		authority, path := one(r, someHosts), one(r, somePaths)
		all, e := Candidates(s, authority, path)
		if e != api.OK {
			continue
		}
		checked++
		sum := 0
		for _, c := range all {
			sum += c.Weight
		}
		for _, first := range []int{0, 1, -1, -sum, -sum / 2, sum - 1, math.MinInt, math.MaxInt - sum + 1, r.Intn(1<<40) - 1<<39} {
			checkShares(t, s, authority, path, all, first, sum)
		}
	}
	if checked < 50 {
		t.Errorf("only %d", checked)
	}
}

func checkShares(t *testing.T, s *snap.Snap, authority, path string, all []api.Route, first, sum int) {
	t.Helper()
	often := [api.MaxWorks]int{}
	for i := range sum {
		work, e := Pick(s, authority, path, first+i)
		if e != api.OK {
			t.Fatalf("Pick(%q, %q, %d): %d", authority, path, first+i, e)
		}
		often[work]++
	}
	want := [api.MaxWorks]int{}
	for _, c := range all {
		want[c.Work] += c.Weight
	}
	if often != want {
		t.Errorf("%v, from %d on: %v, not %v", all, first, often, want)
	}
}

// P10.6: what follows a path changes nothing, unless a longer prefix applies to it; nor do the case of letters and the port of the authority.
func TestLongerPaths(t *testing.T) {
	r := rand.New(rand.NewSource(6))
	same, other := 0, 0
	for range 2000 {
		p := somePolicy(r)
		s := snapOf(t, p)
		if len(p.Routes) == 0 {
			continue
		}
		// Of a route, so that there are candidates.
		begun := one(r, p.Routes)
		name, path := begun.Host, begun.Prefix
		more := path + one(r, []string{"/", "a", "/b", "/b/c", "b", "?", strings.Repeat("/x", 300)})
		draw, gone := someDraw(r), someGone(r)
		work, e := Again(s, name, path, draw, gone)
		applies := func(o api.Route) bool {
			return o.Host == name && strings.HasPrefix(more, o.Prefix) && !strings.HasPrefix(path, o.Prefix)
		}
		if slices.ContainsFunc(p.Routes, applies) {
			other++
			continue
		}
		same++
		for _, authority := range []string{name, strings.ToUpper(name), name + ":8080", strings.ToUpper(name) + ":1"} {
			checkAgain(t, s, authority, more, draw, gone, work, e)
		}
	}
	if same < 500 || other < 100 {
		t.Errorf("%d, %d", same, other)
	}
}

// R2: a snapshot made anew of the same policy, or of its text, answers the same.
func TestMadeAnew(t *testing.T) {
	r := rand.New(rand.NewSource(2))
	for range 100 {
		p := somePolicy(r)
		text, _ := policy.Print(p)
		s := made(t, text)
		for range 10 {
			check(t, s, p, someAuthority(r), somePath(r), someDraw(r), someGone(r))
		}
	}
}

package route

import (
	"math/big"
	"slices"
	"testing"

	"chinoiserie/api"
	"chinoiserie/host"
	"chinoiserie/snap"
)

// What the document says, found in another way than the program's: prefixes are cut from the path, the longest one first, and draws are those of a list in which each candidate stands as often as its weight.

func toldCandidates(p api.Policy, authority, path string) ([]api.Route, api.Errno) {
	name, _, e := host.Norm(authority)
	if e != api.OK {
		return nil, e
	}
	for end := len(path); end >= 0; end-- {
		var all []api.Route
		for _, r := range p.Routes {
			if r.Host == name && r.Prefix == path[:end] {
				all = append(all, r)
			}
		}
		if all != nil {
			return all, api.OK
		}
	}
	return nil, api.ErrRoute
}

func toldAgain(p api.Policy, authority, path string, draw int, gone []int) (int, api.Errno) {
	all, e := toldCandidates(p, authority, path)
	if e != api.OK {
		return 0, e
	}
	left := sections(all, gone)
	if left == nil {
		left = sections(all, nil)
	}
	at := new(big.Int).Mod(big.NewInt(int64(draw)), big.NewInt(int64(len(left))))
	return left[at.Int64()], api.OK
}

// sections are the workloads of candidates, each as often as its weight, without some.
func sections(all []api.Route, gone []int) []int {
	var works []int
	for _, r := range all {
		if slices.Index(gone, r.Work) < 0 {
			works = append(works, slices.Repeat([]int{r.Work}, r.Weight)...)
		}
	}
	return works
}

// check holds all functions against what is told.
func check(t *testing.T, s *snap.Snap, p api.Policy, authority, path string, draw int, gone []int) {
	t.Helper()
	want, wantE := toldCandidates(p, authority, path)
	if all, e := Candidates(s, authority, path); !slices.Equal(all, want) || e != wantE {
		t.Errorf("%+v: Candidates(%q, %q): %v, %d, not %v, %d", p.Routes, authority, path, all, e, want, wantE)
	}
	work, wantE := toldAgain(p, authority, path, draw, nil)
	checkPick(t, s, authority, path, draw, work, wantE)
	work, wantE = toldAgain(p, authority, path, draw, gone)
	checkAgain(t, s, authority, path, draw, gone, work, wantE)
}

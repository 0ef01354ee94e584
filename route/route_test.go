package route

import (
	"math"
	"slices"
	"strings"
	"testing"

	"chinoiserie/api"
	"chinoiserie/snap"
)

const exampleText = `label low
work w0 low 1
work w1 low 1
route a.mesh / w0 2
route a.mesh / w1 1
route a.mesh /x w1 5
`

// richText has hosts with one route and with several, routes of other hosts between those that belong together, and weights at both ends.
const richText = `label low
work w0 low 1
work w1 low 1
work w2 low 1
work w3 low 1
work w4 low 1
work w5 low 1
dest out.example low
route one.mesh / w3 7
route many.mesh / w5 100
route other.mesh / w0 1
route many.mesh /a/b w1 1
route many.mesh / w2 1
route deep.mesh /only/here w4 3
route other.mesh /a w1 1
route many.mesh /a w0 2
route many.mesh / w0 100
route many.mesh /a/b w4 100
route other.mesh /a/b w2 9
route many.mesh /a w3 3
`

// made is the snapshot of a text that has one.
func made(t *testing.T, text string) *snap.Snap {
	t.Helper()
	s, line, e := snap.Make(text)
	if s == nil || line != 0 || e != api.OK {
		t.Fatalf("Make(%q): %p, %d, %d", text, s, line, e)
	}
	return s
}

// checkPick checks Pick and, with nobody gone, Again.
func checkPick(t *testing.T, s *snap.Snap, authority, path string, draw, want int, wantE api.Errno) {
	t.Helper()
	if w, e := Pick(s, authority, path, draw); w != want || e != wantE {
		t.Errorf("Pick(%.80q, %.80q, %d): %d, %d, not %d, %d", authority, path, draw, w, e, want, wantE)
	}
	for _, nobody := range [][]int{nil, {}} {
		checkAgain(t, s, authority, path, draw, nobody, want, wantE)
	}
}

func checkAgain(t *testing.T, s *snap.Snap, authority, path string, draw int, gone []int, want int, wantE api.Errno) {
	t.Helper()
	if w, e := Again(s, authority, path, draw, gone); w != want || e != wantE {
		t.Errorf("Again(%.80q, %.80q, %d, %v): %d, %d, not %d, %d", authority, path, draw, gone, w, e, want, wantE)
	}
}

// checkError checks that all functions have an error, and nothing else.
func checkError(t *testing.T, s *snap.Snap, authority, path string, want api.Errno) {
	t.Helper()
	if all, e := Candidates(s, authority, path); all != nil || e != want {
		t.Errorf("Candidates(%.80q, %.80q): %v, %d, not %d", authority, path, all, e, want)
	}
	for _, draw := range []int{0, 1, -1, math.MinInt, math.MaxInt} {
		checkPick(t, s, authority, path, draw, 0, want)
		checkAgain(t, s, authority, path, draw, []int{0, 7}, 0, want)
	}
}

func checkCandidates(t *testing.T, s *snap.Snap, authority, path string, want ...api.Route) {
	t.Helper()
	if all, e := Candidates(s, authority, path); !slices.Equal(all, want) || e != api.OK {
		t.Errorf("Candidates(%.80q, %.80q): %v, %d, not %v", authority, path, all, e, want)
	}
}

// The table 'Examples' of the chapter.
func TestExamples(t *testing.T) {
	s := made(t, exampleText)
	for draw, want := range map[int]int{0: 0, 1: 0, 2: 1, 3: 0, -1: 1} {
		checkPick(t, s, "A.mesh:81", "/y", draw, want, api.OK)
	}
	checkPick(t, s, "a.mesh", "/x/y", 0, 1, api.OK)
	checkAgain(t, s, "a.mesh", "/", 0, []int{0}, 1, api.OK)
	checkError(t, s, "b.mesh", "/", api.ErrRoute)
	checkError(t, s, "a..mesh", "/", api.ErrHost)
	checkError(t, s, "a.mesh", "y", api.ErrRoute)
}

// P10.1 to P10.3: a nil and a zero snapshot, which come ahead of all other errors.
func TestNilAndZero(t *testing.T) {
	for _, s := range []*snap.Snap{nil, {}} {
		for _, authority := range []string{"one.mesh", "none.mesh", "a..b", ""} {
			checkError(t, s, authority, "/", api.ErrNil)
			checkError(t, s, authority, "", api.ErrNil)
		}
	}
}

// P10.1 to P10.3: authorities that are none, with a path that has a route and with one that has none.
func TestNoAuthorities(t *testing.T) {
	s := made(t, richText)
	for _, authority := range []string{
		"", ".", "-", ":", ":80", "*", "*.mesh", "one..mesh", ".one.mesh", "one.mesh.", "-one.mesh", "one-.mesh", "one.-mesh", "one.mesh-",
		"one_mesh", "one mesh", " one.mesh", "one.mesh ", "one.mesh/", "one.mesh\n", "one.mesh\x00", "\xffone.mesh", "\u212ane.mesh", "ону.mesh",
		"one.mesh:", "one.mesh:0", "one.mesh:080", "one.mesh:65536", "one.mesh:-1", "one.mesh:+1", "one.mesh:8o", "one.mesh: 80", "one.mesh:80 ", "one.mesh:80:80", "one.mesh:99999999999999999999",
		strings.Repeat("a", 21) + ".mesh", strings.Repeat("a.", 30) + "a", strings.Repeat("a", 1<<16),
	} {
		for _, path := range []string{"/", "", "x"} {
			checkError(t, s, authority, path, api.ErrHost)
		}
	}
}

// P10.1 to P10.3: hosts that are ones, but have no route.
func TestNoRoutes(t *testing.T) {
	s := made(t, richText)
	for _, authority := range []string{"mesh", "one", "on.mesh", "one.mes", "a.one.mesh", "one.mesh.a", "one.mesh2", "xone.mesh", "out.example", "OUT.example:80", "0", strings.Repeat("a.", 29) + "aa"} {
		checkError(t, s, authority, "/", api.ErrRoute)
		checkError(t, s, authority, "/a", api.ErrRoute)
	}
	checkError(t, made(t, "label low\n"), "one.mesh", "/", api.ErrRoute)
	checkError(t, made(t, "label low\nwork w low 1\n"), "one.mesh", "/", api.ErrRoute)
}

// P10.1 to P10.3: paths that no prefix of the host begins.
func TestNoPrefix(t *testing.T) {
	s := made(t, richText)
	for _, path := range []string{"", "a", "a/", "*", "\x00/", " /", "http://one.mesh/", "?/"} {
		for _, authority := range []string{"one.mesh", "many.mesh", "other.mesh"} {
			checkError(t, s, authority, path, api.ErrRoute)
		}
	}
	for _, path := range []string{"", "/", "/only", "/only/her", "/only/herE", "/Only/here", "/only/Here", "/only//here", "only/here", "//only/here", "/a/only/here"} {
		checkError(t, s, "deep.mesh", path, api.ErrRoute)
	}
}

// P10.1: the routes with the longest prefix, in the order of the policy; with it and with what follows it. A path need not be one of a request.
func TestCandidates(t *testing.T) {
	s := made(t, richText)
	one := api.Route{Host: "one.mesh", Prefix: "/", Work: 3, Weight: 7}
	for _, path := range []string{"/", "//", "/a", "/a/b", "/ ", "/#", "/\x00", "/\xff", "/" + strings.Repeat("a", 1<<16)} {
		checkCandidates(t, s, "one.mesh", path, one)
	}
	deep := api.Route{Host: "deep.mesh", Prefix: "/only/here", Work: 4, Weight: 3}
	for _, path := range []string{"/only/here", "/only/here/", "/only/heretoo", "/only/here?"} {
		checkCandidates(t, s, "deep.mesh", path, deep)
	}
	for _, path := range []string{"/", "/b", "/A", "/%61", "//a", "/b/a"} {
		checkCandidates(t, s, "many.mesh", path, api.Route{Host: "many.mesh", Prefix: "/", Work: 5, Weight: 100}, api.Route{Host: "many.mesh", Prefix: "/", Work: 2, Weight: 1}, api.Route{Host: "many.mesh", Prefix: "/", Work: 0, Weight: 100})
		checkCandidates(t, s, "other.mesh", path, api.Route{Host: "other.mesh", Prefix: "/", Work: 0, Weight: 1})
	}
	for _, path := range []string{"/a", "/a/", "/ab", "/a/B", "/a//b", "/a/a/b"} {
		checkCandidates(t, s, "many.mesh", path, api.Route{Host: "many.mesh", Prefix: "/a", Work: 0, Weight: 2}, api.Route{Host: "many.mesh", Prefix: "/a", Work: 3, Weight: 3})
		checkCandidates(t, s, "other.mesh", path, api.Route{Host: "other.mesh", Prefix: "/a", Work: 1, Weight: 1})
	}
	for _, path := range []string{"/a/b", "/a/b/", "/a/bb", "/a/b/a"} {
		checkCandidates(t, s, "many.mesh", path, api.Route{Host: "many.mesh", Prefix: "/a/b", Work: 1, Weight: 1}, api.Route{Host: "many.mesh", Prefix: "/a/b", Work: 4, Weight: 100})
		checkCandidates(t, s, "other.mesh", path, api.Route{Host: "other.mesh", Prefix: "/a/b", Work: 2, Weight: 9})
	}
}

// P10.2: each end of each candidate's section, on both sides of 0, and the least and the greatest draw.
func TestPick(t *testing.T) {
	s := made(t, richText)
	for _, c := range []struct {
		path  string
		draws []int
		works []int
	}{
		{"/", []int{0, 1, 99, 100, 101, 102, 200, 201, 202, 300, 301, 302, 401, 402}, []int{5, 5, 5, 2, 0, 0, 0, 5, 5, 5, 2, 0, 0, 5}},
		{"/", []int{-1, -2, -100, -101, -102, -200, -201, -202, -301, -302, -402, -403}, []int{0, 0, 0, 2, 5, 5, 5, 0, 0, 2, 5, 0}},
		{"/a", []int{0, 1, 2, 3, 4, 5, 6, 7, 9, 10}, []int{0, 0, 3, 3, 3, 0, 0, 3, 3, 0}},
		{"/a", []int{-1, -2, -3, -4, -5, -6, -8, -9}, []int{3, 3, 3, 0, 0, 3, 3, 0}},
		{"/a/b", []int{0, 1, 2, 100, 101, 102, 201, 202, 203, -1, -100, -101, -102, -201, -202, -203}, []int{1, 4, 4, 4, 1, 4, 4, 1, 4, 4, 4, 1, 4, 4, 1, 4}},
		// 2^63 is 176 more than a multiple of 201, 3 more than one of 5, and 90 more than one of 101.
		{"/", []int{math.MaxInt, math.MaxInt - 74, math.MaxInt - 75, math.MaxInt - 76, math.MaxInt - 175, math.MaxInt - 176}, []int{0, 0, 2, 5, 5, 0}},
		{"/", []int{math.MinInt, math.MinInt + 74, math.MinInt + 75, math.MinInt + 76, math.MinInt + 175, math.MinInt + 176}, []int{5, 5, 2, 0, 0, 5}},
		{"/a", []int{math.MaxInt, math.MaxInt - 1, math.MaxInt - 2, math.MaxInt - 3, math.MinInt, math.MinInt + 2, math.MinInt + 3}, []int{3, 0, 0, 3, 3, 3, 0}},
		{"/a/b", []int{math.MaxInt, math.MaxInt - 88, math.MaxInt - 89, math.MaxInt - 90, math.MinInt, math.MinInt + 89, math.MinInt + 90, math.MinInt + 91}, []int{4, 4, 1, 4, 4, 4, 1, 4}},
	} {
		for i, draw := range c.draws {
			checkPick(t, s, "many.mesh", c.path, draw, c.works[i], api.OK)
		}
	}
	for _, draw := range []int{math.MinInt, -8, -7, -1, 0, 6, 7, 8, math.MaxInt} {
		checkPick(t, s, "one.mesh", "/any", draw, 3, api.OK)
	}
}

// P10.3: none, some and all of the candidates are gone, some of them twice, and others that are no candidates, or no workloads.
func TestAgain(t *testing.T) {
	s := made(t, richText)
	for _, c := range []struct {
		path  string
		gone  []int
		draws []int
		works []int
	}{
		{"/", []int{1, 3, 4}, []int{-1, 0, 99, 100, 101, 200, 201}, []int{0, 5, 5, 2, 0, 0, 5}},
		{"/", []int{-1, 6, 7, math.MaxInt, math.MinInt, -5}, []int{-1, 0, 99, 100, 101, 200, 201}, []int{0, 5, 5, 2, 0, 0, 5}},
		{"/", []int{5}, []int{-1, 0, 1, 100, 101, 102}, []int{0, 2, 0, 0, 2, 0}},
		{"/", []int{2}, []int{-1, 0, 99, 100, 199, 200}, []int{0, 5, 5, 0, 0, 5}},
		{"/", []int{0}, []int{-1, 0, 99, 100, 101}, []int{2, 5, 5, 2, 5}},
		{"/", []int{9, 0, -1, 0, 0}, []int{-1, 0, 99, 100, 101}, []int{2, 5, 5, 2, 5}},
		{"/", []int{5, 0}, []int{-1, 0, 1, math.MaxInt, math.MinInt}, []int{2, 2, 2, 2, 2}},
		{"/", []int{2, 5, 2}, []int{-1, 0, 99, 100, 101, 200}, []int{0, 0, 0, 0, 0, 0}},
		{"/", []int{0, 2, 5}, []int{-1, 0, 99, 100, 101, 200, 201}, []int{0, 5, 5, 2, 0, 0, 5}},
		{"/", []int{5, 5, 1, 2, 0, 3, 2, 4, 6}, []int{-1, 0, 99, 100, 101, 200, 201}, []int{0, 5, 5, 2, 0, 0, 5}},
		{"/a", []int{0}, []int{-1, 0, 1, 2}, []int{3, 3, 3, 3}},
		{"/a", []int{3, 3}, []int{-1, 0, 1, 2}, []int{0, 0, 0, 0}},
		{"/a", []int{3, 0}, []int{-1, 0, 1, 2, 5}, []int{3, 0, 0, 3, 0}},
		// Those of a shorter prefix are no candidates, even if all others are gone.
		{"/a/b", []int{1, 4}, []int{-1, 0, 1, 100, 101}, []int{4, 1, 4, 4, 1}},
	} {
		for i, draw := range c.draws {
			checkAgain(t, s, "many.mesh", c.path, draw, c.gone, c.works[i], api.OK)
		}
	}
	for _, gone := range [][]int{{3}, {3, 3}, {0, 1, 2, 3, 4, 5}, {4}, make([]int, 1<<16)} {
		checkAgain(t, s, "one.mesh", "/", 5, gone, 3, api.OK)
	}
}

// P10.6: neither the case of letters nor the port matters to the host; the case of letters matters to the path.
func TestCaseAndPort(t *testing.T) {
	s := made(t, richText)
	want, _ := Candidates(s, "many.mesh", "/a")
	for _, authority := range []string{"many.mesh", "MANY.MESH", "mAnY.mEsH", "Many.mesh:1", "many.MESH:80", "MANY.MESH:81", "many.mesh:65535"} {
		checkCandidates(t, s, authority, "/a", want...)
		checkPick(t, s, authority, "/a", 2, 3, api.OK)
		checkPick(t, s, authority, "/A", 100, 2, api.OK)
		checkAgain(t, s, authority, "/a", 2, []int{3}, 0, api.OK)
	}
}

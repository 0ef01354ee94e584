package snap

import (
	"fmt"
	"math"
	"slices"
	"strings"
	"testing"

	"chinoiserie/api"
	"chinoiserie/policy"
)

const exampleText = `label low
label high
below low high
dest x.example low
work a low 1
work b high 1
call a b
allow *.example
`

// richText is the text of a policy with some of everything; its labels are low, a and b above it, and high.
const richText = `label low
label a
label b
label high
below low a
below low b
below a high
below b high
source web low low
source app a high
dest x.example low
dest y.example b
dest z.other a
dest deep.x.example a
dest shop.example.org high
work alone low 4
work front low 4
work left a 1
work right b 2
work back low 64
work end b 3
route f.mesh / front 1
route f.mesh /b left 50
call front left
call front right
call left back
call right back
call back end
grant g1 right high a /sum
allow *.example
allow shop.example.org
allow *.none
`

// made is the snapshot of a text that has one.
func made(t *testing.T, text string) *Snap {
	t.Helper()
	s, line, e := Make(text)
	if s == nil || line != 0 || e != api.OK {
		t.Fatalf("Make(%q): %p, %d, %d", text, s, line, e)
	}
	return s
}

// parsed is the policy of a text that has one.
func parsed(t *testing.T, text string) api.Policy {
	t.Helper()
	p, line, e := policy.Parse(text)
	if line != 0 || e != api.OK {
		t.Fatalf("%q: %d, %d", text, line, e)
	}
	return p
}

// checkBoth checks the snapshots of a policy and of its text.
func checkBoth(t *testing.T, what string, p api.Policy) {
	t.Helper()
	s, e := Of(p)
	if e != api.OK {
		t.Fatalf("%s: Of: %d", what, e)
	}
	checkSnap(t, what+", Of", s, p)
	checkSnap(t, what+", Make", made(t, s.Text()), p)
}

// full is a valid policy of which no list may be longer; its labels are in a row.
func full() api.Policy {
	var p api.Policy
	for i := range 10 {
		p.Labels = append(p.Labels, fmt.Sprint("label", i))
		for j := range i {
			p.Below = append(p.Below, [2]int{j, i})
		}
	}
	for i := range 6 {
		p.Sources = append(p.Sources, api.Source{Name: fmt.Sprint("source", i), Label: api.Label(i), Clear: 9})
		p.Dests = append(p.Dests, api.Dest{Host: fmt.Sprint("d", i, ".example"), Clear: api.Label(9 - i)})
		p.Works = append(p.Works, api.Work{Name: fmt.Sprint("work", i), Label: api.Label(9 - i), Quota: 64})
		p.Grants = append(p.Grants, api.Grant{Name: fmt.Sprint("grant", i), Work: i, From: 9, To: api.Label(i), Prefix: "/"})
		p.Allow = append(p.Allow, fmt.Sprint("d", 2*i, ".example"))
		for j := range i {
			p.Calls = append(p.Calls, [2]int{i, j})
		}
	}
	for i := range 12 {
		p.Routes = append(p.Routes, api.Route{Host: fmt.Sprint("r", i), Prefix: "/", Work: i % 6, Weight: 100})
	}
	return p
}

// The table 'Examples' of the chapter.
func TestExamples(t *testing.T) {
	s := made(t, exampleText)
	for _, c := range []struct {
		call string
		got  []any
		want []any
	}{
		{"Reach", results(s.Reach(0)), []any{api.Label(1), api.OK}},
		{"Reach", results(s.Reach(1)), []any{api.Label(1), api.OK}},
		{"May", []any{s.May(0, 1), s.May(1, 0)}, []any{true, false}},
		{"Allowed", []any{s.Allowed("x.example"), s.Allowed("y.example")}, []any{true, false}},
		{"Join", results(s.Join(0, 1)), []any{api.Label(1), api.OK}},
		{"Name", []any{s.Name(1)}, []any{"high"}},
		{"Reach", results(s.Reach(2)), []any{api.Label(0), api.ErrRange}},
		{"Label", results(s.Label("mid")), []any{api.Label(0), api.ErrName}},
		{"Dest", results(s.Dest("y.example")), []any{api.Dest{}, api.ErrName}},
	} {
		if !slices.Equal(c.got, c.want) {
			t.Errorf("%s: %v, not %v", c.call, c.got, c.want)
		}
	}
	checkSnap(t, "examples", s, parsed(t, exampleText))
}

func results[T any](x T, e api.Errno) []any { return []any{x, e} }

// The methods of a nil and of a zero Snap.
func TestNilAndZero(t *testing.T) {
	for what, s := range map[string]*Snap{"nil": nil, "zero": {}} {
		if !policy.Same(s.Policy(), api.Policy{}) || s.Text() != "" || s.Many() != 0 || s.Lattice() != nil {
			t.Errorf("%s: %+v, %q, %d, %p", what, s.Policy(), s.Text(), s.Many(), s.Lattice())
		}
		for _, a := range around(1) {
			if s.Name(api.Label(a)) != "" {
				t.Errorf("%s: Name(%d): %q", what, a, s.Name(api.Label(a)))
			}
			if l, e := s.Reach(a); l != 0 || e != api.ErrNil {
				t.Errorf("%s: Reach(%d): %d, %d", what, a, l, e)
			}
			for _, b := range around(1) {
				if s.Leq(api.Label(a), api.Label(b)) || s.May(a, b) {
					t.Errorf("%s: Leq or May of %d, %d", what, a, b)
				}
				if l, e := s.Join(api.Label(a), api.Label(b)); l != 0 || e != api.ErrNil {
					t.Errorf("%s: Join(%d, %d): %d, %d", what, a, b, l, e)
				}
			}
		}
		for _, word := range words(full()) {
			checkNoWord(t, what, s, word)
		}
	}
}

func checkNoWord(t *testing.T, what string, s *Snap, word string) {
	t.Helper()
	if l, e := s.Label(word); l != 0 || e != api.ErrNil {
		t.Errorf("%s: Label(%.80q): %d, %d", what, word, l, e)
	}
	if source, e := s.Source(word); source != (api.Source{}) || e != api.ErrNil {
		t.Errorf("%s: Source(%.80q): %+v, %d", what, word, source, e)
	}
	if dest, e := s.Dest(word); dest != (api.Dest{}) || e != api.ErrNil {
		t.Errorf("%s: Dest(%.80q): %+v, %d", what, word, dest, e)
	}
	if w, e := s.Work(word); w != 0 || e != api.ErrNil {
		t.Errorf("%s: Work(%.80q): %d, %d", what, word, w, e)
	}
	if s.Allowed(word) {
		t.Errorf("%s: Allowed(%.80q)", what, word)
	}
}

// P9.1: Of with each error that Check has.
func TestOfErrors(t *testing.T) {
	met := map[api.Errno]bool{}
	for what, c := range map[string]struct {
		change func(p *api.Policy)
		e      api.Errno
	}{
		"too many labels":    {func(p *api.Policy) { p.Labels = make([]string, 11) }, api.ErrLimit},
		"too many patterns":  {func(p *api.Policy) { p.Allow = make([]string, 7) }, api.ErrLimit},
		"no label":           {func(p *api.Policy) { p.Labels = nil }, api.ErrArg},
		"two labels alike":   {func(p *api.Policy) { p.Labels[1] = "low" }, api.ErrName},
		"a pair outside":     {func(p *api.Policy) { p.Below[0][1] = 4 }, api.ErrRange},
		"labels in a circle": {func(p *api.Policy) { p.Below[0] = [2]int{3, 0} }, api.ErrCycle},
		"no lattice":         {func(p *api.Policy) { p.Below = p.Below[:3] }, api.ErrLattice},
		"a source's name":    {func(p *api.Policy) { p.Sources[0].Name = "" }, api.ErrName},
		"a source's label":   {func(p *api.Policy) { p.Sources[0].Label = 4 }, api.ErrRange},
		"a dest's host":      {func(p *api.Policy) { p.Dests[0].Host = "X.example" }, api.ErrHost},
		"a work's label":     {func(p *api.Policy) { p.Works[0].Label = -1 }, api.ErrRange},
		"a work's quota":     {func(p *api.Policy) { p.Works[0].Quota = 0 }, api.ErrArg},
		"a route's host":     {func(p *api.Policy) { p.Routes[0].Host = "x.example" }, api.ErrPolicy},
		"a route's prefix":   {func(p *api.Policy) { p.Routes[0].Prefix = "" }, api.ErrForm},
		"a call twice":       {func(p *api.Policy) { p.Calls[1] = p.Calls[0] }, api.ErrPolicy},
		"calls in a circle":  {func(p *api.Policy) { p.Calls[4] = [2]int{4, 1} }, api.ErrCycle},
		"a grant's way":      {func(p *api.Policy) { p.Grants[0].To = 3 }, api.ErrPolicy},
		"a pattern":          {func(p *api.Policy) { p.Allow[0] = "*" }, api.ErrHost},
	} {
		p := parsed(t, richText)
		c.change(&p)
		if s, e := Of(p); s != nil || e != c.e || e != policy.Check(p) {
			t.Errorf("%s: %p, %d, not %d", what, s, e, c.e)
		}
		met[c.e] = true
	}
	if s, e := Of(api.Policy{}); s != nil || e != api.ErrArg {
		t.Errorf("zero: %p, %d", s, e)
	}
	for _, e := range []api.Errno{api.ErrArg, api.ErrForm, api.ErrLimit, api.ErrRange, api.ErrCycle, api.ErrLattice, api.ErrName, api.ErrHost, api.ErrPolicy} {
		if !met[e] {
			t.Errorf("no policy with %d", e)
		}
	}
}

// P9.1: Make with each error that Parse has, and its line.
func TestMakeErrors(t *testing.T) {
	for text, c := range map[string]struct {
		line int
		e    api.Errno
	}{
		"":                                             {0, api.ErrArg},
		"# nothing\n\n":                                {0, api.ErrArg},
		strings.Repeat("\n", api.MaxText+1):            {0, api.ErrLimit},
		"labels low":                                   {1, api.ErrForm},
		"label low\n\nlabel low high":                  {3, api.ErrForm},
		"label low\nlabel h\xff":                       {2, api.ErrForm},
		"label low\nwork a low 01":                     {2, api.ErrForm},
		"label low\nwork a low 9007199254740992":       {2, api.ErrRange},
		"label low\nwork a mid 2":                      {2, api.ErrName},
		"label low\ncall a b":                          {2, api.ErrName},
		"label low\n# x\nlabel low":                    {3, api.ErrName},
		"label low\nlabel Low":                         {2, api.ErrName},
		"label low\n" + strings.Repeat("allow a\n", 7): {8, api.ErrLimit},
		"label low\nlabel high":                        {0, api.ErrLattice},
		"label low\nbelow low low":                     {0, api.ErrCycle},
		"label low\nwork a low 1\ncall a a":            {0, api.ErrCycle},
		"label low\nwork a low 65":                     {0, api.ErrArg},
		"label low\nsource Web low low":                {0, api.ErrName},
		"label low\ndest Web low":                      {0, api.ErrHost},
		"label low\nwork a low 1\nroute a x a 1":       {0, api.ErrForm},
		"label low\nwork a low 1\ngrant g a low low /": {0, api.ErrPolicy},
	} {
		s, line, e := Make(text)
		_, wantLine, wantE := policy.Parse(text)
		if s != nil || line != c.line || e != c.e || line != wantLine || e != wantE {
			t.Errorf("%.80q: %p, %d, %d, not %d, %d", text, s, line, e, c.line, c.e)
		}
	}
}

// P9.1, P9.2: texts with blanks and ignored lines, and kinds in another order.
func TestMakeOfOtherLines(t *testing.T) {
	s := made(t, "\n# label x\nlabel   low\nwork a low 1\n label high \nwork b high 1\nallow *.example\nbelow low high\n\ncall a b\n#\ndest x.example low")
	if got := s.Text(); got != exampleText {
		t.Errorf("%q, not %q", got, exampleText)
	}
	checkSnap(t, "other lines", s, parsed(t, exampleText))
}

// P9.2: a policy with some of everything, with as much as there may be, and with as little.
func TestPolicies(t *testing.T) {
	s := made(t, richText)
	if got := s.Text(); got != richText {
		t.Errorf("%q, not %q", got, richText)
	}
	checkBoth(t, "examples", parsed(t, exampleText))
	checkBoth(t, "rich", parsed(t, richText))
	checkBoth(t, "full", full())
	checkBoth(t, "one label", api.Policy{Labels: []string{"low"}})
	checkBoth(t, "empty lists", api.Policy{Labels: []string{"low"}, Below: [][2]int{}, Sources: []api.Source{}, Dests: []api.Dest{}, Works: []api.Work{}, Routes: []api.Route{}, Calls: [][2]int{}, Grants: []api.Grant{}, Allow: []string{}})
	checkBoth(t, "one workload", api.Policy{Labels: []string{"low"}, Works: []api.Work{{Name: "a", Quota: 1}}})
	checkBoth(t, "from high to low", api.Policy{Labels: []string{"high", "mid", "low"}, Below: [][2]int{{2, 1}, {1, 0}}, Works: []api.Work{{Name: "a", Label: 2, Quota: 1}, {Name: "b", Label: 0, Quota: 1}}, Calls: [][2]int{{0, 1}}})
	for many := range 7 {
		p := full()
		p.Works, p.Calls, p.Routes, p.Grants = p.Works[:many], nil, nil, nil
		checkBoth(t, fmt.Sprint(many, " workloads"), p)
	}
}

// P9.3: labels that are none, that lie above each other, and beside each other.
func TestLabels(t *testing.T) {
	s := made(t, richText)
	const low, a, b, high, none = 0, 1, 2, 3, 4
	for _, c := range []struct {
		a, b api.Label
		leq  bool
		join api.Label
		e    api.Errno
	}{
		{low, low, true, low, api.OK},
		{low, high, true, high, api.OK},
		{high, low, false, high, api.OK},
		{low, a, true, a, api.OK},
		{a, low, false, a, api.OK},
		{a, b, false, high, api.OK},
		{b, a, false, high, api.OK},
		{high, high, true, high, api.OK},
		{-1, low, false, 0, api.ErrRange},
		{low, -1, false, 0, api.ErrRange},
		{high, none, false, 0, api.ErrRange},
		{none, high, false, 0, api.ErrRange},
		{-1, -1, false, 0, api.ErrRange},
		{none, none, false, 0, api.ErrRange},
		{-1, none, false, 0, api.ErrRange},
		{math.MinInt, math.MaxInt, false, 0, api.ErrRange},
	} {
		join, e := s.Join(c.a, c.b)
		if s.Leq(c.a, c.b) != c.leq || join != c.join || e != c.e {
			t.Errorf("%d, %d: %t, %d, %d", c.a, c.b, s.Leq(c.a, c.b), join, e)
		}
	}
	if s.Name(-1) != "" || s.Name(low) != "low" || s.Name(high) != "high" || s.Name(none) != "" {
		t.Errorf("%q, %q, %q, %q", s.Name(-1), s.Name(low), s.Name(high), s.Name(none))
	}
	for name, want := range map[string]api.Label{"low": low, "a": a, "b": b, "high": high} {
		if l, e := s.Label(name); l != want || e != api.OK {
			t.Errorf("Label(%q): %d, %d", name, l, e)
		}
	}
	for _, name := range []string{"", "Low", "LOW", "lo", "lows", "mid", "web", "front", "g1", "0"} {
		if l, e := s.Label(name); l != 0 || e != api.ErrName {
			t.Errorf("Label(%q): %d, %d", name, l, e)
		}
	}
}

// P9.4: a workload that calls none, others that call directly, by others alone, and by two ways.
func TestReach(t *testing.T) {
	s := made(t, richText)
	const low, a, b, high = 0, 1, 2, 3
	for w, c := range map[int]struct {
		reach api.Label
		e     api.Errno
	}{
		-1: {0, api.ErrRange},
		0:  {low, api.OK},
		1:  {high, api.OK},
		2:  {high, api.OK},
		3:  {b, api.OK},
		4:  {b, api.OK},
		5:  {b, api.OK},
		6:  {0, api.ErrRange},
	} {
		if l, e := s.Reach(w); l != c.reach || e != c.e {
			t.Errorf("Reach(%d): %d, %d, not %d, %d", w, l, e, c.reach, c.e)
		}
	}
}

// P9.4: calls in a row, in each order of their lines: what lies at its end is in the reach of all.
func TestReachAlongARow(t *testing.T) {
	p := api.Policy{Labels: []string{"low", "high"}, Below: [][2]int{{0, 1}}}
	for i := range 6 {
		p.Works = append(p.Works, api.Work{Name: fmt.Sprint("w", i), Quota: 1})
	}
	p.Works[5].Label = 1
	row := [][2]int{{0, 1}, {1, 2}, {2, 3}, {3, 4}, {4, 5}}
	var all func(used [][2]int)
	all = func(used [][2]int) {
		if len(used) == len(row) {
			p.Calls = used
			checkBoth(t, fmt.Sprint(used), p)
		}
		for _, c := range row {
			if !slices.Contains(used, c) {
				all(append(slices.Clone(used), c))
			}
		}
	}
	all(nil)
}

// P9.4: a call that is there, its opposite, one that is reached by two calls.
func TestMay(t *testing.T) {
	s := made(t, richText)
	for pair, want := range map[[2]int]bool{
		{1, 2}: true, {2, 1}: false, {2, 4}: true, {4, 2}: false,
		{1, 4}: false, {1, 5}: false, {2, 5}: false, {4, 5}: true,
		{0, 0}: false, {1, 1}: false, {0, 1}: false, {5, 0}: false,
		{-1, 1}: false, {1, -1}: false, {4, 6}: false, {6, 5}: false, {-1, -1}: false, {6, 6}: false,
		{math.MinInt, 2}: false, {1, math.MaxInt}: false,
	} {
		if got := s.May(pair[0], pair[1]); got != want {
			t.Errorf("May%v: %t", pair, got)
		}
	}
}

// P9.5: names that are there, that are none, the empty one, and ones in upper case letters.
func TestNames(t *testing.T) {
	s := made(t, richText)
	if source, e := s.Source("web"); source != (api.Source{Name: "web"}) || e != api.OK {
		t.Errorf("%+v, %d", source, e)
	}
	if source, e := s.Source("app"); source != (api.Source{Name: "app", Label: 1, Clear: 3}) || e != api.OK {
		t.Errorf("%+v, %d", source, e)
	}
	if dest, e := s.Dest("shop.example.org"); dest != (api.Dest{Host: "shop.example.org", Clear: 3}) || e != api.OK {
		t.Errorf("%+v, %d", dest, e)
	}
	if dest, e := s.Dest("x.example"); dest != (api.Dest{Host: "x.example"}) || e != api.OK {
		t.Errorf("%+v, %d", dest, e)
	}
	if w, e := s.Work("alone"); w != 0 || e != api.OK {
		t.Errorf("%d, %d", w, e)
	}
	if w, e := s.Work("end"); w != 5 || e != api.OK {
		t.Errorf("%d, %d", w, e)
	}
	for _, name := range []string{"", "Web", "WEB", "we", "webs", "low", "Alone", "ALONE", "alon", "g1", "f.mesh", "X.example", "x.example:80", "x.example.", "*.example", "f.none"} {
		if source, e := s.Source(name); source != (api.Source{}) || e != api.ErrName {
			t.Errorf("Source(%q): %+v, %d", name, source, e)
		}
		if dest, e := s.Dest(name); dest != (api.Dest{}) || e != api.ErrName {
			t.Errorf("Dest(%q): %+v, %d", name, dest, e)
		}
		if w, e := s.Work(name); w != 0 || e != api.ErrName {
			t.Errorf("Work(%q): %d, %d", name, w, e)
		}
	}
}

// P9.3, P9.5: one name of a label, a source and a workload, and a destination's host that is like it.
func TestOneNameOfSeveralKinds(t *testing.T) {
	p := api.Policy{
		Labels:  []string{"low", "a", "high"},
		Below:   [][2]int{{0, 1}, {1, 2}},
		Sources: []api.Source{{Name: "b", Label: 2, Clear: 2}, {Name: "low", Clear: 1}, {Name: "a", Label: 1, Clear: 2}},
		Dests:   []api.Dest{{Host: "b", Clear: 1}, {Host: "a", Clear: 2}},
		Works:   []api.Work{{Name: "low", Label: 2, Quota: 1}, {Name: "high", Label: 1, Quota: 1}, {Name: "b", Label: 1, Quota: 1}, {Name: "a", Quota: 1}},
		Allow:   []string{"a"},
	}
	checkBoth(t, "one name", p)
}

// P9.5: hosts that are allowed, and others.
func TestAllowed(t *testing.T) {
	s := made(t, richText)
	for host, want := range map[string]bool{
		"x.example": true, "y.example": true, "shop.example.org": true,
		// Destinations that no pattern matches.
		"z.other": false, "deep.x.example": false,
		// What a pattern matches, and is no destination.
		"v.example": false, "a.none": false, "example": false, "f.mesh": false,
		// What is no plain host.
		"x.example:80": false, "X.example": false, "X.EXAMPLE": false, "x.example.": false, "": false, "*.example": false, ".example": false,
	} {
		if got := s.Allowed(host); got != want {
			t.Errorf("Allowed(%q): %t", host, got)
		}
	}
}

// P9.5: without patterns, without destinations, and without both.
func TestNothingIsAllowed(t *testing.T) {
	p := parsed(t, richText)
	noPattern, noDest, neither := p, p, p
	noPattern.Allow, noDest.Dests = nil, nil
	neither.Allow, neither.Dests = nil, nil
	for what, p := range map[string]api.Policy{"no pattern": noPattern, "no destination": noDest, "neither": neither} {
		s, e := Of(p)
		if e != api.OK {
			t.Fatalf("%s: %d", what, e)
		}
		for _, host := range []string{"x.example", "y.example", "shop.example.org", "z.other", ""} {
			if s.Allowed(host) {
				t.Errorf("%s: Allowed(%q)", what, host)
			}
		}
		checkBoth(t, what, p)
	}
}

package policy

import (
	"fmt"
	"math"
	"slices"
	"strings"
	"testing"

	"chinoiserie/api"
)

// rich is a valid policy with some of everything; its labels are low, a and b above it, and high.
func rich() api.Policy {
	return api.Policy{
		Labels:  []string{"low", "a", "b", "high"},
		Below:   [][2]int{{0, 1}, {0, 2}, {1, 3}, {2, 3}},
		Sources: []api.Source{{Name: "web", Label: 0, Clear: 0}, {Name: "app", Label: 1, Clear: 3}},
		Dests:   []api.Dest{{Host: "x.example", Clear: 0}, {Host: "shop.example.org", Clear: 3}},
		Works:   []api.Work{{Name: "front", Label: 0, Quota: 4}, {Name: "mid", Label: 1, Quota: 1}, {Name: "back", Label: 3, Quota: 64}},
		Routes:  []api.Route{{Host: "f.mesh", Prefix: "/", Work: 0, Weight: 1}, {Host: "f.mesh", Prefix: "/b", Work: 0, Weight: 100}, {Host: "f.mesh", Prefix: "/", Work: 1, Weight: 50}},
		Calls:   [][2]int{{0, 1}, {1, 2}, {0, 2}},
		Grants:  []api.Grant{{Name: "g1", Work: 2, From: 3, To: 1, Prefix: "/sum"}, {Name: "g2", Work: 1, From: 1, To: 0, Prefix: "/"}},
		Allow:   []string{"*.example", "shop.example.org"},
	}
}

const richText = `label low
label a
label b
label high
below low a
below low b
below a high
below b high
source web low low
source app a high
dest x.example low
dest shop.example.org high
work front low 4
work mid a 1
work back high 64
route f.mesh / front 1
route f.mesh /b front 100
route f.mesh / mid 50
call front mid
call mid back
call front back
grant g1 back high a /sum
grant g2 mid a low /
allow *.example
allow shop.example.org
`

// full is a valid policy of which no list may be longer, with names, hosts and paths of the greatest size.
func full() api.Policy {
	var p api.Policy
	for i := range 10 {
		p.Labels = append(p.Labels, sized("l", i, 12))
		for j := range i {
			p.Below = append(p.Below, [2]int{j, i})
		}
	}
	for i := range 6 {
		p.Sources = append(p.Sources, api.Source{Name: sized("s", i, 12), Label: api.Label(i), Clear: 9})
		p.Dests = append(p.Dests, api.Dest{Host: longHost("d", i, 60), Clear: api.Label(9 - i)})
		p.Works = append(p.Works, api.Work{Name: sized("w", i, 12), Label: api.Label(i), Quota: 64})
		p.Grants = append(p.Grants, api.Grant{Name: sized("g", i, 12), Work: i, From: 9, To: api.Label(i), Prefix: longPath(i, 60)})
		p.Allow = append(p.Allow, "*."+longHost("p", i, 58))
		for j := range i {
			p.Calls = append(p.Calls, [2]int{j, i})
		}
	}
	for i := range 12 {
		p.Routes = append(p.Routes, api.Route{Host: longHost("r", i/2, 60), Prefix: longPath(i, 60), Work: i % 6, Weight: 100})
	}
	return p
}

// sized is a name of so many bytes.
func sized(first string, i, size int) string {
	return first + strings.Repeat("-", size-2) + string(rune('0'+i))
}

// longHost is a host of so many bytes, from 45 on.
func longHost(first string, i, size int) string {
	head := first + string(rune('0'+i)) + "." + strings.Repeat("h", 20) + "." + strings.Repeat("k", 20) + "."
	return head + strings.Repeat("m", size-len(head))
}

// longPath is a path of so many bytes.
func longPath(i, size int) string {
	return "/" + string(rune('a'+i)) + strings.Repeat("~", size-2)
}

// with is the rich policy with another field, or several.
func with(change func(p *api.Policy)) api.Policy {
	p := rich()
	change(&p)
	return p
}

// checkPolicy holds Check and Print of a policy against what is wanted and against the second reading; a valid one's text has to be parsed as it.
func checkPolicy(t *testing.T, what string, p api.Policy, want api.Errno) {
	t.Helper()
	if told := toldCheck(p); told != want {
		t.Errorf("%s: the second reading says %d, not %d", what, told, want)
	}
	if e := Check(p); e != want {
		t.Errorf("%s: Check: %d, not %d", what, e, want)
	}
	text := ""
	if want == api.OK {
		text = toldText(p)
	}
	if s, e := Print(p); s != text || e != want {
		t.Errorf("%s: Print: %q, %d, not %q, %d", what, s, e, text, want)
	}
	if want == api.OK {
		if q, line, e := Parse(text); !Same(q, p) || line != 0 || e != api.OK {
			t.Errorf("%s: Parse(%q): %+v, %d, %d, not %+v", what, text, q, line, e, p)
		}
	}
}

// P8.1
func TestValid(t *testing.T) {
	checkPolicy(t, "rich", rich(), api.OK)
	checkPolicy(t, "full", full(), api.OK)
	checkPolicy(t, "one label", api.Policy{Labels: []string{"low"}}, api.OK)
	if s, e := Print(rich()); s != richText || e != api.OK {
		t.Errorf("%q, %d", s, e)
	}
	empty := api.Policy{Labels: []string{"low"}, Below: [][2]int{}, Sources: []api.Source{}, Dests: []api.Dest{}, Works: []api.Work{}, Routes: []api.Route{}, Calls: [][2]int{}, Grants: []api.Grant{}, Allow: []string{}}
	checkPolicy(t, "empty lists", empty, api.OK)
}

// P8.1: a policy without a label.
func TestNoLabel(t *testing.T) {
	checkPolicy(t, "zero", api.Policy{}, api.ErrArg)
	checkPolicy(t, "without labels", with(func(p *api.Policy) { p.Labels = nil }), api.ErrArg)
	checkPolicy(t, "empty labels", api.Policy{Labels: []string{}}, api.ErrArg)
}

// longer are policies of which each has one list that is too long, and nothing else that is wrong.
func longer() map[string]api.Policy {
	all := map[string]api.Policy{}
	add := func(what string, change func(p *api.Policy)) {
		p := full()
		change(&p)
		all[what] = p
	}
	add("labels", func(p *api.Policy) { p.Labels = append(p.Labels, "top"); p.Below[0] = [2]int{9, 10} })
	add("pairs", func(p *api.Policy) { p.Below = append(p.Below, [2]int{0, 1}) })
	add("sources", func(p *api.Policy) { p.Sources = append(p.Sources, api.Source{Name: "more"}) })
	add("dests", func(p *api.Policy) { p.Dests = append(p.Dests, api.Dest{Host: "more"}) })
	add("works", func(p *api.Policy) { p.Works = append(p.Works, api.Work{Name: "more", Quota: 1}) })
	add("routes", func(p *api.Policy) { p.Routes = append(p.Routes, api.Route{Host: "more", Prefix: "/", Weight: 1}) })
	add("calls", func(p *api.Policy) { p.Calls = append(p.Calls, [2]int{0, 1}) })
	add("grants", func(p *api.Policy) { p.Grants = append(p.Grants, api.Grant{Name: "more", From: 1, Prefix: "/"}) })
	add("patterns", func(p *api.Policy) { p.Allow = append(p.Allow, "more") })
	return all
}

// P8.1: each list at its greatest number (in full), and one more.
func TestLimits(t *testing.T) {
	for what, p := range longer() {
		checkPolicy(t, what, p, api.ErrLimit)
	}
	many := api.Policy{Labels: make([]string, 1000), Allow: make([]string, 1<<16)}
	checkPolicy(t, "many", many, api.ErrLimit)
}

// P8.1: that of lattice.
func TestLattice(t *testing.T) {
	for _, c := range []struct {
		labels []string
		below  [][2]int
		e      api.Errno
	}{
		{[]string{"low", "high"}, [][2]int{{0, 1}}, api.OK},
		{[]string{"low", "high"}, [][2]int{{0, 1}, {0, 1}}, api.OK},
		{[]string{"high", "low"}, [][2]int{{1, 0}}, api.OK},
		{[]string{"low", "high"}, nil, api.ErrLattice},
		{[]string{"low", "a", "b"}, [][2]int{{0, 1}, {0, 2}}, api.ErrLattice},
		{[]string{"a", "b", "high"}, [][2]int{{0, 2}, {1, 2}}, api.ErrLattice},
		{[]string{"low", "a", "b", "c", "d", "high"}, [][2]int{{0, 1}, {0, 2}, {1, 3}, {1, 4}, {2, 3}, {2, 4}, {3, 5}, {4, 5}}, api.ErrLattice},
		{[]string{"low"}, [][2]int{{0, 0}}, api.ErrCycle},
		{[]string{"low", "high"}, [][2]int{{0, 1}, {1, 0}}, api.ErrCycle},
		{[]string{"low", "mid", "high"}, [][2]int{{0, 1}, {1, 2}, {2, 0}}, api.ErrCycle},
		{[]string{"low", "low"}, [][2]int{{0, 1}}, api.ErrName},
		{[]string{"low", ""}, [][2]int{{0, 1}}, api.ErrName},
		{[]string{"low", "High"}, [][2]int{{0, 1}}, api.ErrName},
		{[]string{"low", "1a"}, [][2]int{{0, 1}}, api.ErrName},
		{[]string{"low", "abcdefghijkl"}, [][2]int{{0, 1}}, api.OK},
		{[]string{"low", "abcdefghijklm"}, [][2]int{{0, 1}}, api.ErrName},
		{[]string{"low", "high"}, [][2]int{{0, 1}, {0, 2}}, api.ErrRange},
		{[]string{"low", "high"}, [][2]int{{-1, 1}}, api.ErrRange},
		{[]string{"low", "high"}, [][2]int{{0, 1}, {1, 0}, {0, math.MaxInt}}, api.ErrRange},
	} {
		checkPolicy(t, fmt.Sprint(c), api.Policy{Labels: c.labels, Below: c.below}, c.e)
	}
}

// names tells texts, and whether each is a name.
func names() map[string]bool {
	return map[string]bool{
		"abcdefghijkl": true, "abcdefghijklm": false, "": false, "a": true, "z-9": true, "A": false, "aB": false, "9": false, "-a": false, "a_b": false, "a b": false, "a\n": false, "a.b": false, "é": false, "a\x00": false, "a\xff": false,
	}
}

// outside are numbers that are none of so many things.
func outside(many int) []int {
	return []int{-1, -2, many, many + 1, math.MinInt, math.MaxInt, 1 << 32, -1 << 32}
}

// P8.1: names of sources, workloads and grants, and those that come twice.
func TestNames(t *testing.T) {
	set := map[string]func(p *api.Policy, i int, name string){
		"source": func(p *api.Policy, i int, name string) { p.Sources[i].Name = name },
		"work":   func(p *api.Policy, i int, name string) { p.Works[i].Name = name },
		"grant":  func(p *api.Policy, i int, name string) { p.Grants[i].Name = name },
	}
	for what, set := range set {
		for name, is := range names() {
			for i := range 2 {
				want := api.ErrName
				if is {
					want = api.OK
				}
				p := with(func(p *api.Policy) { set(p, i, name) })
				checkPolicy(t, fmt.Sprint(what, i, name), p, want)
			}
		}
		twice := with(func(p *api.Policy) { set(p, 0, "same"); set(p, 1, "same") })
		checkPolicy(t, what+" twice", twice, api.ErrName)
	}
	shared := with(func(p *api.Policy) { p.Sources[0].Name, p.Works[0].Name, p.Grants[0].Name = "low", "low", "low" })
	checkPolicy(t, "one name of several kinds", shared, api.OK)
}

// P8.1: labels and workloads that are -1, the last one, one greater, and further off.
func TestRanges(t *testing.T) {
	labels := map[string]func(p *api.Policy, l api.Label){
		"source's label": func(p *api.Policy, l api.Label) { p.Sources[1].Label = l },
		"source's clear": func(p *api.Policy, l api.Label) { p.Sources[0].Clear = l },
		"dest's clear":   func(p *api.Policy, l api.Label) { p.Dests[0].Clear = l },
		"work's label":   func(p *api.Policy, l api.Label) { p.Works[1].Label = l },
		"grant's from":   func(p *api.Policy, l api.Label) { p.Grants[0].From = l },
		"grant's to":     func(p *api.Policy, l api.Label) { p.Grants[0].To = l },
	}
	for what, set := range labels {
		if what != "grant's to" {
			checkPolicy(t, what, with(func(p *api.Policy) { set(p, 3) }), api.OK)
		}
		for _, l := range outside(4) {
			checkPolicy(t, fmt.Sprint(what, l), with(func(p *api.Policy) { set(p, api.Label(l)) }), api.ErrRange)
		}
	}
	works := map[string]func(p *api.Policy, w int){
		"route's work": func(p *api.Policy, w int) { p.Routes[1].Work = w },
		"grant's work": func(p *api.Policy, w int) { p.Grants[1].Work = w },
		"caller":       func(p *api.Policy, w int) { p.Calls = [][2]int{{w, 0}} },
		"called":       func(p *api.Policy, w int) { p.Calls = [][2]int{{0, w}} },
	}
	for what, set := range works {
		checkPolicy(t, what, with(func(p *api.Policy) { set(p, 2) }), api.OK)
		for _, w := range outside(3) {
			checkPolicy(t, fmt.Sprint(what, w), with(func(p *api.Policy) { set(p, w) }), api.ErrRange)
		}
	}
}

// P8.1
func TestQuotaAndWeight(t *testing.T) {
	for _, n := range []int{math.MinInt, -64, -1, 0, 1, 2, 63, 64, 65, 99, 100, 101, 128, 1 << 32, 1<<32 + 1, math.MaxInt} {
		quota, weight := api.OK, api.OK
		if n < 1 || n > 64 {
			quota = api.ErrArg
		}
		if n < 1 || n > 100 {
			weight = api.ErrArg
		}
		checkPolicy(t, fmt.Sprint("quota", n), with(func(p *api.Policy) { p.Works[1].Quota = n }), quota)
		checkPolicy(t, fmt.Sprint("weight", n), with(func(p *api.Policy) { p.Routes[1].Weight = n }), weight)
	}
}

// P8.1: prefixes of routes and grants.
func TestPrefixes(t *testing.T) {
	for prefix, is := range map[string]bool{
		"/": true, "/a": true, "/a/b?c=d&e": true, "//": true, "/~!\"$": true, longPath(0, 60): true,
		"": false, "a": false, "a/": false, " /": false, "/ ": false, "/a b": false, "/#": false, "/a#b": false, "/\n": false, "/\r\n": false, "/\x00": false, "/\x7f": false, "/\xff": false, "/é": false, longPath(0, 61): false, strings.Repeat("/", 1000): false,
	} {
		want := api.ErrForm
		if is {
			want = api.OK
		}
		for i := range 2 {
			// With a host of its own no route is another one.
			checkPolicy(t, "route "+prefix, with(func(p *api.Policy) { p.Routes[i].Host, p.Routes[i].Prefix = "g.mesh", prefix }), want)
			checkPolicy(t, "grant "+prefix, with(func(p *api.Policy) { p.Grants[i].Prefix = prefix }), want)
		}
	}
}

// P8.1: hosts of destinations and routes, and patterns.
func TestHosts(t *testing.T) {
	for name, is := range map[string]bool{
		"a": true, "a.b.c": true, "1.2.3.4": true, "a--b": true, longHost("x", 0, 60): true, strings.Repeat("l", 20): true,
		"": false, "a:80": false, "a.b:8080": false, "A": false, "a.B": false, "*": false, "a.*": false, "*.*.a": false, "*a": false, ".a": false, "a.": false, "a..b": false, "-a": false, "a-": false, "a b": false, "a\n": false, "é": false, longHost("x", 0, 61): false, strings.Repeat("l", 21): false,
	} {
		want := api.ErrHost
		if is {
			want = api.OK
		}
		for i := range 2 {
			checkPolicy(t, "dest "+name, with(func(p *api.Policy) { p.Dests[i].Host = name }), want)
			checkPolicy(t, "route "+name, with(func(p *api.Policy) { p.Routes[i].Host = name }), want)
			checkPolicy(t, "allow "+name, with(func(p *api.Policy) { p.Allow[i] = name }), want)
		}
	}
	for pattern, want := range map[string]api.Errno{"*.a": api.OK, "*." + longHost("x", 0, 58): api.OK, "*." + longHost("x", 0, 59): api.ErrHost, "*.": api.ErrHost, "*.A": api.ErrHost} {
		checkPolicy(t, "allow "+pattern, with(func(p *api.Policy) { p.Allow[1] = pattern }), want)
		checkPolicy(t, "dest "+pattern, with(func(p *api.Policy) { p.Dests[1].Host = pattern }), api.ErrHost)
		checkPolicy(t, "route "+pattern, with(func(p *api.Policy) { p.Routes[1].Host = pattern }), api.ErrHost)
	}
}

// P8.1: what comes twice, and what is alike in a part.
func TestTwice(t *testing.T) {
	checkPolicy(t, "dests of one host", with(func(p *api.Policy) { p.Dests[1].Host = p.Dests[0].Host }), api.ErrName)
	checkPolicy(t, "one pattern twice", with(func(p *api.Policy) { p.Allow[1] = p.Allow[0] }), api.ErrName)
	checkPolicy(t, "one pattern twice, apart", with(func(p *api.Policy) { p.Allow = append(p.Allow, p.Allow[0]) }), api.ErrName)
	checkPolicy(t, "route to a dest", with(func(p *api.Policy) { p.Routes[0].Host = "x.example" }), api.ErrPolicy)
	checkPolicy(t, "route to the last dest", with(func(p *api.Policy) { p.Routes[2].Host = "shop.example.org" }), api.ErrPolicy)
	for what, c := range map[string]struct {
		r api.Route
		e api.Errno
	}{
		"all":              {api.Route{Host: "f.mesh", Prefix: "/b", Work: 0, Weight: 100}, api.ErrPolicy},
		"but the weight":   {api.Route{Host: "f.mesh", Prefix: "/b", Work: 0, Weight: 7}, api.ErrPolicy},
		"host and prefix":  {api.Route{Host: "f.mesh", Prefix: "/b", Work: 1, Weight: 100}, api.OK},
		"host and work":    {api.Route{Host: "f.mesh", Prefix: "/c", Work: 0, Weight: 100}, api.OK},
		"prefix and work":  {api.Route{Host: "g.mesh", Prefix: "/b", Work: 0, Weight: 100}, api.OK},
		"nothing but work": {api.Route{Host: "g.mesh", Prefix: "/c", Work: 0, Weight: 1}, api.OK},
	} {
		checkPolicy(t, "routes alike in "+what, with(func(p *api.Policy) { p.Routes = append(p.Routes, c.r) }), c.e)
	}
}

// P8.1
func TestCalls(t *testing.T) {
	works := func(calls ...[2]int) api.Policy {
		p := full()
		p.Calls = calls
		return p
	}
	for _, c := range []struct {
		calls [][2]int
		e     api.Errno
	}{
		{[][2]int{{5, 0}, {0, 4}, {4, 1}, {1, 3}, {3, 2}}, api.OK},
		{[][2]int{{0, 1}, {0, 2}, {1, 3}, {2, 3}, {3, 4}}, api.OK},
		{[][2]int{{0, 0}}, api.ErrCycle},
		{[][2]int{{0, 1}, {5, 5}}, api.ErrCycle},
		{[][2]int{{0, 1}, {0, 1}}, api.ErrPolicy},
		{[][2]int{{0, 1}, {1, 2}, {0, 1}}, api.ErrPolicy},
		{[][2]int{{0, 1}, {1, 0}}, api.ErrCycle},
		{[][2]int{{1, 2}, {0, 1}, {2, 0}}, api.ErrCycle},
		{[][2]int{{0, 1}, {1, 2}, {2, 3}, {3, 4}, {4, 5}, {5, 0}}, api.ErrCycle},
		{[][2]int{{5, 0}, {4, 5}, {3, 4}, {2, 3}, {1, 2}, {0, 1}}, api.ErrCycle},
		// The first call that is wrong counts.
		{[][2]int{{0, 0}, {0, 6}}, api.ErrCycle},
		{[][2]int{{0, 6}, {0, 0}}, api.ErrRange},
		{[][2]int{{0, 1}, {0, 1}, {1, 0}}, api.ErrPolicy},
		{[][2]int{{0, 1}, {1, 0}, {0, 1}}, api.ErrCycle},
		{[][2]int{{-1, -1}}, api.ErrRange},
		{[][2]int{{7, 7}, {7, 7}}, api.ErrRange},
	} {
		checkPolicy(t, fmt.Sprint(c.calls), works(c.calls...), c.e)
	}
}

// P8.1: every order of labels of which a grant may lower one to the other.
func TestGrants(t *testing.T) {
	below := [4][4]bool{0: {1: true, 2: true, 3: true}, 1: {3: true}, 2: {3: true}}
	for from := range 4 {
		for to := range 4 {
			want := api.ErrPolicy
			if below[to][from] {
				want = api.OK
			}
			p := with(func(p *api.Policy) { p.Grants[0].From, p.Grants[0].To = api.Label(from), api.Label(to) })
			checkPolicy(t, fmt.Sprint("grant", from, to), p, want)
		}
	}
}

// wrong is one thing that is wrong with a policy, at one place.
type wrong struct {
	place string
	make  func(p *api.Policy)
	e     api.Errno
}

// wrongs are what may be wrong with the rich policy, in the order of the chapter.
func wrongs() []wrong {
	return []wrong{
		{"allow more", func(p *api.Policy) { p.Allow = append(p.Allow, make([]string, 7)...) }, api.ErrLimit},
		{"label 3", func(p *api.Policy) { p.Labels[3] = "low" }, api.ErrName},
		{"below 3", func(p *api.Policy) { p.Below[3][1] = -1 }, api.ErrRange},
		{"below 1", func(p *api.Policy) { p.Below[1] = [2]int{0, 0} }, api.ErrCycle},
		{"below 2", func(p *api.Policy) { p.Below[2] = [2]int{0, 3} }, api.ErrLattice},
		{"source 0 name", func(p *api.Policy) { p.Sources[0].Name = "" }, api.ErrName},
		{"source 0 label", func(p *api.Policy) { p.Sources[0].Label = -1 }, api.ErrRange},
		{"source 1 name", func(p *api.Policy) { p.Sources[1].Name = "web" }, api.ErrName},
		{"source 1 clear", func(p *api.Policy) { p.Sources[1].Clear = -1 }, api.ErrRange},
		{"dest 0 host", func(p *api.Policy) { p.Dests[0].Host = "X" }, api.ErrHost},
		{"dest 0 clear", func(p *api.Policy) { p.Dests[0].Clear = -1 }, api.ErrRange},
		{"dest 1 host", func(p *api.Policy) { p.Dests[1].Host = "x.example" }, api.ErrName},
		{"dest 1 clear", func(p *api.Policy) { p.Dests[1].Clear = -1 }, api.ErrRange},
		{"work 0 name", func(p *api.Policy) { p.Works[0].Name = "A" }, api.ErrName},
		{"work 0 label", func(p *api.Policy) { p.Works[0].Label = -1 }, api.ErrRange},
		{"work 0 quota", func(p *api.Policy) { p.Works[0].Quota = 0 }, api.ErrArg},
		{"work 1 name", func(p *api.Policy) { p.Works[1].Name = "front" }, api.ErrName},
		{"work 1 label", func(p *api.Policy) { p.Works[1].Label = 4 }, api.ErrRange},
		{"work 1 quota", func(p *api.Policy) { p.Works[1].Quota = 65 }, api.ErrArg},
		{"route 0 host", func(p *api.Policy) { p.Routes[0].Host = "a:80" }, api.ErrHost},
		{"route 0 prefix", func(p *api.Policy) { p.Routes[0].Prefix = "b" }, api.ErrForm},
		{"route 0 work", func(p *api.Policy) { p.Routes[0].Work = 3 }, api.ErrRange},
		{"route 0 weight", func(p *api.Policy) { p.Routes[0].Weight = 0 }, api.ErrArg},
		{"route 1 host", func(p *api.Policy) { p.Routes[1].Host = "shop.example.org" }, api.ErrPolicy},
		{"route 1 prefix", func(p *api.Policy) { p.Routes[1].Prefix = "" }, api.ErrForm},
		{"route 1 work", func(p *api.Policy) { p.Routes[1].Work = -1 }, api.ErrRange},
		{"route 1 weight", func(p *api.Policy) { p.Routes[1].Weight = 101 }, api.ErrArg},
		{"route more", func(p *api.Policy) { p.Routes = append(p.Routes, p.Routes[2]) }, api.ErrPolicy},
		{"call 0", func(p *api.Policy) { p.Calls[0] = [2]int{0, 3} }, api.ErrRange},
		{"call 1", func(p *api.Policy) { p.Calls[1] = [2]int{0, 1} }, api.ErrPolicy},
		{"call 2", func(p *api.Policy) { p.Calls[2] = [2]int{2, 2} }, api.ErrCycle},
		{"grant 0 name", func(p *api.Policy) { p.Grants[0].Name = "g_" }, api.ErrName},
		{"grant 0 work", func(p *api.Policy) { p.Grants[0].Work = 3 }, api.ErrRange},
		{"grant 0 to", func(p *api.Policy) { p.Grants[0].To = 3 }, api.ErrPolicy},
		{"grant 0 prefix", func(p *api.Policy) { p.Grants[0].Prefix = "#" }, api.ErrForm},
		{"grant 1 name", func(p *api.Policy) { p.Grants[1].Name = "g1" }, api.ErrName},
		{"grant 1 from", func(p *api.Policy) { p.Grants[1].From = -1 }, api.ErrRange},
		{"grant 1 to", func(p *api.Policy) { p.Grants[1].To = 2 }, api.ErrPolicy},
		{"grant 1 prefix", func(p *api.Policy) { p.Grants[1].Prefix = "" }, api.ErrForm},
		{"allow 0", func(p *api.Policy) { p.Allow[0] = "" }, api.ErrHost},
		{"allow 1", func(p *api.Policy) { p.Allow[1] = p.Allow[0] }, api.ErrName},
	}
}

// P8.1: of several faults at once the first one counts.
func TestOrderOfErrors(t *testing.T) {
	all := wrongs()
	for i, w := range all {
		checkPolicy(t, w.place, with(w.make), w.e)
		for _, later := range all[i+1:] {
			p := with(func(p *api.Policy) { later.make(p); w.make(p) })
			checkPolicy(t, w.place+" and "+later.place, p, w.e)
		}
	}
	everything := with(func(p *api.Policy) {
		for _, w := range slices.Backward(all) {
			w.make(p)
		}
	})
	checkPolicy(t, "everything", everything, api.ErrLimit)
}

// changes are one change to each field of the rich policy.
func changes() map[string]func(p *api.Policy) {
	return map[string]func(p *api.Policy){
		"label":         func(p *api.Policy) { p.Labels[1] = "x" },
		"labels":        func(p *api.Policy) { p.Labels = p.Labels[:3] },
		"label more":    func(p *api.Policy) { p.Labels = append(p.Labels, "") },
		"low":           func(p *api.Policy) { p.Below[3][0] = 0 },
		"high":          func(p *api.Policy) { p.Below[3][1] = 0 },
		"below":         func(p *api.Policy) { p.Below = p.Below[1:] },
		"source name":   func(p *api.Policy) { p.Sources[1].Name = "x" },
		"source label":  func(p *api.Policy) { p.Sources[1].Label = 9 },
		"source clear":  func(p *api.Policy) { p.Sources[1].Clear = 9 },
		"sources":       func(p *api.Policy) { p.Sources = nil },
		"dest host":     func(p *api.Policy) { p.Dests[1].Host = "x" },
		"dest clear":    func(p *api.Policy) { p.Dests[1].Clear = 9 },
		"dests":         func(p *api.Policy) { p.Dests = nil },
		"work name":     func(p *api.Policy) { p.Works[1].Name = "x" },
		"work label":    func(p *api.Policy) { p.Works[1].Label = 9 },
		"work quota":    func(p *api.Policy) { p.Works[1].Quota = 9 },
		"works":         func(p *api.Policy) { p.Works = nil },
		"route host":    func(p *api.Policy) { p.Routes[1].Host = "x" },
		"route prefix":  func(p *api.Policy) { p.Routes[1].Prefix = "x" },
		"route work":    func(p *api.Policy) { p.Routes[1].Work = 9 },
		"route weight":  func(p *api.Policy) { p.Routes[1].Weight = 9 },
		"routes":        func(p *api.Policy) { p.Routes[0], p.Routes[1] = p.Routes[1], p.Routes[0] },
		"caller":        func(p *api.Policy) { p.Calls[1][0] = 9 },
		"called":        func(p *api.Policy) { p.Calls[1][1] = 9 },
		"calls":         func(p *api.Policy) { p.Calls = nil },
		"grant name":    func(p *api.Policy) { p.Grants[1].Name = "x" },
		"grant work":    func(p *api.Policy) { p.Grants[1].Work = 9 },
		"grant from":    func(p *api.Policy) { p.Grants[1].From = 9 },
		"grant to":      func(p *api.Policy) { p.Grants[1].To = 9 },
		"grant prefix":  func(p *api.Policy) { p.Grants[1].Prefix = "x" },
		"grants":        func(p *api.Policy) { p.Grants = nil },
		"pattern":       func(p *api.Policy) { p.Allow[1] = "x" },
		"pattern empty": func(p *api.Policy) { p.Allow[1] = "" },
		"allow":         func(p *api.Policy) { p.Allow = nil },
	}
}

// P8.3
func TestSame(t *testing.T) {
	all := changes()
	all["nothing"] = func(p *api.Policy) {}
	for what, change := range all {
		p := with(change)
		for other, change := range all {
			q := with(change)
			if Same(p, q) != (what == other) {
				t.Errorf("Same of %s and %s: %t", what, other, !(what == other))
			}
		}
	}
	empty := api.Policy{Labels: []string{}, Below: [][2]int{}, Sources: []api.Source{}, Dests: []api.Dest{}, Works: []api.Work{}, Routes: []api.Route{}, Calls: [][2]int{}, Grants: []api.Grant{}, Allow: []string{}}
	if !Same(empty, api.Policy{}) || !Same(api.Policy{}, empty) || !Same(empty, empty) || !Same(api.Policy{}, api.Policy{}) {
		t.Error("nil and empty lists are not equal")
	}
	if Same(empty, rich()) || Same(rich(), api.Policy{}) {
		t.Error("an empty policy is equal to another one")
	}
}

// P8.3: also of policies that are not valid.
func TestCopy(t *testing.T) {
	for what, change := range changes() {
		p := with(change)
		if c := Copy(p); !Same(c, p) {
			t.Errorf("Copy of %s: %+v, not %+v", what, c, p)
		}
	}
	for _, p := range []api.Policy{{}, full(), longer()["labels"], {Allow: make([]string, 1000)}} {
		if c := Copy(p); !Same(c, p) {
			t.Errorf("Copy of %+v: %+v", p, c)
		}
	}
}

package policy

import (
	"fmt"
	"regexp"
	"slices"
	"strconv"
	"strings"

	"chinoiserie/api"
)

// What the document says, found in another way than the program's: texts are held against regular expressions, orders and cycles are found in matrices, and lines are written by formats.

const hostLabelForm = `[a-z0-9](?:[a-z0-9-]{0,18}[a-z0-9])?`

var (
	toldName   = regexp.MustCompile(`^[a-z][a-z0-9-]{0,11}$`)
	toldHost   = regexp.MustCompile(`^` + hostLabelForm + `(?:\.` + hostLabelForm + `)*$`)
	toldPath   = regexp.MustCompile(`^/[!"$-~]{0,59}$`)
	toldNumber = regexp.MustCompile(`^(?:0|[1-9][0-9]*)$`)
	toldLine   = regexp.MustCompile(`^[ -~]*$`)
)

func isToldHost(s string) bool { return len(s) <= 60 && toldHost.MatchString(s) }

func isToldPattern(s string) bool {
	return len(s) <= 60 && toldHost.MatchString(strings.TrimPrefix(s, "*."))
}

// closed is which of so many things lie below which, if these pairs do.
func closed(many int, pairs [][2]int) [][]bool {
	is := make([][]bool, many)
	for i := range is {
		is[i] = make([]bool, many)
	}
	for _, p := range pairs {
		is[p[0]][p[1]] = true
	}
	for m := range many {
		for a := range many {
			for b := range many {
				is[a][b] = is[a][b] || is[a][m] && is[m][b]
			}
		}
	}
	return is
}

func goesRound(many int, pairs [][2]int) bool {
	for i, row := range closed(many, pairs) {
		if row[i] {
			return true
		}
	}
	return false
}

// hasBound tells whether one of all that are at or above both is at or below all of these.
func hasBound(a, b int, atMost func(a, b int) bool, many int) bool {
	for c := range many {
		is := atMost(a, c) && atMost(b, c)
		for d := range many {
			is = is && (!atMost(a, d) || !atMost(b, d) || atMost(c, d))
		}
		if is {
			return true
		}
	}
	return false
}

func toldLattice(names []string, below [][2]int) api.Errno {
	many := len(names)
	if many == 0 {
		return api.ErrArg
	}
	for i, name := range names {
		if !toldName.MatchString(name) || slices.Index(names, name) < i {
			return api.ErrName
		}
	}
	for _, p := range below {
		if min(p[0], p[1]) < 0 || max(p[0], p[1]) >= many {
			return api.ErrRange
		}
	}
	if goesRound(many, below) {
		return api.ErrCycle
	}
	is := closed(many, below)
	up := func(a, b int) bool { return a == b || is[a][b] }
	down := func(a, b int) bool { return up(b, a) }
	for a := range many {
		for b := range many {
			if !hasBound(a, b, up, many) || !hasBound(a, b, down, many) {
				return api.ErrLattice
			}
		}
	}
	return api.OK
}

// fault is a condition that does not hold.
type fault struct {
	is bool
	e  api.Errno
}

func firstOf(all []fault) api.Errno {
	for _, f := range all {
		if f.is {
			return f.e
		}
	}
	return api.OK
}

// toldCheck is what the document says of a policy.
func toldCheck(p api.Policy) api.Errno {
	for _, size := range [][2]int{{len(p.Labels), 10}, {len(p.Below), 45}, {len(p.Sources), 6}, {len(p.Dests), 6}, {len(p.Works), 6}, {len(p.Routes), 12}, {len(p.Calls), 15}, {len(p.Grants), 6}, {len(p.Allow), 6}} {
		if size[0] > size[1] {
			return api.ErrLimit
		}
	}
	if e := toldLattice(p.Labels, p.Below); e != api.OK {
		return e
	}
	return firstOf(slices.Concat(toldPeers(p), toldRoutes(p), toldCalls(p), toldGrants(p)))
}

func noLabel(p api.Policy, l api.Label) bool { return l < 0 || l > api.Label(len(p.Labels)-1) }

func noWork(p api.Policy, w int) bool { return w < 0 || w > len(p.Works)-1 }

// toldPeers are the faults of sources, destinations and workloads.
func toldPeers(p api.Policy) []fault {
	var all []fault
	seen := map[string]int{}
	for _, s := range p.Sources {
		seen["source "+s.Name]++
		all = append(all, fault{!toldName.MatchString(s.Name), api.ErrName}, fault{seen["source "+s.Name] > 1, api.ErrName}, fault{noLabel(p, s.Label), api.ErrRange}, fault{noLabel(p, s.Clear), api.ErrRange})
	}
	for _, d := range p.Dests {
		seen["dest "+d.Host]++
		all = append(all, fault{!isToldHost(d.Host), api.ErrHost}, fault{seen["dest "+d.Host] > 1, api.ErrName}, fault{noLabel(p, d.Clear), api.ErrRange})
	}
	for _, w := range p.Works {
		seen["work "+w.Name]++
		all = append(all, fault{!toldName.MatchString(w.Name), api.ErrName}, fault{seen["work "+w.Name] > 1, api.ErrName}, fault{noLabel(p, w.Label), api.ErrRange}, fault{w.Quota <= 0 || w.Quota >= 65, api.ErrArg})
	}
	return all
}

func toldRoutes(p api.Policy) []fault {
	var all []fault
	for i, r := range p.Routes {
		out, twice := false, false
		for _, d := range p.Dests {
			out = out || d.Host == r.Host
		}
		for _, o := range p.Routes[:i] {
			o.Weight = r.Weight
			twice = twice || o == r
		}
		all = append(all, fault{!isToldHost(r.Host), api.ErrHost}, fault{out, api.ErrPolicy}, fault{!toldPath.MatchString(r.Prefix), api.ErrForm}, fault{noWork(p, r.Work), api.ErrRange}, fault{r.Weight <= 0 || r.Weight >= 101, api.ErrArg}, fault{twice, api.ErrPolicy})
	}
	return all
}

func toldCalls(p api.Policy) []fault {
	var all []fault
	for i, c := range p.Calls {
		if noWork(p, c[0]) || noWork(p, c[1]) {
			// There is no matrix with it.
			return append(all, fault{true, api.ErrRange})
		}
		all = append(all, fault{slices.Index(p.Calls, c) < i, api.ErrPolicy}, fault{goesRound(len(p.Works), p.Calls[:i+1]), api.ErrCycle})
	}
	return all
}

// toldGrants are the faults of grants and patterns.
func toldGrants(p api.Policy) []fault {
	var all []fault
	seen := map[string]int{}
	below := closed(len(p.Labels), p.Below)
	for _, g := range p.Grants {
		seen["grant "+g.Name]++
		none := noWork(p, g.Work) || noLabel(p, g.From) || noLabel(p, g.To)
		all = append(all, fault{!toldName.MatchString(g.Name), api.ErrName}, fault{seen["grant "+g.Name] > 1, api.ErrName}, fault{none, api.ErrRange}, fault{!none && !below[g.To][g.From], api.ErrPolicy}, fault{!toldPath.MatchString(g.Prefix), api.ErrForm})
	}
	for _, s := range p.Allow {
		seen["allow "+s]++
		all = append(all, fault{!isToldPattern(s), api.ErrHost}, fault{seen["allow "+s] > 1, api.ErrName})
	}
	return all
}

// toldText is the text of a valid policy.
func toldText(p api.Policy) string {
	var b strings.Builder
	for _, l := range p.Labels {
		fmt.Fprintf(&b, "label %s\n", l)
	}
	for _, c := range p.Below {
		fmt.Fprintf(&b, "below %s %s\n", p.Labels[c[0]], p.Labels[c[1]])
	}
	for _, s := range p.Sources {
		fmt.Fprintf(&b, "source %s %s %s\n", s.Name, p.Labels[s.Label], p.Labels[s.Clear])
	}
	for _, d := range p.Dests {
		fmt.Fprintf(&b, "dest %s %s\n", d.Host, p.Labels[d.Clear])
	}
	for _, w := range p.Works {
		fmt.Fprintf(&b, "work %s %s %d\n", w.Name, p.Labels[w.Label], w.Quota)
	}
	for _, r := range p.Routes {
		fmt.Fprintf(&b, "route %s %s %s %d\n", r.Host, r.Prefix, p.Works[r.Work].Name, r.Weight)
	}
	for _, c := range p.Calls {
		fmt.Fprintf(&b, "call %s %s\n", p.Works[c[0]].Name, p.Works[c[1]].Name)
	}
	for _, g := range p.Grants {
		fmt.Fprintf(&b, "grant %s %s %s %s %s\n", g.Name, p.Works[g.Work].Name, p.Labels[g.From], p.Labels[g.To], g.Prefix)
	}
	for _, s := range p.Allow {
		fmt.Fprintf(&b, "allow %s\n", s)
	}
	return b.String()
}

// shape is what the words behind a kind are: n a new label, l a label, w a workload, # a number, t any text; and how many such lines there may be.
type shape struct {
	words string
	most  int
}

var shapes = map[string]shape{
	"label":  {"n", 10},
	"below":  {"ll", 45},
	"source": {"tll", 6},
	"dest":   {"tl", 6},
	"work":   {"tl#", 6},
	"route":  {"ttw#", 12},
	"call":   {"ww", 15},
	"grant":  {"twllt", 6},
	"allow":  {"t", 6},
}

// toldParse is what the document says of a text.
func toldParse(s string) (api.Policy, int, api.Errno) {
	if len(s) > 65536 {
		return api.Policy{}, 0, api.ErrLimit
	}
	var p api.Policy
	lines := strings.Split(s, "\n")
	if lines[len(lines)-1] == "" {
		lines = lines[:len(lines)-1]
	}
	many := map[string]int{}
	for i, line := range lines {
		words := strings.FieldsFunc(line, func(r rune) bool { return r == ' ' })
		if !toldLine.MatchString(line) {
			return api.Policy{}, i + 1, api.ErrForm
		}
		if len(words) == 0 || words[0][0] == '#' {
			continue
		}
		if e := toldFault(p, words, many); e != api.OK {
			return api.Policy{}, i + 1, e
		}
		p = toldAdd(p, words)
	}
	if e := toldCheck(p); e != api.OK {
		return api.Policy{}, 0, e
	}
	return p, 0, api.OK
}

// toldFault is the first fault of a line's words.
func toldFault(p api.Policy, words []string, many map[string]int) api.Errno {
	sh, known := shapes[words[0]]
	if !known || len(words)-1 != len(sh.words) {
		return api.ErrForm
	}
	for i, what := range sh.words {
		word := words[i+1]
		if e := toldWord(p, what, word); e != api.OK {
			return e
		}
	}
	many[words[0]]++
	if many[words[0]] > sh.most {
		return api.ErrLimit
	}
	return api.OK
}

func toldWord(p api.Policy, what rune, word string) api.Errno {
	isLabel := slices.Contains(p.Labels, word)
	isWork := slices.ContainsFunc(p.Works, func(w api.Work) bool { return w.Name == word })
	n, err := strconv.ParseUint(word, 10, 64)
	return firstOf([]fault{
		{what == 'n' && (!toldName.MatchString(word) || isLabel), api.ErrName},
		{what == 'l' && !isLabel, api.ErrName},
		{what == 'w' && !isWork, api.ErrName},
		{what == '#' && !toldNumber.MatchString(word), api.ErrForm},
		{what == '#' && (err != nil || n >= 1<<53), api.ErrRange},
	})
}

// toldAdd is the policy with what words without a fault tell.
func toldAdd(p api.Policy, words []string) api.Policy {
	label := func(i int) int { return slices.Index(p.Labels, words[i]) }
	work := func(i int) int {
		return slices.IndexFunc(p.Works, func(w api.Work) bool { return w.Name == words[i] })
	}
	number := func(i int) int {
		n, _ := strconv.Atoi(words[i])
		return n
	}
	switch words[0] {
	case "label":
		p.Labels = append(p.Labels, words[1])
	case "below":
		p.Below = append(p.Below, [2]int{label(1), label(2)})
	case "source":
		p.Sources = append(p.Sources, api.Source{Name: words[1], Label: api.Label(label(2)), Clear: api.Label(label(3))})
	case "dest":
		p.Dests = append(p.Dests, api.Dest{Host: words[1], Clear: api.Label(label(2))})
	case "work":
		p.Works = append(p.Works, api.Work{Name: words[1], Label: api.Label(label(2)), Quota: number(3)})
	case "route":
		p.Routes = append(p.Routes, api.Route{Host: words[1], Prefix: words[2], Work: work(3), Weight: number(4)})
	case "call":
		p.Calls = append(p.Calls, [2]int{work(1), work(2)})
	case "grant":
		p.Grants = append(p.Grants, api.Grant{Name: words[1], Work: work(2), From: api.Label(label(3)), To: api.Label(label(4)), Prefix: words[5]})
	case "allow":
		p.Allow = append(p.Allow, words[1])
	}
	return p
}

package policy

import (
	"slices"

	"chinoiserie/api"
	"chinoiserie/text"
)

// maxBelow is how many pairs of MaxLabels labels there are.
const maxBelow = api.MaxLabels * (api.MaxLabels - 1) / 2

// kind is how the lines of one kind are handled.
type kind struct {
	// words is how many words a line has behind its first one.
	words int
	// most is how many of the kind a policy may have; many is how many it has.
	most int
	many func(p *api.Policy) int
	// read reads the words behind the first one; write gives those of a valid policy's i-th line.
	read  func(r *reader)
	write func(p *api.Policy, i int) []string
}

// kindWords are the first words of lines, in the order in which a text has them.
var kindWords = [...]string{"label", "below", "source", "dest", "work", "route", "call", "grant", "allow"}

// kinds are the kinds of lines, by their first words.
func kinds() map[string]kind {
	return map[string]kind{
		"label":  labelKind(),
		"below":  belowKind(),
		"source": sourceKind(),
		"dest":   destKind(),
		"work":   workKind(),
		"route":  routeKind(),
		"call":   callKind(),
		"grant":  grantKind(),
		"allow":  allowKind(),
	}
}

func labelKind() kind {
	return kind{
		words: 1,
		most:  api.MaxLabels,
		many:  func(p *api.Policy) int { return len(p.Labels) },
		read:  func(r *reader) { r.p.Labels = append(r.p.Labels, r.newLabel()) },
		write: func(p *api.Policy, i int) []string { return []string{p.Labels[i]} },
	}
}

func belowKind() kind {
	return kind{
		words: 2,
		most:  maxBelow,
		many:  func(p *api.Policy) int { return len(p.Below) },
		read: func(r *reader) {
			low, high := r.label(), r.label()
			r.p.Below = append(r.p.Below, [2]int{int(low), int(high)})
		},
		write: func(p *api.Policy, i int) []string {
			return []string{p.Labels[p.Below[i][0]], p.Labels[p.Below[i][1]]}
		},
	}
}

func sourceKind() kind {
	return kind{
		words: 3,
		most:  api.MaxSources,
		many:  func(p *api.Policy) int { return len(p.Sources) },
		read: func(r *reader) {
			s := api.Source{Name: r.word(), Label: r.label(), Clear: r.label()}
			r.p.Sources = append(r.p.Sources, s)
		},
		write: func(p *api.Policy, i int) []string {
			s := p.Sources[i]
			return []string{s.Name, p.Labels[s.Label], p.Labels[s.Clear]}
		},
	}
}

func destKind() kind {
	return kind{
		words: 2,
		most:  api.MaxDests,
		many:  func(p *api.Policy) int { return len(p.Dests) },
		read: func(r *reader) {
			d := api.Dest{Host: r.word(), Clear: r.label()}
			r.p.Dests = append(r.p.Dests, d)
		},
		write: func(p *api.Policy, i int) []string {
			d := p.Dests[i]
			return []string{d.Host, p.Labels[d.Clear]}
		},
	}
}

func workKind() kind {
	return kind{
		words: 3,
		most:  api.MaxWorks,
		many:  func(p *api.Policy) int { return len(p.Works) },
		read: func(r *reader) {
			w := api.Work{Name: r.word(), Label: r.label(), Quota: r.number()}
			r.p.Works = append(r.p.Works, w)
		},
		write: func(p *api.Policy, i int) []string {
			w := p.Works[i]
			return []string{w.Name, p.Labels[w.Label], digits(w.Quota)}
		},
	}
}

func routeKind() kind {
	return kind{
		words: 4,
		most:  api.MaxRoutes,
		many:  func(p *api.Policy) int { return len(p.Routes) },
		read: func(r *reader) {
			t := api.Route{Host: r.word(), Prefix: r.word(), Work: r.work(), Weight: r.number()}
			r.p.Routes = append(r.p.Routes, t)
		},
		write: func(p *api.Policy, i int) []string {
			t := p.Routes[i]
			return []string{t.Host, t.Prefix, p.Works[t.Work].Name, digits(t.Weight)}
		},
	}
}

func callKind() kind {
	return kind{
		words: 2,
		most:  api.MaxCalls,
		many:  func(p *api.Policy) int { return len(p.Calls) },
		read: func(r *reader) {
			from, to := r.work(), r.work()
			r.p.Calls = append(r.p.Calls, [2]int{from, to})
		},
		write: func(p *api.Policy, i int) []string {
			return []string{p.Works[p.Calls[i][0]].Name, p.Works[p.Calls[i][1]].Name}
		},
	}
}

func grantKind() kind {
	return kind{
		words: 5,
		most:  api.MaxGrants,
		many:  func(p *api.Policy) int { return len(p.Grants) },
		read: func(r *reader) {
			g := api.Grant{Name: r.word(), Work: r.work(), From: r.label(), To: r.label(), Prefix: r.word()}
			r.p.Grants = append(r.p.Grants, g)
		},
		write: func(p *api.Policy, i int) []string {
			g := p.Grants[i]
			return []string{g.Name, p.Works[g.Work].Name, p.Labels[g.From], p.Labels[g.To], g.Prefix}
		},
	}
}

func allowKind() kind {
	return kind{
		words: 1,
		most:  api.MaxAllow,
		many:  func(p *api.Policy) int { return len(p.Allow) },
		read:  func(r *reader) { r.p.Allow = append(r.p.Allow, r.word()) },
		write: func(p *api.Policy, i int) []string { return []string{p.Allow[i]} },
	}
}

// digits are those of a quota, or a weight, of a valid policy, so there is no error.
func digits(n int) string {
	s, _ := text.Digits(n)
	return s
}

// reader reads a line's words into a policy, from the left. There are as many as are asked for.
type reader struct {
	p    *api.Policy
	rest []string
	// e is the first fault.
	e api.Errno
}

func (r *reader) word() string {
	w := r.rest[0]
	r.rest = r.rest[1:]
	return w
}

func (r *reader) number() int {
	n, e := text.Number(r.word())
	r.fail(e)
	return n
}

// newLabel reads the name of a label that no earlier line has.
func (r *reader) newLabel() string {
	name := r.word()
	r.fail(text.Name(name))
	if slices.Contains(r.p.Labels, name) {
		r.fail(api.ErrName)
	}
	return name
}

// label reads the name of a label of an earlier line.
func (r *reader) label() api.Label {
	return api.Label(r.known(slices.Index(r.p.Labels, r.word())))
}

// work reads the name of a workload of an earlier line.
func (r *reader) work() int {
	name := r.word()
	return r.known(slices.IndexFunc(r.p.Works, func(w api.Work) bool { return w.Name == name }))
}

// known is the place at which a name was found, if it was.
func (r *reader) known(at int) int {
	if at < 0 {
		r.fail(api.ErrName)
	}
	return at
}

// fail notes a fault, if it is one, unless there was one further to the left.
func (r *reader) fail(e api.Errno) {
	if r.e == api.OK {
		r.e = e
	}
}

package policy

import (
	"cmp"
	"slices"

	"chinoiserie/api"
	"chinoiserie/host"
	"chinoiserie/http"
	"chinoiserie/lattice"
	"chinoiserie/text"
)

const (
	maxQuota  = 64
	maxWeight = 100
)

// checker looks at the parts of a policy whose labels are a lattice.
type checker struct {
	p api.Policy
	l *lattice.Lattice
}

// Check tells whether a policy is valid.
func Check(p api.Policy) api.Errno {
	for _, k := range kinds() {
		if k.many(&p) > k.most {
			return api.ErrLimit
		}
	}
	l, e := lattice.Make(p.Labels, p.Below)
	if e != api.OK {
		return e
	}
	c := checker{p, l}
	return cmp.Or(
		each(p.Sources, c.source),
		each(p.Dests, c.dest),
		each(p.Works, c.work),
		each(p.Routes, c.route),
		each(p.Calls, c.call),
		each(p.Grants, c.grant),
		each(p.Allow, c.pattern),
	)
}

// each checks all of a list, in order, beside those that come earlier.
func each[T any](all []T, check func(one T, earlier []T) api.Errno) api.Errno {
	for i, one := range all {
		if e := check(one, all[:i]); e != api.OK {
			return e
		}
	}
	return api.OK
}

func (c checker) source(s api.Source, earlier []api.Source) api.Errno {
	alike := func(o api.Source) bool { return o.Name == s.Name }
	switch {
	case !isName(s.Name) || slices.ContainsFunc(earlier, alike):
		return api.ErrName
	case !c.areLabels(s.Label, s.Clear):
		return api.ErrRange
	}
	return api.OK
}

func (c checker) dest(d api.Dest, earlier []api.Dest) api.Errno {
	switch {
	case !isHost(d.Host):
		return api.ErrHost
	case hasHost(earlier, d.Host):
		return api.ErrName
	case !c.areLabels(d.Clear):
		return api.ErrRange
	}
	return api.OK
}

func (c checker) work(w api.Work, earlier []api.Work) api.Errno {
	alike := func(o api.Work) bool { return o.Name == w.Name }
	switch {
	case !isName(w.Name) || slices.ContainsFunc(earlier, alike):
		return api.ErrName
	case !c.areLabels(w.Label):
		return api.ErrRange
	case w.Quota < 1 || w.Quota > maxQuota:
		return api.ErrArg
	}
	return api.OK
}

func (c checker) route(r api.Route, earlier []api.Route) api.Errno {
	alike := func(o api.Route) bool { return o.Host == r.Host && o.Prefix == r.Prefix && o.Work == r.Work }
	switch {
	case !isHost(r.Host):
		return api.ErrHost
	case hasHost(c.p.Dests, r.Host):
		return api.ErrPolicy
	case !isPath(r.Prefix):
		return api.ErrForm
	case !c.areWorks(r.Work):
		return api.ErrRange
	case r.Weight < 1 || r.Weight > maxWeight:
		return api.ErrArg
	case slices.ContainsFunc(earlier, alike):
		return api.ErrPolicy
	}
	return api.OK
}

func (c checker) call(pair [2]int, earlier [][2]int) api.Errno {
	switch {
	case !c.areWorks(pair[0], pair[1]):
		return api.ErrRange
	case slices.Contains(earlier, pair):
		return api.ErrPolicy
	case leads(earlier, pair[1], pair[0]):
		return api.ErrCycle
	}
	return api.OK
}

func (c checker) grant(g api.Grant, earlier []api.Grant) api.Errno {
	alike := func(o api.Grant) bool { return o.Name == g.Name }
	switch {
	case !isName(g.Name) || slices.ContainsFunc(earlier, alike):
		return api.ErrName
	case !c.areWorks(g.Work) || !c.areLabels(g.From, g.To):
		return api.ErrRange
	case g.To == g.From || !c.l.Leq(g.To, g.From):
		return api.ErrPolicy
	case !isPath(g.Prefix):
		return api.ErrForm
	}
	return api.OK
}

func (c checker) pattern(s string, earlier []string) api.Errno {
	if e := host.Pattern(s); e != api.OK {
		return e
	}
	if slices.Contains(earlier, s) {
		return api.ErrName
	}
	return api.OK
}

func (c checker) areLabels(all ...api.Label) bool {
	for _, a := range all {
		if a < 0 || int(a) >= len(c.p.Labels) {
			return false
		}
	}
	return true
}

func (c checker) areWorks(all ...int) bool {
	for _, w := range all {
		if w < 0 || w >= len(c.p.Works) {
			return false
		}
	}
	return true
}

// leads tells whether calls without a cycle lead from one workload to another one; each leads to itself.
func leads(calls [][2]int, from, to int) bool {
	var reach func(at int) bool
	reach = func(at int) bool {
		return at == to || slices.ContainsFunc(calls, func(c [2]int) bool { return c[0] == at && reach(c[1]) })
	}
	return reach(from)
}

func hasHost(dests []api.Dest, name string) bool {
	return slices.ContainsFunc(dests, func(d api.Dest) bool { return d.Host == name })
}

func isName(s string) bool { return text.Name(s) == api.OK }

func isHost(s string) bool { return host.Plain(s) == api.OK }

// isPath tells whether s is a path: whether there is a request for it.
func isPath(s string) bool {
	return http.Check(api.Message{Method: "GET", Path: s, Heads: []api.Head{{Name: "Host", Value: "a"}}}) == api.OK
}

package snap

import (
	"chinoiserie/api"
	"chinoiserie/lattice"
)

// index has things by their names, of which no two are the same.
type index[T any] map[string]T

// find is the thing with a name.
func (x index[T]) find(name string) (T, api.Errno) {
	thing, found := x[name]
	if !found {
		return thing, api.ErrName
	}
	return thing, api.OK
}

// indexed is the snapshot of a valid policy that nobody else has.
func indexed(p api.Policy) *Snap {
	s := &Snap{p: p, l: latticeOf(p), labels: index[api.Label]{}, sources: index[api.Source]{}, dests: index[api.Dest]{}, works: index[int]{}}
	for l, name := range p.Labels {
		s.labels[name] = api.Label(l)
	}
	for _, source := range p.Sources {
		s.sources[source.Name] = source
	}
	for _, dest := range p.Dests {
		s.dests[dest.Host] = dest
	}
	for w, work := range p.Works {
		s.works[work.Name] = w
	}
	return s
}

// latticeOf is that of a valid policy, so there is no error.
func latticeOf(p api.Policy) *lattice.Lattice {
	l, _ := lattice.Make(p.Labels, p.Below)
	return l
}

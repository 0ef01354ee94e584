package store

import (
	"chinoiserie/api"
	"chinoiserie/push"
)

// Full is a packet with a whole version.
func (s *Store) Full(version, tick int) (p api.Push, e api.Errno) {
	text, e := s.Text(version)
	if e != api.OK {
		return api.Push{}, e
	}
	if !isTick(tick) {
		return api.Push{}, api.ErrArg
	}
	return api.Push{Kind: api.PushFull, Version: version, Tick: tick, Text: text}, api.OK
}

// Delta is a packet with what makes one version of an earlier one.
func (s *Store) Delta(from, to, tick int) (p api.Push, e api.Errno) {
	old, e := s.Text(from)
	if e != api.OK {
		return api.Push{}, e
	}
	text, e := s.Text(to)
	switch {
	case e != api.OK:
		return api.Push{}, e
	case from >= to:
		return api.Push{}, api.ErrRange
	case !isTick(tick):
		return api.Push{}, api.ErrArg
	}
	p, e = push.Diff(old, text)
	if e != api.OK {
		return api.Push{}, e
	}
	p.Version, p.From, p.Tick = to, from, tick
	return p, api.OK
}

// Best is a packet from which a node that has a version obtains the latest one.
func (s *Store) Best(have, tick int) (p api.Push, e api.Errno) {
	latest := s.Latest()
	full, e := s.Full(latest, tick)
	if e != api.OK {
		return api.Push{}, e
	}
	return chosen(
		func() (api.Push, bool) {
			return api.Push{Kind: api.PushRenew, Version: latest, Tick: tick}, have == latest
		},
		func() (api.Push, bool) {
			delta, e := s.Delta(have, latest, tick)
			return delta, e == api.OK && size(delta) < size(full)
		},
		func() (api.Push, bool) { return full, true },
	), api.OK
}

// chosen is the packet of the first choice that may be taken; none if there is no such choice.
func chosen(choices ...func() (p api.Push, may bool)) api.Push {
	for _, choice := range choices {
		if p, may := choice(); may {
			return p
		}
	}
	return api.Push{}
}

// size is how many bytes a valid packet has.
func size(p api.Push) int {
	b, _ := push.Bytes(p)
	return len(b)
}

func isTick(tick int) bool { return tick >= 0 && tick <= api.MaxNumber }

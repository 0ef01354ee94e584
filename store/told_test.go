package store

import (
	"fmt"
	"math"
	"reflect"
	"slices"
	"strings"
	"testing"

	"chinoiserie/api"
	"chinoiserie/policy"
	"chinoiserie/push"
	"chinoiserie/snap"
)

// What the document says, found in another way than the program's: versions are held against each other by the lines of their texts, differences are the greatest that fit, and how many bytes a packet has is reckoned.

const mostTick = 1<<53 - 1

// told is the texts of all versions.
type told []string

// put is what Put must answer, and the versions that there are behind it.
func (d told) put(text string) (after told, version, line int, e api.Errno) {
	if len(d) == 1000 {
		return d, 0, 0, api.ErrLimit
	}
	p, line, e := policy.Parse(text)
	if e != api.OK {
		return d, 0, line, e
	}
	printed, _ := policy.Print(p)
	if len(d) > 0 && !slices.Equal(fixed(printed), fixed(d[0])) {
		return d, 0, 0, api.ErrPolicy
	}
	return append(slices.Clone(d), printed), len(d) + 1, 0, api.OK
}

// fixed is what may not change in a policy's text.
func fixed(text string) []string {
	var all []string
	for _, line := range linesOf(text) {
		words := strings.Split(line, " ")
		switch words[0] {
		case "label", "below":
			all = append(all, line)
		case "work":
			all = append(all, "work "+words[1])
		}
	}
	return all
}

func linesOf(text string) []string {
	lines := strings.SplitAfter(text, "\n")
	for i, line := range lines {
		lines[i] = strings.TrimSuffix(line, "\n")
	}
	return lines[:len(lines)-1]
}

func (d told) has(version int) bool { return 1 <= version && version <= len(d) }

func isToldTick(tick int) bool { return 0 <= tick && tick <= mostTick }

func (d told) full(version, tick int) (api.Push, api.Errno) {
	if !d.has(version) {
		return api.Push{}, api.ErrRange
	}
	if !isToldTick(tick) {
		return api.Push{}, api.ErrArg
	}
	return api.Push{Kind: 1, Version: version, Tick: tick, Text: d[version-1]}, api.OK
}

func (d told) delta(from, to, tick int) (api.Push, api.Errno) {
	if !d.has(from) || !d.has(to) || from >= to {
		return api.Push{}, api.ErrRange
	}
	if !isToldTick(tick) {
		return api.Push{}, api.ErrArg
	}
	a, b := linesOf(d[from-1]), linesOf(d[to-1])
	least := min(len(a), len(b))
	head := least
	for !slices.Equal(a[:head], b[:head]) {
		head--
	}
	tail := least - head
	for !slices.Equal(a[len(a)-tail:], b[len(b)-tail:]) {
		tail--
	}
	return api.Push{Kind: 2, Version: to, From: from, Tick: tick, Head: head, Tail: tail, Lines: b[head : len(b)-tail]}, api.OK
}

func (d told) best(have, tick int) (api.Push, api.Errno) {
	full, e := d.full(len(d), tick)
	if e != api.OK {
		return full, e
	}
	if have == len(d) {
		return api.Push{Kind: 3, Version: have, Tick: tick}, api.OK
	}
	if delta, e := d.delta(have, len(d), tick); e == api.OK && reckoned(delta) < reckoned(full) {
		return delta, api.OK
	}
	return full, api.OK
}

// reckoned is how many bytes a packet has, other than an answer of a node.
func reckoned(p api.Push) int {
	switch p.Kind {
	case 1:
		return 1 + 2*7 + 3 + len(p.Text)
	case 2:
		return 1 + 5*7 + 2 + 3*len(p.Lines) + len(strings.Join(p.Lines, ""))
	}
	return 1 + 2*7
}

func samePush(p, q api.Push) bool {
	if len(p.Lines) == 0 && len(q.Lines) == 0 {
		p.Lines, q.Lines = nil, nil
	}
	return reflect.DeepEqual(p, q)
}

// around are versions that there are, the first ones and the last ones, and others.
func (d told) around() []int {
	all := []int{math.MinInt, -1 << 32, -2, -1, 0, 1, 2, 3, 4, 5, 6, 1000, 1001, 1 << 32, 1<<53 - 1, 1 << 53, math.MaxInt}
	for v := max(7, len(d)-1); v <= len(d)+2; v++ {
		all = append(all, v)
	}
	return all
}

var ticks = []int{math.MinInt, -1, 0, 1, 77, mostTick - 1, mostTick, mostTick + 1, math.MaxInt}

// checkStore checks all that a store answers, with these versions.
func checkStore(t *testing.T, name string, s *Store, d told) {
	t.Helper()
	if got := s.Latest(); got != len(d) {
		t.Fatalf("%s: Latest: %d, not %d", name, got, len(d))
	}
	for _, v := range d.around() {
		checkVersion(t, name, s, d, v)
		for _, to := range d.around() {
			checkPush(t, fmt.Sprint(name, ": Delta of ", v, " and ", to, " at "), []int{0, mostTick}, func(tick int) (api.Push, api.Errno) { return s.Delta(v, to, tick) }, func(tick int) (api.Push, api.Errno) { return d.delta(v, to, tick) })
		}
		checkPush(t, fmt.Sprint(name, ": Full of ", v, " at "), ticks, func(tick int) (api.Push, api.Errno) { return s.Full(v, tick) }, func(tick int) (api.Push, api.Errno) { return d.full(v, tick) })
		checkPush(t, fmt.Sprint(name, ": Best for ", v, " at "), ticks, func(tick int) (api.Push, api.Errno) { return s.Best(v, tick) }, func(tick int) (api.Push, api.Errno) { return d.best(v, tick) })
		for _, to := range []int{-1, 0, 1, 2, len(d), len(d) + 1} {
			checkPush(t, fmt.Sprint(name, ": Delta of ", v, " and ", to, " at "), ticks, func(tick int) (api.Push, api.Errno) { return s.Delta(v, to, tick) }, func(tick int) (api.Push, api.Errno) { return d.delta(v, to, tick) })
		}
	}
}

// checkPush checks the packets of some ticks, and that those that there are are valid.
func checkPush(t *testing.T, name string, ticks []int, got, want func(tick int) (api.Push, api.Errno)) {
	t.Helper()
	for _, tick := range ticks {
		p, e := got(tick)
		q, f := want(tick)
		if e != f || !samePush(p, q) {
			t.Fatalf("%s%d: %+v, %d, not %+v, %d", name, tick, p, e, q, f)
		}
		if e == api.OK && push.Check(p) != api.OK {
			t.Fatalf("%s%d: %+v is not valid", name, tick, p)
		}
	}
}

// checkVersion checks the text and the snapshot of a version, whether there is one or not.
func checkVersion(t *testing.T, name string, s *Store, d told, v int) {
	t.Helper()
	text, e := s.Text(v)
	made, f := s.Snap(v)
	if !d.has(v) {
		if text != "" || e != api.ErrRange || made != nil || f != api.ErrRange {
			t.Fatalf("%s: version %d: %q, %d; %v, %d", name, v, text, e, made, f)
		}
		return
	}
	if text != d[v-1] || e != api.OK {
		t.Fatalf("%s: Text(%d): %q, %d, not %q", name, v, text, e, d[v-1])
	}
	if f != api.OK {
		t.Fatalf("%s: Snap(%d): %d", name, v, f)
	}
	checkSnap(t, fmt.Sprint(name, ": Snap(", v, ")"), made, d[v-1])
}

// checkSnap checks that a snapshot is that of a text.
func checkSnap(t *testing.T, name string, s *snap.Snap, text string) {
	t.Helper()
	p, _, e := policy.Parse(text)
	if e != api.OK || s.Text() != text || !policy.Same(s.Policy(), p) {
		t.Fatalf("%s is one of %q, not of %q", name, s.Text(), text)
	}
	other, _ := snap.Of(p)
	for w := range p.Works {
		got, e := s.Reach(w)
		want, f := other.Reach(w)
		if got != want || e != f {
			t.Fatalf("%s: Reach(%d): %d, %d, not %d, %d", name, w, got, e, want, f)
		}
	}
}

// checkPut puts a text, and checks what Put answers; it returns the versions that there are then.
func checkPut(t *testing.T, s *Store, d told, text string) told {
	t.Helper()
	after, version, line, e := d.put(text)
	if v, l, f := s.Put(text); v != version || l != line || f != e {
		t.Fatalf("Put(%s): %d, %d, %d, not %d, %d, %d", cut(text), v, l, f, version, line, e)
	}
	return after
}

// cut tells a text, or how it begins.
func cut(s string) string {
	if len(s) > 200 {
		return fmt.Sprintf("%q.. of %d bytes", s[:200], len(s))
	}
	return fmt.Sprintf("%q", s)
}

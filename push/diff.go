package push

import (
	"slices"
	"strings"

	"chinoiserie/api"
	"chinoiserie/text"
)

const eol = "\n"

// A difference is one of texts, not of versions: it has the least numbers that may be.
const (
	leastFrom = 1
	leastNext = 2
)

// Diff is the difference of two texts.
func Diff(from, to string) (p api.Push, e api.Errno) {
	old, e := text.Lines(from)
	if e != api.OK {
		return api.Push{}, e
	}
	lines, e := text.Lines(to)
	if e != api.OK {
		return api.Push{}, e
	}
	head := alike(old, lines)
	old, lines = old[head:], lines[head:]
	tail := alikeAtEnd(old, lines)
	lines = lines[:len(lines)-tail]
	if len(lines) > maxLines {
		return api.Push{}, api.ErrLimit
	}
	// A copy, so that the packet does not hold on to the lines that it has not.
	return api.Push{Kind: api.PushDelta, Version: leastNext, From: leastFrom, Head: head, Tail: tail, Lines: slices.Clone(lines)}, api.OK
}

// Apply is the text that a difference makes of another one.
func Apply(from string, p api.Push) (string, api.Errno) {
	if p.Kind != api.PushDelta || Check(p) != api.OK {
		return "", api.ErrArg
	}
	old, e := text.Lines(from)
	if e != api.OK || len(old) < p.Head+p.Tail {
		return "", api.ErrArg
	}
	var b strings.Builder
	for _, part := range [][]string{old[:p.Head], p.Lines, old[len(old)-p.Tail:]} {
		for _, line := range part {
			b.WriteString(line)
			b.WriteString(eol)
		}
	}
	if b.Len() > api.MaxText {
		return "", api.ErrLimit
	}
	return b.String(), api.OK
}

// alike is how many lines are equal at the beginning of both.
func alike(a, b []string) int {
	n := 0
	for n < min(len(a), len(b)) && a[n] == b[n] {
		n++
	}
	return n
}

// alikeAtEnd is how many lines are equal at the end of both.
func alikeAtEnd(a, b []string) int {
	n := 0
	for n < min(len(a), len(b)) && a[len(a)-1-n] == b[len(b)-1-n] {
		n++
	}
	return n
}

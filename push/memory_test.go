package push

import (
	"bytes"
	"math"
	"slices"
	"strings"
	"testing"
	"unsafe"

	"chinoiserie/api"
)

// textOf is the memory of bytes, as a text.
func textOf(b []byte) string { return unsafe.String(unsafe.SliceData(b), len(b)) }

// own is a text in memory that can be written.
func own(s string) string { return textOf([]byte(s)) }

// write overwrites a text, which has to be in memory that can be written.
func write(s string) {
	b := unsafe.Slice(unsafe.StringData(s), len(s))
	for i := range b {
		b[i] = '!'
	}
}

// ownPush is a packet all of which is in memory that can be written, with lines behind the end of its Lines.
func ownPush(p api.Push) api.Push {
	p.Text = own(p.Text)
	lines := []string{}
	for _, line := range append(slices.Clone(p.Lines), "behind", "the end") {
		lines = append(lines, own(line))
	}
	p.Lines = lines[:len(p.Lines)]
	return p
}

// changed overwrites all that lies in the memory of a packet, with what is behind its end.
func changed(p api.Push) {
	write(p.Text)
	lines := p.Lines[:cap(p.Lines)]
	for i := range lines {
		write(lines[i])
		lines[i] = "none"
	}
}

// shared tells whether two texts have a byte of memory in common.
func shared(a, b string) bool {
	if a == "" || b == "" {
		return false
	}
	x, y := uintptr(unsafe.Pointer(unsafe.StringData(a))), uintptr(unsafe.Pointer(unsafe.StringData(b)))
	return x < y+uintptr(len(b)) && y < x+uintptr(len(a))
}

// textsOf are all texts of a packet, and the memory of its list.
func textsOf(p api.Push) []string {
	all := append([]string{p.Text}, p.Lines...)
	if n := cap(p.Lines); n > 0 {
		all = append(all, unsafe.String((*byte)(unsafe.Pointer(unsafe.SliceData(p.Lines))), n*int(unsafe.Sizeof(""))))
	}
	return all
}

// checkApart checks that no text of the one list has memory in common with one of the other list.
func checkApart(t *testing.T, what string, some, others []string) {
	t.Helper()
	for _, a := range some {
		for _, b := range others {
			if shared(a, b) {
				t.Errorf("%s: %s and %s share memory", what, cut(a), cut(b))
			}
		}
	}
}

// large are packets, valid and others, whose texts are longer than a byte, so that they lie in memory of their own.
func large() []api.Push {
	return append(rich(),
		api.Push{Kind: api.PushFull, Version: 1, Text: strings.Repeat("label low\n", 6000)},
		api.Push{Kind: api.PushDelta, Version: 2, From: 1, Lines: sized(1000, 65536)},
		api.Push{Kind: 77, Version: -1, Text: "text", Lines: []string{"one", "", "two\n"}})
}

// P11.4: packets are only read.
func TestPacketsAreOnlyRead(t *testing.T) {
	for _, p := range large() {
		for _, q := range append(others(p), p) {
			mine := ownPush(q)
			Check(mine)
			Bytes(mine)
			Same(mine, mine)
			Copy(mine)
			Apply("one\ntwo\n", mine)
			if !toldSame(mine, q) || !slices.Equal(mine.Lines[:cap(mine.Lines)][len(q.Lines):len(q.Lines)+2], []string{"behind", "the end"}) {
				t.Errorf("%s: %s now", brief(q), brief(mine))
			}
		}
	}
}

// P11.4: a change of a packet changes neither its bytes nor its copy, and the other way round.
func TestBytesAndCopiesAreNewMemory(t *testing.T) {
	for _, p := range large() {
		mine := ownPush(p)
		one, other := Copy(mine), Copy(mine)
		checkApart(t, "copy", textsOf(one), textsOf(mine))
		checkApart(t, "copies", textsOf(one), textsOf(other))
		b, e := Bytes(mine)
		if e == api.OK {
			c, _ := Bytes(mine)
			checkApart(t, "bytes", []string{textOf(b)}, append(textsOf(mine), textOf(c)))
		}
		kept := bytes.Clone(b)
		changed(mine)
		if !toldSame(one, p) || !toldSame(other, p) || !bytes.Equal(b, kept) {
			t.Errorf("%s: %s, %s, %s", brief(p), brief(one), brief(other), short(b))
		}
		again := ownPush(p)
		changed(one)
		if !toldSame(other, p) || !toldSame(again, p) {
			t.Errorf("%s: %s", brief(p), brief(other))
		}
	}
}

// P11.4: a change of the lines of a copy changes no lines of the packet, nor those behind their end.
func TestLinesOfCopies(t *testing.T) {
	lines := []string{"one", "two", "three"}
	for n := range 4 {
		c := Copy(api.Push{Lines: lines[:n]})
		c.Lines = append(c.Lines, "more")
		c.Lines[0] = "other"
		if !slices.Equal(lines, []string{"one", "two", "three"}) {
			t.Errorf("%d: %q", n, lines)
		}
	}
}

// P11.4: bytes are neither kept nor answered.
func TestParsedPacketsAreNewMemory(t *testing.T) {
	for _, p := range append(samples(), large()[:7]...) {
		b := bytesOf(t, p)
		one, _ := Parse(b)
		other, _ := Parse(b)
		checkApart(t, "packet", textsOf(one), append(textsOf(other), textOf(b)))
		for i := range b {
			b[i] ^= 0x5a
		}
		if !toldSame(one, p) || !toldSame(other, p) {
			t.Errorf("%s: %s, %s", brief(p), brief(one), brief(other))
		}
		one.Text = ""
		for i := range one.Lines[:cap(one.Lines)] {
			one.Lines[:cap(one.Lines)][i] = "none"
		}
		if !toldSame(other, p) {
			t.Errorf("%s: %s", brief(p), brief(other))
		}
	}
}

// P11.4: the texts of a difference are neither kept nor answered.
func TestDifferencesAreNewMemory(t *testing.T) {
	for _, c := range [][2]string{
		{"", "one"}, {"", "one\ntwo\nthree\n"}, {"first\nold\nlast\n", "first\nnew\nlast\n"}, {"first\nlast", "first\nnew\n\nnewer\nlast"}, {"same\n", "same\n"}, {"", strings.Repeat("line\n", 1000)},
	} {
		from, to := own(c[0]), own(c[1])
		one, _ := Diff(from, to)
		other, _ := Diff(from, to)
		want, _ := toldDiff(c[0], c[1])
		checkApart(t, "difference", textsOf(one), append(textsOf(other), from, to))
		if from != c[0] || to != c[1] {
			t.Errorf("%q %q: %q %q now", c[0], c[1], from, to)
		}
		write(from)
		write(to)
		if !toldSame(one, want) || !toldSame(other, want) {
			t.Errorf("%s: %s, %s", brief(want), brief(one), brief(other))
		}
		changed(one)
		if !toldSame(other, want) {
			t.Errorf("%s: %s", brief(want), brief(other))
		}
	}
}

// P11.4: neither the text nor the packet is kept or answered.
func TestAppliedTextsAreNewMemory(t *testing.T) {
	for _, c := range []struct {
		from string
		p    api.Push
	}{
		{"one\ntwo\n", delta(2, 0)}, {"one\ntwo\n", delta(0, 2)}, {"one\ntwo\n", delta(1, 1)}, {"one", delta(1, 0)}, {"one\n", delta(0, 1)},
		{"", delta(0, 0, "line")}, {"", delta(0, 0, "line", "more")}, {"one\ntwo\n", delta(1, 1, "line", "", "more")}, {"one\ntwo\n", delta(0, 0, strings.Repeat("x", 60000))},
	} {
		from, p := own(c.from), ownPush(c.p)
		want, _ := toldApply(c.from, c.p)
		one, e := Apply(from, p)
		other, _ := Apply(from, p)
		if e != api.OK || one != want || other != want {
			t.Errorf("Apply(%q, %s): %q, %d, and %q", c.from, brief(c.p), one, e, other)
		}
		checkApart(t, "text", []string{one}, append(textsOf(p), from, other))
		if from != c.from || !toldSame(p, c.p) {
			t.Errorf("%q %s: %q %s now", c.from, brief(c.p), from, brief(p))
		}
		write(from)
		changed(p)
		if one != want {
			t.Errorf("%q: %q now", want, one)
		}
		write(one)
		if other != want {
			t.Errorf("%q: %q now", want, other)
		}
	}
}

// R2: an answer depends on what was given, not on what was asked before.
func TestAgain(t *testing.T) {
	for range 3 {
		for _, p := range samples() {
			checkValid(t, p, true)
			checkValid(t, with(p, func(p *api.Push) { p.Tick = math.MinInt }), false)
			checkNone(t, nil, api.ErrTrunc)
			checkDiff(t, "a\nb\n", p.Text)
		}
	}
}

package push

import (
	"bytes"
	"encoding/hex"
	"fmt"
	"math/big"
	"reflect"
	"slices"
	"strings"
	"testing"

	"chinoiserie/api"
)

// What the document says, found in another way than the program's: kind by kind, without fields as bits; bytes are written as hexadecimal text, and read by a panic at the first error.

const most = 1<<53 - 1

// toldValid is what the document says of a packet.
func toldValid(p api.Push) bool {
	is, only := false, api.Push{Kind: p.Kind}
	switch p.Kind {
	case 1:
		is = p.Version >= 1 && p.Version <= most && p.Tick >= 0 && p.Tick <= most && len(p.Text) <= 65536
		only.Version, only.Tick, only.Text = p.Version, p.Tick, p.Text
	case 2:
		is = p.Version >= 2 && p.Version <= most && p.From >= 1 && p.From < p.Version && p.Tick >= 0 && p.Tick <= most && p.Head >= 0 && p.Head <= 65536 && p.Tail >= 0 && p.Tail <= 65536
		is = is && len(p.Lines) <= 1000 && len(strings.Join(p.Lines, "")) <= 65536 && !strings.ContainsRune(strings.Join(p.Lines, ""), '\n')
		only.Version, only.From, only.Tick, only.Head, only.Tail, only.Lines = p.Version, p.From, p.Tick, p.Head, p.Tail, p.Lines
	case 3:
		is = p.Version >= 1 && p.Version <= most && p.Tick >= 0 && p.Tick <= most
		only.Version, only.Tick = p.Version, p.Tick
	case 4, 5:
		is = p.Node >= 0 && p.Node <= 6 && p.Version >= 0 && p.Version <= most
		only.Node, only.Version = p.Node, p.Version
	}
	return is && toldSame(p, only)
}

// toldSame tells whether two packets are equal: no list and an empty one are.
func toldSame(p, q api.Push) bool {
	if len(p.Lines) == 0 && len(q.Lines) == 0 {
		p.Lines, q.Lines = nil, nil
	}
	return reflect.DeepEqual(p, q)
}

func counting(s string) string { return fmt.Sprintf("%06x%x", len(s), s) }

// toldBytes is the hexadecimal text of a packet's encoding.
func toldBytes(p api.Push) string {
	switch p.Kind {
	case 1:
		return fmt.Sprintf("01%014x%014x", p.Version, p.Tick) + counting(p.Text)
	case 2:
		var b strings.Builder
		fmt.Fprintf(&b, "02%014x%014x%014x%014x%014x%04x", p.Version, p.From, p.Tick, p.Head, p.Tail, len(p.Lines))
		for _, line := range p.Lines {
			b.WriteString(counting(line))
		}
		return b.String()
	case 3:
		return fmt.Sprintf("03%014x%014x", p.Version, p.Tick)
	}
	return fmt.Sprintf("%02x%014x%014x", p.Kind, p.Version, p.Node)
}

// toldParse is what the document says of bytes.
func toldParse(b []byte) (p api.Push, e api.Errno) {
	defer func() {
		if x := recover(); x != nil {
			p, e = api.Push{}, x.(api.Errno)
		}
	}()
	at := 0
	next := func(n int) []byte {
		if at+n > len(b) {
			panic(api.ErrTrunc)
		}
		at += n
		return b[at-n : at]
	}
	count := func(n int) int { return int(new(big.Int).SetBytes(next(n)).Int64()) }
	limited := func(n, most int) int {
		if n > most {
			panic(api.ErrLimit)
		}
		return n
	}
	some := func() string { return string(next(limited(count(3), 65536))) }
	several := func() (all []string) {
		for n := limited(count(2), 1000); len(all) < n; {
			all = append(all, some())
		}
		return all
	}
	switch kind := count(1); kind {
	case 1:
		p = api.Push{Kind: kind, Version: count(7), Tick: count(7), Text: some()}
	case 2:
		p = api.Push{Kind: kind, Version: count(7), From: count(7), Tick: count(7), Head: count(7), Tail: count(7), Lines: several()}
	case 3:
		p = api.Push{Kind: kind, Version: count(7), Tick: count(7)}
	case 4, 5:
		p = api.Push{Kind: kind, Version: count(7), Node: count(7)}
	default:
		panic(api.ErrForm)
	}
	if at < len(b) || !toldValid(p) {
		panic(api.ErrForm)
	}
	return p, api.OK
}

// toldLines are a text's.
func toldLines(s string) []string {
	if s == "" {
		return nil
	}
	return strings.Split(strings.TrimSuffix(s, "\n"), "\n")
}

func ended(lines []string) string {
	if len(lines) == 0 {
		return ""
	}
	return strings.Join(lines, "\n") + "\n"
}

// toldDiff is what the document says of two texts: the greatest Head that fits, then the greatest Tail.
func toldDiff(from, to string) (api.Push, api.Errno) {
	if len(from) > 65536 || len(to) > 65536 {
		return api.Push{}, api.ErrLimit
	}
	a, b := toldLines(from), toldLines(to)
	least := min(len(a), len(b))
	head := least
	for !slices.Equal(a[:head], b[:head]) {
		head--
	}
	tail := least - head
	for !slices.Equal(a[len(a)-tail:], b[len(b)-tail:]) {
		tail--
	}
	if len(b)-head-tail > 1000 {
		return api.Push{}, api.ErrLimit
	}
	return api.Push{Kind: 2, Version: 2, From: 1, Head: head, Tail: tail, Lines: b[head : len(b)-tail]}, api.OK
}

// toldApply is what the document says of a text and a packet.
func toldApply(from string, p api.Push) (string, api.Errno) {
	lines := toldLines(from)
	if p.Kind != 2 || !toldValid(p) || len(from) > 65536 || len(lines) < p.Head+p.Tail {
		return "", api.ErrArg
	}
	s := ended(slices.Replace(lines, p.Head, len(lines)-p.Tail, p.Lines...))
	if len(s) > 65536 {
		return "", api.ErrLimit
	}
	return s, api.OK
}

// checkValid holds Check and Bytes of a packet, and Parse of these, against what is told of it.
func checkValid(t *testing.T, p api.Push, is bool) {
	t.Helper()
	if toldValid(p) != is {
		t.Fatalf("%s is told to be valid: not %t", brief(p), is)
	}
	want := api.ErrArg
	if is {
		want = api.OK
	}
	if e := Check(p); e != want {
		t.Errorf("Check(%s): %d, not %d", brief(p), e, want)
	}
	b, e := Bytes(p)
	if !is {
		if b != nil || e != want {
			t.Errorf("Bytes(%s): %s, %d, not %d", brief(p), short(b), e, want)
		}
		return
	}
	if e != want || hex.EncodeToString(b) != toldBytes(p) {
		t.Errorf("Bytes(%s): %s, %d", brief(p), short(b), e)
	}
	checkParse(t, b, p, api.OK)
}

// checkParse holds Parse of bytes against what is told of them.
func checkParse(t *testing.T, b []byte, want api.Push, wantE api.Errno) {
	t.Helper()
	kept := bytes.Clone(b)
	if p, e := Parse(b); e != wantE || !toldSame(p, want) {
		t.Errorf("Parse(%s): %s, %d, not %s, %d", short(b), brief(p), e, brief(want), wantE)
	}
	if !bytes.Equal(b, kept) {
		t.Errorf("Parse(%s) changed it", short(kept))
	}
}

// checkNone asks of bytes that are not those of a packet.
func checkNone(t *testing.T, b []byte, want api.Errno) {
	t.Helper()
	if _, e := toldParse(b); e != want {
		t.Errorf("%s: %d is told, not %d", short(b), e, want)
	}
	checkParse(t, b, api.Push{}, want)
}

// checkTold holds Parse of bytes against the other reading of the document; what is parsed has exactly these bytes.
func checkTold(t *testing.T, b []byte) api.Errno {
	t.Helper()
	want, e := toldParse(b)
	checkParse(t, b, want, e)
	if e == api.OK {
		checkBytes(t, want, b)
	}
	return e
}

func checkBytes(t *testing.T, p api.Push, want []byte) {
	t.Helper()
	if b, e := Bytes(p); e != api.OK || !bytes.Equal(b, want) {
		t.Errorf("Bytes(%s): %s, %d, not %s", brief(p), short(b), e, short(want))
	}
}

// checkDiff holds Diff of two texts, and Apply of it, against what is told of them.
func checkDiff(t *testing.T, from, to string) api.Errno {
	t.Helper()
	want, wantE := toldDiff(from, to)
	p, e := Diff(from, to)
	if e != wantE || !toldSame(p, want) {
		t.Errorf("Diff(%s, %s): %s, %d, not %s, %d", cut(from), cut(to), brief(p), e, brief(want), wantE)
	}
	if wantE == api.OK {
		checkValid(t, want, true)
		checkApply(t, from, want)
	}
	return wantE
}

// checkApply holds Apply of a packet to a text against what is told of them.
func checkApply(t *testing.T, from string, p api.Push) api.Errno {
	t.Helper()
	want, wantE := toldApply(from, p)
	if s, e := Apply(from, p); s != want || e != wantE {
		t.Errorf("Apply(%s, %s): %s, %d, not %s, %d", cut(from), brief(p), cut(s), e, cut(want), wantE)
	}
	return wantE
}

// brief is a text of a packet that is not too long to be read.
func brief(p api.Push) string {
	if len(p.Lines) > 9 {
		return fmt.Sprintf("%s and %d lines", brief(api.Push{Kind: p.Kind, Version: p.Version, From: p.From, Node: p.Node, Tick: p.Tick, Head: p.Head, Tail: p.Tail, Text: p.Text}), len(p.Lines))
	}
	lines := make([]string, len(p.Lines))
	for i, line := range p.Lines {
		lines[i] = cut(line)
	}
	return fmt.Sprintf("{%d: version %d from %d node %d tick %d head %d tail %d text %s lines %s}", p.Kind, p.Version, p.From, p.Node, p.Tick, p.Head, p.Tail, cut(p.Text), lines)
}

// cut is a text that is not too long to be read.
func cut(s string) string {
	if len(s) > 60 {
		return fmt.Sprintf("%q.. (%d bytes)", s[:60], len(s))
	}
	return fmt.Sprintf("%q", s)
}

// short is a text of bytes that is not too long to be read.
func short(b []byte) string {
	if len(b) > 100 {
		return fmt.Sprintf("%x.. (%d bytes)", b[:100], len(b))
	}
	return fmt.Sprintf("%x", b)
}

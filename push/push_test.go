package push

import (
	"bytes"
	"math"
	"slices"
	"strings"
	"testing"

	"chinoiserie/api"
)

// plainest are the packets of each kind that have as little as may be.
func plainest() []api.Push {
	return []api.Push{
		{Kind: api.PushFull, Version: 1},
		{Kind: api.PushDelta, Version: 2, From: 1},
		{Kind: api.PushRenew, Version: 1},
		{Kind: api.PushAck},
		{Kind: api.PushNack},
	}
}

// rich are packets of each kind with something else in each field that it has.
func rich() []api.Push {
	return []api.Push{
		{Kind: api.PushFull, Version: 0x01020304050607, Tick: 0x1112131415161, Text: "label low\n\x00\xff é"},
		{Kind: api.PushDelta, Version: 0x01020304050607, From: 0x20304050608, Tick: 0x1112131415161, Head: 0x1234, Tail: 0xabcd, Lines: []string{"work a low 1", "", "\x00\xff é\r"}},
		{Kind: api.PushRenew, Version: 0x01020304050607, Tick: 0x1112131415161},
		{Kind: api.PushAck, Version: 0x01020304050607, Node: 5},
		{Kind: api.PushNack, Version: 0x01020304050607, Node: 6},
	}
}

func samples() []api.Push { return slices.Concat(plainest(), rich()) }

// with is a packet with another field, or several.
func with(p api.Push, change func(p *api.Push)) api.Push {
	change(&p)
	return p
}

// bytesOf are the bytes of a packet that is valid.
func bytesOf(t *testing.T, p api.Push) []byte {
	t.Helper()
	b, e := Bytes(p)
	if e != api.OK {
		t.Fatalf("Bytes(%s): %d", brief(p), e)
	}
	return b
}

// The table 'Examples' of the chapter.
func TestExamples(t *testing.T) {
	for _, c := range []struct {
		p api.Push
		b []byte
	}{
		{api.Push{Kind: api.PushRenew, Version: 3, Tick: 258}, []byte{3, 0, 0, 0, 0, 0, 0, 3, 0, 0, 0, 0, 0, 1, 2}},
		{api.Push{Kind: api.PushAck, Version: 2, Node: 1}, []byte{4, 0, 0, 0, 0, 0, 0, 2, 0, 0, 0, 0, 0, 0, 1}},
	} {
		checkBytes(t, c.p, c.b)
		checkParse(t, c.b, c.p, api.OK)
	}
	if e := Check(api.Push{Kind: api.PushAck, Tick: 1}); e != api.ErrArg {
		t.Error("Check:", e)
	}
	checkNone(t, []byte{6}, api.ErrForm)
	checkNone(t, []byte{3, 0}, api.ErrTrunc)
	for _, c := range []struct {
		from, to   string
		head, tail int
		lines      []string
	}{
		{"a\nb\nc\n", "a\nx\nc\n", 1, 1, []string{"x"}},
		{"a\na", "a", 1, 0, nil},
	} {
		p, e := Diff(c.from, c.to)
		if want := (api.Push{Kind: 2, Version: 2, From: 1, Head: c.head, Tail: c.tail, Lines: c.lines}); e != api.OK || !toldSame(p, want) {
			t.Errorf("Diff(%q, %q): %s, %d", c.from, c.to, brief(p), e)
		}
	}
	p := api.Push{Kind: 2, Version: 2, From: 1, Head: 1, Tail: 1, Lines: []string{"x", "y"}}
	if s, e := Apply("a\nb\nc", p); s != "a\nx\ny\nc\n" || e != api.OK {
		t.Errorf("Apply: %q, %d", s, e)
	}
	p.Head = 3
	if s, e := Apply("a\nb\nc", p); s != "" || e != api.ErrArg {
		t.Errorf("Apply: %q, %d", s, e)
	}
}

// P11.1, P11.2: the bytes of each kind, written out.
func TestPartsOfTheBytes(t *testing.T) {
	const version, tick = "\x01\x02\x03\x04\x05\x06\x07", "\x01\x11\x21\x31\x41\x51\x61"
	for i, want := range []string{
		"\x01" + version + tick + "\x00\x00\x0f" + "label low\n\x00\xff é",
		"\x02" + version + "\x00\x02\x03\x04\x05\x06\x08" + tick + "\x00\x00\x00\x00\x00\x12\x34" + "\x00\x00\x00\x00\x00\xab\xcd" + "\x00\x03" + "\x00\x00\x0cwork a low 1" + "\x00\x00\x00" + "\x00\x00\x06\x00\xff é\r",
		"\x03" + version + tick,
		"\x04" + version + "\x00\x00\x00\x00\x00\x00\x05",
		"\x05" + version + "\x00\x00\x00\x00\x00\x00\x06",
	} {
		p := rich()[i]
		checkValid(t, p, true)
		checkBytes(t, p, []byte(want))
		checkParse(t, []byte(want), p, api.OK)
	}
	for _, p := range plainest() {
		checkValid(t, p, true)
	}
}

// P11.1: kinds that are none, with the fields of each one.
func TestNoKinds(t *testing.T) {
	for _, kind := range []int{0, 6, 7, 8, 255, 256, 257, 258, 259, 260, 261, 511, 65536, 65537, 1<<32 + 1, 1<<56 + 2, -1, -2, -5, -255, -256, math.MinInt, math.MinInt + 1, math.MaxInt} {
		checkValid(t, api.Push{Kind: kind}, false)
		for _, p := range samples() {
			checkValid(t, with(p, func(p *api.Push) { p.Kind = kind }), false)
		}
	}
}

// near are numbers around these, and the ends of all.
func near(some ...int) []int {
	all := []int{math.MinInt, math.MinInt + 1, -1 << 56, -1 << 53, -1 << 32, math.MaxInt - 1, math.MaxInt, 1 << 32, 1 << 56, 1<<56 + 1}
	for _, n := range some {
		all = append(all, n-2, n-1, n, n+1, n+2)
	}
	return all
}

// between tells of a number whether it is from low to high.
func between(low, high int) func(int) bool { return func(n int) bool { return n >= low && n <= high } }

func onlyZero(n int) bool { return n == 0 }

// P11.1: each number of each kind, at both ends and beyond, and each one that the kind does not have.
func TestNumbers(t *testing.T) {
	type test func(int) bool
	count, version, kept, node := between(0, most), between(1, most), between(0, 65536), between(0, 6)
	for i, is := range []struct{ version, from, node, tick, head, tail test }{
		{version, onlyZero, onlyZero, count, onlyZero, onlyZero},
		{nil, nil, onlyZero, count, kept, kept},
		{version, onlyZero, onlyZero, count, onlyZero, onlyZero},
		{count, onlyZero, node, onlyZero, onlyZero, onlyZero},
		{count, onlyZero, node, onlyZero, onlyZero, onlyZero},
	} {
		for _, p := range []api.Push{plainest()[i], rich()[i]} {
			for _, n := range near(0, 1, 6, 255, 256, 1000, 65535, 65536, 65537, most) {
				if is.version != nil {
					checkValid(t, with(p, func(p *api.Push) { p.Version = n }), is.version(n))
					checkValid(t, with(p, func(p *api.Push) { p.From = n }), is.from(n))
				}
				checkValid(t, with(p, func(p *api.Push) { p.Node = n }), is.node(n))
				checkValid(t, with(p, func(p *api.Push) { p.Tick = n }), is.tick(n))
				checkValid(t, with(p, func(p *api.Push) { p.Head = n }), is.head(n))
				checkValid(t, with(p, func(p *api.Push) { p.Tail = n }), is.tail(n))
			}
		}
	}
}

// P11.1: Version and From of a PushDelta, which depend on each other.
func TestVersionAndFrom(t *testing.T) {
	for _, p := range []api.Push{plainest()[1], rich()[1]} {
		for _, version := range near(0, 1, 2, 3, 1000, most) {
			for _, from := range near(0, 1, 2, 3, 1000, most, version) {
				is := version >= 2 && version <= most && from >= 1 && from < version
				checkValid(t, with(p, func(p *api.Push) { p.Version, p.From = version, from }), is)
			}
		}
	}
}

// P11.1: several fields that may not be so.
func TestSeveralFields(t *testing.T) {
	for _, p := range samples() {
		for _, n := range []int{-1, 1, math.MinInt, math.MaxInt} {
			other := api.Push{Kind: p.Kind, Version: n, From: n, Node: n, Tick: n, Head: n, Tail: n}
			checkValid(t, other, false)
			other.Text, other.Lines = "t", []string{"l"}
			checkValid(t, other, false)
		}
	}
}

// P11.1: Text of each kind.
func TestTexts(t *testing.T) {
	for _, p := range samples() {
		for _, size := range []int{0, 1, 2, 255, 256, 257, 65535, 65536, 65537, 65538, 1 << 17, 1 << 24} {
			for _, one := range []string{"x", "\n", "\x00"} {
				is := size == 0 || p.Kind == api.PushFull && size <= 65536
				checkValid(t, with(p, func(p *api.Push) { p.Text = strings.Repeat(one, size) }), is)
			}
		}
	}
}

// sized are so many lines, which have so many bytes in total.
func sized(many, size int) []string {
	all := make([]string, many)
	for i := range all {
		part := size / (many - i)
		all[i] = strings.Repeat("l", part)
		size -= part
	}
	return all
}

// P11.1: Lines of each kind.
func TestLines(t *testing.T) {
	for _, c := range []struct {
		lines []string
		is    bool
	}{
		{[]string{""}, true},
		{[]string{"", "", ""}, true},
		{[]string{"a", "", "b"}, true},
		{[]string{"\r", "\x00\xff", " ", "\t", "\v", "\f", "\u0085", "\u2028"}, true},
		{[]string{"\n"}, false},
		{[]string{"\na"}, false},
		{[]string{"a\n"}, false},
		{[]string{"a\nb"}, false},
		{[]string{"\r\n"}, false},
		{[]string{"a", "b\n"}, false},
		{[]string{"\na", "b"}, false},
		{[]string{"a", "", "b\n", "c"}, false},
		{sized(999, 0), true},
		{sized(1000, 0), true},
		{sized(1001, 0), false},
		{sized(1002, 2000), false},
		{sized(65536, 65536), false},
		{sized(1, 65535), true},
		{sized(1, 65536), true},
		{sized(1, 65537), false},
		{sized(2, 65536), true},
		{sized(2, 65537), false},
		{[]string{"", strings.Repeat("x", 65536), ""}, true},
		{[]string{"a", strings.Repeat("x", 65536)}, false},
		{[]string{strings.Repeat("x", 65536), "a"}, false},
		{sized(3, 3*65536), false},
		{sized(1000, 65535), true},
		{sized(1000, 65536), true},
		{sized(1000, 65537), false},
		{sized(1001, 65536), false},
		{append(sized(999, 65535), "\n"), false},
	} {
		for _, p := range samples() {
			checkValid(t, with(p, func(p *api.Push) { p.Lines = c.lines }), c.is && p.Kind == api.PushDelta)
		}
	}
}

// P11.1: nil and empty Lines are the same to all functions.
func TestNilAndEmptyLines(t *testing.T) {
	for _, p := range plainest() {
		empty := with(p, func(p *api.Push) { p.Lines = []string{} })
		checkValid(t, p, true)
		checkValid(t, empty, true)
		if !bytes.Equal(bytesOf(t, p), bytesOf(t, empty)) {
			t.Errorf("%s: %x and %x", brief(p), bytesOf(t, p), bytesOf(t, empty))
		}
		for _, q := range []api.Push{p, empty} {
			if !Same(p, q) || !Same(q, p) || !Same(empty, Copy(q)) {
				t.Errorf("%s and %s are not the same", brief(p), brief(q))
			}
			if got, want := applied(t, "a\nb\n", q), applied(t, "a\nb\n", p); got != want {
				t.Errorf("%s: %q, not %q", brief(q), got, want)
			}
		}
	}
}

// applied is what Apply answers, as one text.
func applied(t *testing.T, from string, p api.Push) string {
	t.Helper()
	s, e := Apply(from, p)
	if e != api.OK {
		return "!"
	}
	return s
}

// others are packets that each differ from p in one field.
func others(p api.Push) []api.Push {
	all := []api.Push{
		with(p, func(p *api.Push) { p.Text += "\n" }),
		with(p, func(p *api.Push) { p.Text = "\x00" + p.Text }),
		with(p, func(p *api.Push) { p.Lines = append(slices.Clone(p.Lines), "") }),
		with(p, func(p *api.Push) { p.Lines = append([]string{"a"}, p.Lines...) }),
		with(p, func(p *api.Push) { p.Lines = append(slices.Clone(p.Lines), p.Text, "b") }),
	}
	for i := range p.Lines {
		all = append(all,
			with(p, func(p *api.Push) { p.Lines = slices.Delete(slices.Clone(p.Lines), i, i+1) }),
			with(p, func(p *api.Push) { p.Lines = slices.Clone(p.Lines); p.Lines[i] += "x" }))
	}
	for _, n := range []int{-1, 1, 256, 1 << 56, math.MinInt} {
		all = append(all,
			with(p, func(p *api.Push) { p.Kind += n }),
			with(p, func(p *api.Push) { p.Version += n }),
			with(p, func(p *api.Push) { p.From += n }),
			with(p, func(p *api.Push) { p.Node += n }),
			with(p, func(p *api.Push) { p.Tick += n }),
			with(p, func(p *api.Push) { p.Head += n }),
			with(p, func(p *api.Push) { p.Tail += n }))
	}
	return all
}

// P11.1: Same tells each field apart, of packets that are valid and of others.
func TestSame(t *testing.T) {
	full := api.Push{Kind: 2, Version: 3, From: 4, Node: 5, Tick: 6, Head: 7, Tail: 8, Text: "t", Lines: []string{"l", "m"}}
	all := append(samples(), full, api.Push{}, api.Push{Kind: -7, Lines: []string{""}}, api.Push{Kind: 9, Text: "\n"})
	for i, p := range all {
		if !Same(p, p) || !Same(p, Copy(p)) || !Same(Copy(p), p) {
			t.Errorf("%s is not the same", brief(p))
		}
		for j, q := range all {
			if Same(p, q) != (i == j) {
				t.Errorf("%s and %s: %t", brief(p), brief(q), i != j)
			}
		}
		for _, q := range others(p) {
			if Same(p, q) || Same(q, p) {
				t.Errorf("%s and %s are the same", brief(p), brief(q))
			}
		}
	}
	long := sized(1001, 70000)
	other := slices.Clone(long)
	other[1000] += "x"
	if !Same(api.Push{Lines: long}, api.Push{Lines: slices.Clone(long)}) || Same(api.Push{Lines: long}, api.Push{Lines: other}) {
		t.Error("of many lines")
	}
	if Same(api.Push{Lines: []string{"a", "b"}}, api.Push{Lines: []string{"b", "a"}}) || Same(api.Push{Lines: []string{"ab"}}, api.Push{Lines: []string{"a", "b"}}) {
		t.Error("of other lines")
	}
	if Same(api.Push{Version: 1}, api.Push{From: 1}) || Same(api.Push{Head: 1}, api.Push{Tail: 1}) || Same(api.Push{Node: 1}, api.Push{Tick: 1}) {
		t.Error("of other fields")
	}
}

// P11.1: a copy of any packet, valid or not, is the same in all fields.
func TestCopy(t *testing.T) {
	for _, p := range samples() {
		for _, q := range append(others(p), p, with(p, func(p *api.Push) { p.Lines = []string{} })) {
			if c := Copy(q); !toldSame(c, q) {
				t.Errorf("Copy(%s): %s", brief(q), brief(c))
			}
		}
	}
	large := api.Push{Kind: 77, Text: strings.Repeat("t", 1<<17), Lines: sized(2000, 1<<17)}
	if !toldSame(Copy(large), large) {
		t.Error(brief(Copy(large)))
	}
}

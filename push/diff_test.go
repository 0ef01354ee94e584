package push

import (
	"math"
	"slices"
	"strings"
	"testing"

	"chinoiserie/api"
)

// delta is a PushDelta.
func delta(head, tail int, lines ...string) api.Push {
	return api.Push{Kind: api.PushDelta, Version: 2, From: 1, Head: head, Tail: tail, Lines: lines}
}

// P11.3: the differences of some texts, written out.
func TestDiff(t *testing.T) {
	for _, c := range []struct {
		from, to string
		want     api.Push
	}{
		{"", "", delta(0, 0)},
		{"a\nb\n", "a\nb\n", delta(2, 0)},
		{"a\nb", "a\nb", delta(2, 0)},
		{"a\nb", "a\nb\n", delta(2, 0)},
		{"a\nb\n", "a\nb", delta(2, 0)},
		{"", "\n", delta(0, 0, "")},
		{"\n", "", delta(0, 0)},
		{"\n", "\n", delta(1, 0)},
		{"\n\n", "\n", delta(1, 0)},
		{"\n", "\n\n", delta(1, 0, "")},
		{"", "a\nb\n", delta(0, 0, "a", "b")},
		{"a\nb\n", "", delta(0, 0)},
		{"a", "b", delta(0, 0, "b")},
		{"a\nb\n", "b\na\n", delta(0, 0, "b", "a")},
		// Only a beginning alike.
		{"a\nb\nc\n", "a\nb\nd\ne\n", delta(2, 0, "d", "e")},
		{"a\nb\nc\n", "a\nb\n", delta(2, 0)},
		{"a\nb\n", "a\nb\nc", delta(2, 0, "c")},
		{"a\nb", "a\nb\nc", delta(2, 0, "c")},
		{"a\n", "a\n\n", delta(1, 0, "")},
		// Only an end alike.
		{"a\nb\nc\n", "d\ne\nb\nc\n", delta(0, 2, "d", "e")},
		{"a\nb\nc\n", "b\nc\n", delta(0, 2)},
		{"b\nc\n", "a\nb\nc\n", delta(0, 2, "a")},
		{"b\nc", "a\nb\nc\n", delta(0, 2, "a")},
		{"\n", "a\n\n", delta(0, 1, "a")},
		// Both.
		{"a\nb\nc\n", "a\nx\ny\nc", delta(1, 1, "x", "y")},
		{"a\nb\nc", "a\nc\n", delta(1, 1)},
		{"a\nc\n", "a\nb\nc\n", delta(1, 1, "b")},
		{"a\n\nc\n", "a\nc\n", delta(1, 1)},
		// Alike in between, but not at an end.
		{"a\nb\nc\n", "x\nb\ny\n", delta(0, 0, "x", "b", "y")},
		{"a\nb\nc\nd\ne\n", "a\nx\nc\ny\ne\n", delta(1, 1, "x", "c", "y")},
		// The beginning and the end would overlap.
		{"a\na\n", "a\n", delta(1, 0)},
		{"a\n", "a\na\n", delta(1, 0, "a")},
		{"a\na\na\n", "a\na\n", delta(2, 0)},
		{"a\na\n", "a\na\na\na\n", delta(2, 0, "a", "a")},
		{"a\nb\na\n", "a\n", delta(1, 0)},
		{"a\n", "a\nb\na\n", delta(1, 0, "b", "a")},
		{"a\nb\na\nb\n", "a\nb\n", delta(2, 0)},
		{"a\nb\n", "a\nb\na\nb\n", delta(2, 0, "a", "b")},
		{"a\nb\nb\nc\n", "a\nb\nc\n", delta(2, 1)},
		{"a\nb\nc\n", "a\nb\nb\nc\n", delta(2, 1, "b")},
		{"a\nb\na\n", "a\na\n", delta(1, 1)},
		{"a\na\n", "a\nb\na\n", delta(1, 1, "b")},
		// Lines of other bytes, and of nearly the same ones.
		{"a\r\nb\r\n", "a\r\nb\n", delta(1, 0, "b")},
		{"a\n", "a \n", delta(0, 0, "a ")},
		{"a b\n", "a\nb\n", delta(0, 0, "a", "b")},
		{"\x00\n\xff\n", "\x00\n\xfe\n", delta(1, 0, "\xfe")},
		{"\xe2\n\x80", "\xe2\n\x80\n", delta(2, 0)},
	} {
		if p, e := Diff(c.from, c.to); e != api.OK || !toldSame(p, c.want) {
			t.Errorf("Diff(%q, %q): %s, %d, not %s", c.from, c.to, brief(p), e, brief(c.want))
		}
		checkDiff(t, c.from, c.to)
		if s := applied(t, c.from, c.want); s != ended(toldLines(c.to)) {
			t.Errorf("Apply(%q, %s): %q, not %q", c.from, brief(c.want), s, c.to)
		}
	}
}

// texts are all texts of at most so many of the pieces.
func texts(pieces []string, most int) []string {
	all := []string{""}
	for last := all; most > 0; most-- {
		var next []string
		for _, s := range last {
			for _, piece := range pieces {
				next = append(next, s+piece)
			}
		}
		all, last = append(all, next...), next
	}
	return all
}

// P11.3, P11.6: all pairs of short texts.
func TestDiffOfShortTexts(t *testing.T) {
	all := append(texts([]string{"a", "b", "\n"}, 4), texts([]string{"a\n", "b\n"}, 6)...)
	for _, from := range all {
		for _, to := range all {
			if e := checkDiff(t, from, to); e != api.OK {
				t.Errorf("Diff(%q, %q): %d", from, to, e)
			}
		}
	}
}

// P11.3: texts of as many bytes as may be, and of more.
func TestDiffOfLongTexts(t *testing.T) {
	for _, one := range []string{"x", "ab\n", strings.Repeat("l", 999) + "\n", "no\nyes\nno\n"} {
		for _, size := range []int{65535, 65536, 65537, 65538, 1 << 17} {
			long := strings.Repeat(one, size)[:size]
			want := api.OK
			if size > 65536 {
				want = api.ErrLimit
			}
			for _, c := range [][2]string{{long, ""}, {long, "x"}, {long, long}, {long, "a\n" + long[:1000]}} {
				if e := checkDiff(t, c[0], c[1]); e != want {
					t.Errorf("Diff(%s, %s): %d, not %d", cut(c[0]), cut(c[1]), e, want)
				}
			}
			if e := checkDiff(t, long[:size-900], long); e != want {
				t.Errorf("Diff(%s, %s): %d, not %d", cut(long[:size-900]), cut(long), e, want)
			}
		}
	}
	// One that is too long, whichever, and both.
	long := strings.Repeat("x", 65537)
	for _, c := range [][2]string{{long, ""}, {"", long}, {long, long}, {long, long[1:]}, {long[1:], long}} {
		if p, e := Diff(c[0], c[1]); e != api.ErrLimit || !toldSame(p, api.Push{}) {
			t.Errorf("Diff(%s, %s): %s, %d", cut(c[0]), cut(c[1]), brief(p), e)
		}
	}
	// As many lines as may be, all of them kept.
	feeds := strings.Repeat("\n", 65536)
	if p, e := Diff(feeds, feeds); e != api.OK || !toldSame(p, delta(65536, 0)) {
		t.Errorf("Diff: %s, %d", brief(p), e)
	}
	if p, e := Diff(feeds, "a\n"+feeds[2:]); e != api.OK || !toldSame(p, delta(0, 65534, "a")) {
		t.Errorf("Diff: %s, %d", brief(p), e)
	}
}

// P11.3: so many lines between those that are alike.
func TestDiffWithManyLines(t *testing.T) {
	for _, n := range []int{0, 1, 999, 1000, 1001, 1002, 2000, 30000} {
		want := api.OK
		if n > 1000 {
			want = api.ErrLimit
		}
		lines := strings.Repeat("x\n", n)
		for _, c := range [][2]string{{"", lines}, {"a\nb\n", lines}, {"a\nb\n", "a\n" + lines + "b\n"}, {"a\n", "a\n" + lines}, {"b\n", lines + "b"}} {
			if e := checkDiff(t, c[0], c[1]); e != want {
				t.Errorf("Diff(%s, %s): %d, not %d", cut(c[0]), cut(c[1]), e, want)
			}
		}
		// How many lines go makes no difference.
		if e := checkDiff(t, lines, "a\nb\n"); e != api.OK {
			t.Errorf("Diff(%s, ..): %d", cut(lines), e)
		}
	}
	short := strings.Repeat("y\n", 5000)
	for _, n := range []int{1000, 1001} {
		other := strings.Repeat("x\n", n)
		p, e := Diff(short+other[:2*500]+short, short+strings.Repeat("z\n", n)+short)
		if n == 1000 && (e != api.OK || p.Head != 5000 || p.Tail != 5000 || len(p.Lines) != 1000) || n == 1001 && (e != api.ErrLimit || !toldSame(p, api.Push{})) {
			t.Errorf("%d lines: %s, %d", n, brief(p), e)
		}
	}
}

// P11.3: packets that are no PushDelta, or none that is valid.
func TestApplyOfOtherPackets(t *testing.T) {
	for _, p := range append(samples(), api.Push{}, api.Push{Kind: 6}, api.Push{Kind: -2, Version: 2, From: 1}, api.Push{Kind: 258, Version: 2, From: 1}) {
		for _, from := range []string{"", "a\nb\nc\n"} {
			if p.Kind != api.PushDelta {
				if s, e := Apply(from, p); s != "" || e != api.ErrArg {
					t.Errorf("Apply(%q, %s): %q, %d", from, brief(p), s, e)
				}
			}
			checkApply(t, from, p)
		}
	}
	good := delta(1, 1, "x")
	for _, p := range []api.Push{
		with(good, func(p *api.Push) { p.Version = 1 }),
		with(good, func(p *api.Push) { p.From = 0 }),
		with(good, func(p *api.Push) { p.From = 2 }),
		with(good, func(p *api.Push) { p.Version = 1 << 53 }),
		with(good, func(p *api.Push) { p.Tick = -1 }),
		with(good, func(p *api.Push) { p.Tick = 1 << 53 }),
		with(good, func(p *api.Push) { p.Node = 1 }),
		with(good, func(p *api.Push) { p.Text = "t" }),
		with(good, func(p *api.Push) { p.Head = -1 }),
		with(good, func(p *api.Push) { p.Tail = -1 }),
		with(good, func(p *api.Push) { p.Head, p.Tail = -1, 1 }),
		with(good, func(p *api.Push) { p.Head, p.Tail = math.MaxInt, 1 }),
		with(good, func(p *api.Push) { p.Head, p.Tail = math.MaxInt, math.MaxInt }),
		with(good, func(p *api.Push) { p.Head, p.Tail = 1, math.MinInt }),
		with(good, func(p *api.Push) { p.Head = 65537 }),
		with(good, func(p *api.Push) { p.Tail = 65537 }),
		with(good, func(p *api.Push) { p.Lines = []string{"x\n"} }),
		with(good, func(p *api.Push) { p.Lines = []string{"\n", "x"} }),
		with(good, func(p *api.Push) { p.Lines = sized(1001, 0) }),
		with(good, func(p *api.Push) { p.Lines = sized(2, 65537) }),
	} {
		if s, e := Apply("a\nb\nc\n", p); s != "" || e != api.ErrArg {
			t.Errorf("Apply(.., %s): %q, %d", brief(p), s, e)
		}
	}
	// Version, From and Tick change nothing.
	for _, p := range []api.Push{good, with(good, func(p *api.Push) { p.Version, p.From, p.Tick = most, most-1, most }), with(good, func(p *api.Push) { p.Version, p.From, p.Tick = 9, 3, 7 })} {
		if s := applied(t, "a\nb\nc\n", p); s != "a\nx\nc\n" {
			t.Errorf("Apply(.., %s): %q", brief(p), s)
		}
	}
}

// P11.3: texts with as many lines as Head and Tail tell, with fewer, and with more.
func TestApplyToLines(t *testing.T) {
	for many := range 7 {
		lines := []string{"a", "", "c", "d", "e", "f"}[:many]
		for _, from := range []string{ended(lines), strings.TrimSuffix(ended(lines), "\n")} {
			has := len(toldLines(from))
			for head := range 9 {
				for tail := range 9 {
					for _, with := range [][]string{nil, {""}, {"x"}, {"x", "", "y"}} {
						p := delta(head, tail, with...)
						want := api.OK
						if head+tail > has {
							want = api.ErrArg
						}
						if e := checkApply(t, from, p); e != want {
							t.Errorf("Apply(%q, %s): %d, not %d", from, brief(p), e, want)
						}
					}
				}
			}
		}
	}
	feeds := strings.Repeat("\n", 65536)
	for _, c := range []struct {
		head, tail int
		e          api.Errno
	}{{65536, 0, api.OK}, {0, 65536, api.OK}, {65535, 1, api.OK}, {65536, 1, api.ErrArg}, {1, 65536, api.ErrArg}, {65536, 65536, api.ErrArg}, {40000, 25536, api.OK}, {40000, 25537, api.ErrArg}} {
		if e := checkApply(t, feeds, delta(c.head, c.tail)); e != c.e {
			t.Errorf("%d and %d lines: %d, not %d", c.head, c.tail, e, c.e)
		}
	}
}

// P11.3: texts of as many bytes as may be, and of one more, before and after.
func TestApplyOfLongTexts(t *testing.T) {
	for _, size := range []int{65535, 65536, 65537, 1 << 17} {
		x := strings.Repeat("x", size)
		for _, c := range []struct {
			from string
			p    api.Push
			e    api.Errno
		}{
			{x, delta(0, 0), api.OK},
			{x, delta(0, 0, "a"), api.OK},
			{x[1:] + "\n", delta(0, 0), api.OK},
			{x[2:] + "\na", delta(0, 1), api.OK},
			{x[2:] + "\na", delta(1, 0), api.OK},
			{strings.Repeat("\n", size), delta(1, 2, "a"), api.OK},
		} {
			want := c.e
			if size > 65536 {
				want = api.ErrArg
			}
			if e := checkApply(t, c.from, c.p); e != want {
				t.Errorf("Apply(%s, %s): %d, not %d", cut(c.from), brief(c.p), e, want)
			}
		}
	}
	for _, size := range []int{65534, 65535, 65536, 65537, 65538} {
		want := api.OK
		if size > 65536 {
			want = api.ErrLimit
		}
		x := strings.Repeat("x", size)
		for _, c := range []struct {
			from string
			p    api.Push
		}{
			{"", delta(0, 0, x[:size/2], x[size/2:size-2])},
			{"a\nb\nc\n", delta(1, 1, x[:size-5])},
			{x[:size-10], delta(1, 0, "12345678")},
			{x[:size-10] + "\n", delta(1, 0, "12345678")},
			{x[:size-10], delta(0, 1, "1234567", "")},
			{x[:size-1000], delta(1, 0, sized(999, 0)...)},
			{x[:30000] + "\n" + x[:size-30002-1000], delta(1, 1, sized(1000, 0)...)},
			{x[:30000] + "\nb\n" + x[:size-30002-10-32000], delta(1, 1, x[:32000-1], "12345678", "")},
		} {
			if e := checkApply(t, c.from, c.p); e != want {
				t.Errorf("Apply(%s, %s), a result of %d bytes: %d, not %d", cut(c.from), brief(c.p), size, e, want)
			}
		}
	}
	// A text without a line feed at its end gets one, for which there may be no room.
	for _, p := range []api.Push{delta(1, 0), delta(0, 1)} {
		if e := checkApply(t, strings.Repeat("x", 65535), p); e != api.OK {
			t.Error(brief(p), e)
		}
		if e := checkApply(t, strings.Repeat("x", 65536), p); e != api.ErrLimit {
			t.Error(brief(p), e)
		}
	}
	// What may not be applied comes ahead of what it would make.
	if e := checkApply(t, "", delta(0, 1, strings.Repeat("x", 65536))); e != api.ErrArg {
		t.Error(e)
	}
	if e := checkApply(t, "a", delta(0, 1, strings.Repeat("x", 65536))); e != api.ErrLimit {
		t.Error(e)
	}
	// A line of as many bytes as may be, which has no room for its line feed.
	if e := checkApply(t, "", delta(0, 0, strings.Repeat("x", 65536))); e != api.ErrLimit {
		t.Error(e)
	}
}

// P11.6: the difference of a text and itself has no Lines, and keeps all.
func TestDiffWithItself(t *testing.T) {
	for _, s := range append(texts([]string{"a", "\n", "\x00", "é"}, 5), strings.Repeat("x\n", 32768), strings.Repeat("\n", 65536), strings.Repeat("x", 65535)) {
		p, e := Diff(s, s)
		if e != api.OK || len(p.Lines) != 0 || p.Tail != 0 || p.Head != len(toldLines(s)) {
			t.Errorf("Diff(%s, the same): %s, %d", cut(s), brief(p), e)
		}
		if got := applied(t, s, p); got != ended(toldLines(s)) {
			t.Errorf("%s: %s", cut(s), cut(got))
		}
	}
}

// P11.6: a row of versions, each one made of the one ahead of it.
func TestVersionsInARow(t *testing.T) {
	all := []string{"label low\n", "label low\nlabel high\nbelow low high\n", "label low\nlabel high\nbelow low high\nwork a low 1\n", "label low\nwork a low 1", "", "work a low 1\n\n\nlabel low"}
	has := ""
	for _, next := range append(all, backwards(all)...) {
		p, e := Diff(has, next)
		if e != api.OK {
			t.Fatalf("Diff(%q, %q): %d", has, next, e)
		}
		has = applied(t, has, p)
		if has != ended(toldLines(next)) {
			t.Errorf("%q, not %q", has, next)
		}
	}
}

func backwards(all []string) []string {
	all = slices.Clone(all)
	slices.Reverse(all)
	return all
}

package store

import (
	"fmt"
	"math"
	"strings"
	"testing"

	"chinoiserie/api"
	"chinoiserie/push"
)

const (
	textA = "label low\nwork a low 1"
	textB = "label low\nwork a low 2"
)

// The chapter's examples.
func TestExamples(t *testing.T) {
	s := New()
	if s.Latest() != 0 {
		t.Error(s.Latest())
	}
	for _, c := range []struct {
		text          string
		version, line int
		e             api.Errno
	}{{textA, 1, 0, api.OK}, {textB, 2, 0, api.OK}, {"work a", 0, 1, api.ErrForm}, {"label low", 0, 0, api.ErrPolicy}} {
		if v, line, e := s.Put(c.text); v != c.version || line != c.line || e != c.e {
			t.Errorf("Put(%q): %d, %d, %d", c.text, v, line, e)
		}
	}
	if s.Latest() != 2 {
		t.Error(s.Latest())
	}
	if text, e := s.Text(2); text != "label low\nwork a low 2\n" || e != api.OK {
		t.Errorf("%q, %d", text, e)
	}
	if text, e := s.Text(3); text != "" || e != api.ErrRange {
		t.Errorf("%q, %d", text, e)
	}
	if p, e := s.Delta(1, 2, 5); e != api.OK || !samePush(p, api.Push{Kind: api.PushDelta, Version: 2, From: 1, Tick: 5, Head: 1, Lines: []string{"work a low 2"}}) {
		t.Errorf("%+v, %d", p, e)
	}
	if p, e := s.Best(2, 6); e != api.OK || !samePush(p, api.Push{Kind: api.PushRenew, Version: 2, Tick: 6}) {
		t.Errorf("%+v, %d", p, e)
	}
	if p, e := s.Best(7, 6); e != api.OK || !samePush(p, api.Push{Kind: api.PushFull, Version: 2, Tick: 6, Text: "label low\nwork a low 2\n"}) {
		t.Errorf("%+v, %d", p, e)
	}
	if p, e := s.Best(0, -1); e != api.ErrArg || !samePush(p, api.Push{}) {
		t.Errorf("%+v, %d", p, e)
	}
	checkStore(t, "the examples", s, told{textA + "\n", textB + "\n"})
}

// All methods of a nil and of a zero Store, whatever their arguments are.
func TestNilAndZero(t *testing.T) {
	for _, s := range []*Store{nil, {}} {
		for _, text := range []string{textA, textB, "", "work a", strings.Repeat("x", 65537)} {
			if v, line, e := s.Put(text); v != 0 || line != 0 || e != api.ErrNil {
				t.Errorf("Put(%s): %d, %d, %d", cut(text), v, line, e)
			}
		}
		if s.Latest() != 0 {
			t.Error(s.Latest())
		}
		for _, v := range (told{}).around() {
			if text, e := s.Text(v); text != "" || e != api.ErrNil {
				t.Errorf("%q, %d", text, e)
			}
			if made, e := s.Snap(v); made != nil || e != api.ErrNil {
				t.Errorf("%v, %d", made, e)
			}
			for _, tick := range ticks {
				none := func(int) (api.Push, api.Errno) { return api.Push{}, api.ErrNil }
				checkPush(t, "Full ", []int{tick}, func(int) (api.Push, api.Errno) { return s.Full(v, tick) }, none)
				checkPush(t, "Best ", []int{tick}, func(int) (api.Push, api.Errno) { return s.Best(v, tick) }, none)
				for _, to := range (told{}).around() {
					checkPush(t, "Delta ", []int{tick}, func(int) (api.Push, api.Errno) { return s.Delta(v, to, tick) }, none)
				}
			}
		}
	}
}

// P12.1 to P12.3: a store without versions; two stores have nothing in common.
func TestNew(t *testing.T) {
	one, two := New(), New()
	if one == nil || two == nil {
		t.Fatal("none")
	}
	checkStore(t, "a new store", one, nil)
	d := checkPut(t, one, nil, textA)
	checkStore(t, "the other one", two, nil)
	checkPut(t, two, nil, "label high")
	checkStore(t, "the first one", one, d)
	checkStore(t, "the other one", two, told{"label high\n"})
}

// A text with something of each kind.
const rich = `label low
label mid
label high
below low mid
below mid high
source web low high
source app mid mid
dest x.example low
dest y.example high
work a low 1
work b mid 2
work c high 3
route a.mesh / a 1
route b.mesh /x b 2
call a b
call b c
grant g b mid low /sum
grant h c high mid /
allow *.example
allow a.b
`

// with is the rich text with a piece put in another one's place.
func with(piece, other string) string {
	if !strings.Contains(rich, piece) {
		panic(piece)
	}
	return strings.Replace(rich, piece, other, 1)
}

// P12.1: texts of which no snapshot can be made, put into a store without versions and into one with some.
func TestPutOfWrongTexts(t *testing.T) {
	for _, c := range []struct {
		text string
		line int
		e    api.Errno
	}{
		{"", 0, api.ErrArg},
		{"\n\n# nothing\n", 0, api.ErrArg},
		{"labels low", 1, api.ErrForm},
		{"label low\nwork a low", 2, api.ErrForm},
		{"label low\nwork a low 1 1", 2, api.ErrForm},
		{"label low\n\nwork a low 01", 3, api.ErrForm},
		{"label low\nwork a low 9007199254740992", 2, api.ErrRange},
		{"label low\nwork a low 65", 0, api.ErrArg},
		{"label low\nwork a low 1\nwork b mid 1", 3, api.ErrName},
		{"label low\nlabel low", 2, api.ErrName},
		{"label low\nwork a low 1\nwork a low 1", 0, api.ErrName},
		{"label low\nlabel high", 0, api.ErrLattice},
		{"label low\nbelow low low", 0, api.ErrCycle},
		{"label low\nwork a low 1\ncall a a", 0, api.ErrCycle},
		{"label low\nwork a low 1\nroute a..b / a 1", 0, api.ErrHost},
		{"label low\nwork a low 1\nroute a.b a a 1", 0, api.ErrForm},
		{"label low\ndest a.b low\nwork a low 1\nroute a.b / a 1", 0, api.ErrPolicy},
		{"label low\n" + strings.Repeat("allow a\n", 7), 8, api.ErrLimit},
		{strings.Repeat("#", 65537), 0, api.ErrLimit},
		{textA + strings.Repeat("\n", 65537-len(textA)), 0, api.ErrLimit},
		{"label low\twork", 1, api.ErrForm},
		{with("allow a.b", "allow *"), 0, api.ErrHost},
		{with("work c high 3", "work c high"), 12, api.ErrForm},
		{with("work c high 3", "work d high 0"), 16, api.ErrName},
	} {
		empty, some := New(), New()
		has := checkPut(t, some, checkPut(t, some, nil, textA), textB)
		for _, s := range []*Store{empty, some} {
			if v, line, e := s.Put(c.text); v != 0 || line != c.line || e != c.e {
				t.Errorf("Put(%s): %d, %d, %d, not %d, %d", cut(c.text), v, line, e, c.line, c.e)
			}
		}
		checkStore(t, "refused", empty, nil)
		checkStore(t, "refused", some, has)
		// Nothing of what was refused is left.
		checkPut(t, empty, nil, textA)
		checkPut(t, some, has, textB)
	}
}

// P12.1: a text of as many bytes as may be.
func TestPutOfLongText(t *testing.T) {
	s := New()
	d := checkPut(t, s, nil, textA+strings.Repeat("\n", 65536-len(textA)))
	d = checkPut(t, s, d, "#"+strings.Repeat(" ", 65536-len(textB)-2)+"\n"+textB)
	checkStore(t, "long texts", s, d)
	if len(d) != 2 || d[1] != textB+"\n" {
		t.Error(d)
	}
}

// P12.1: policies that do not continue that of version 1.
func TestPutOfWhatDoesNotContinue(t *testing.T) {
	s := New()
	d := checkPut(t, s, nil, rich)
	for _, text := range []string{
		textA,
		"label low",
		// One name is another one.
		strings.ReplaceAll(rich, " low", " lo"),
		strings.ReplaceAll(rich, "mid", "middle"),
		strings.ReplaceAll(rich, "high", "top"),
		strings.NewReplacer("work a", "work d", "/ a", "/ d", "call a", "call d").Replace(rich),
		strings.NewReplacer("work b", "work d", "/x b", "/x d", "call a b", "call a d", "call b", "call d", "g b", "g d").Replace(rich),
		strings.NewReplacer("work c", "work d", "call b c", "call b d", "h c", "h d").Replace(rich),
		// Names in another order.
		with("label low\nlabel mid\n", "label mid\nlabel low\n"),
		with("label mid\nlabel high\n", "label high\nlabel mid\n"),
		with("label low\nlabel mid\nlabel high\n", "label high\nlabel mid\nlabel low\n"),
		with("work a low 1\nwork b mid 2\n", "work b mid 2\nwork a low 1\n"),
		with("work b mid 2\nwork c high 3\n", "work c high 3\nwork b mid 2\n"),
		with("work a low 1\nwork b mid 2\nwork c high 3\n", "work c low 1\nwork a mid 2\nwork b high 3\n"),
		// The names change places, and nothing else.
		strings.NewReplacer(" low", " mid", " mid", " low").Replace(rich),
		with("work a low 1\nwork b mid 2\n", "work b low 1\nwork a mid 2\n"),
		// One more.
		with("label high\n", "label high\nlabel top\nbelow high top\n"),
		with("label low\n", "label bottom\nlabel low\nbelow bottom low\n"),
		rich + "label top\nbelow high top\n",
		rich + "work d low 1\n",
		with("work a low 1\n", "work d low 1\nwork a low 1\n"),
		rich + "below low high\n",
		// One fewer, or none.
		"label low\nlabel mid\nbelow low mid\nwork a low 1\nwork b low 1\nwork c low 1\n",
		"label low\nlabel mid\nlabel high\nbelow low mid\nbelow mid high\nwork a low 1\nwork b low 1\n",
		"label low\nlabel mid\nlabel high\nbelow low mid\nbelow mid high\nwork b low 1\nwork c low 1\n",
		"label low\nlabel mid\nlabel high\nbelow low mid\nbelow mid high\n",
		// Other pairs, or in another order, or turned round.
		with("below low mid\nbelow mid high\n", "below mid high\nbelow low mid\n"),
		"label low\nlabel mid\nlabel high\nbelow mid low\nbelow low high\nwork a low 1\nwork b low 1\nwork c low 1\n",
		"label low\nlabel mid\nlabel high\nbelow mid low\nbelow high mid\nwork a low 1\nwork b low 1\nwork c low 1\n",
		with("below mid high\n", "below low high\nbelow mid high\n"),
		with("below mid high\n", "below mid high\nbelow low high\n"),
		with("below low mid\n", "below low high\nbelow low mid\n"),
	} {
		if v, line, e := s.Put(text); v != 0 || line != 0 || e != api.ErrPolicy {
			t.Errorf("Put(%s): %d, %d, %d", cut(text), v, line, e)
		}
		checkPut(t, s, d, text)
		if s.Latest() != 1 {
			t.Fatal(s.Latest())
		}
	}
	checkStore(t, "only version 1", s, d)
	// It is version 1 that counts, and it stays so: what a store with that has refused may be another one's first.
	other := New()
	checkPut(t, other, checkPut(t, other, nil, textB), rich)
	checkStore(t, "the other one", other, told{textB + "\n"})
}

// P12.1: policies that differ from that of version 1 in all that may change.
func TestPutOfWhatContinues(t *testing.T) {
	s := New()
	d := checkPut(t, s, nil, rich)
	kept := "label low\nlabel mid\nlabel high\nbelow low mid\nbelow mid high\n"
	for i, text := range []string{
		rich,
		kept + "work a low 1\nwork b mid 2\nwork c high 3\n",
		kept + "source new high low\ndest z mid\nwork a high 64\nwork b high 63\nwork c low 62\nroute c.mesh /y c 100\ncall c b\ncall b a\ngrant i a high low /z\nallow z\nallow *.z\n",
		// Kinds of lines in another order, with a line of each label as late as may be.
		"label low\nwork a low 1\nlabel mid\nwork b low 1\nlabel high\nwork c low 1\nbelow low mid\nbelow mid high\n",
		"allow z\n" + kept + "work a low 1\nwork b mid 2\nwork c high 3\nsource s low low\n",
		// The order of others is theirs.
		with("source web low high\nsource app mid mid\n", "source app mid mid\nsource web low high\n"),
		with("call a b\ncall b c\n", "call b c\ncall a b\n"),
		with("allow *.example\nallow a.b\n", "allow a.b\nallow *.example\n"),
		rich,
	} {
		if v, line, e := s.Put(text); v != i+2 || line != 0 || e != api.OK {
			t.Fatalf("Put(%s): %d, %d, %d", cut(text), v, line, e)
		}
		d, _, _, _ = d.put(text)
		checkStore(t, fmt.Sprint("after ", i+2), s, d)
	}
	if d[0] != rich || d[len(d)-1] != rich {
		t.Errorf("%q", d)
	}
	// A policy without workloads continues another one.
	s = New()
	d = checkPut(t, s, checkPut(t, s, nil, "label l\n"), "label l\nallow a\n")
	if v, _, e := s.Put("label l\nwork a l 1\n"); v != 0 || e != api.ErrPolicy {
		t.Error(v, e)
	}
	checkStore(t, "without workloads", s, d)
}

// P12.5: lines of nothing, remarks and more blanks are not kept, and change nothing.
func TestTextIsThatOfTheSnapshot(t *testing.T) {
	s := New()
	var d told
	for _, text := range []string{
		textA,
		textA + "\n",
		"\n\nlabel low\n   \n#work a low 1\n  work   a  low 1  \n\n\n",
		"# a remark\nlabel  low\n# another one\nwork a low   1\n#",
		"\nlabel low\nwork a low 1\n \n",
	} {
		d = checkPut(t, s, d, text)
		if got, e := s.Text(s.Latest()); got != "label low\nwork a low 1\n" || e != api.OK {
			t.Errorf("%q: %q, %d", text, got, e)
		}
	}
	d = checkPut(t, s, d, "label low\nallow z\nwork a low 1\nsource s low low\n")
	if got, e := s.Text(6); got != "label low\nsource s low low\nwork a low 1\nallow z\n" || e != api.OK {
		t.Errorf("%q, %d", got, e)
	}
	checkStore(t, "blanks", s, d)
	// Between versions that differ in these alone there is no difference.
	for from := 1; from < 5; from++ {
		if p, e := s.Delta(from, 5, 0); e != api.OK || p.Head != 2 || p.Tail != 0 || len(p.Lines) != 0 {
			t.Errorf("%d: %+v, %d", from, p, e)
		}
	}
}

// P12.1: as many versions as may be, and one more; that there are too many comes first.
func TestManyVersions(t *testing.T) {
	s := New()
	var d told
	for i := range 1000 {
		if i == 999 {
			checkPut(t, s, d, "work a")
			checkPut(t, s, d, "label high")
		}
		d = checkPut(t, s, d, fmt.Sprintf("label low\nsource s%d low low\nwork a low %d\nallow a%d\n", i%7, 1+i%64, i))
	}
	if len(d) != 1000 {
		t.Fatal(len(d))
	}
	checkStore(t, "1000 versions", s, d)
	for _, text := range []string{textA, d[0], d[999], "", "work a", "label low\nlabel high", "label high\nwork a high 1", "label low", strings.Repeat("x", 65537)} {
		if v, line, e := s.Put(text); v != 0 || line != 0 || e != api.ErrLimit {
			t.Errorf("Put(%s): %d, %d, %d", cut(text), v, line, e)
		}
	}
	checkStore(t, "1000 versions, still", s, d)
	for v := 1; v <= 1000; v++ {
		checkVersion(t, "each one", s, d, v)
		checkPush(t, fmt.Sprint("Best for ", v, " at "), []int{v}, func(tick int) (api.Push, api.Errno) { return s.Best(v, tick) }, func(tick int) (api.Push, api.Errno) { return d.best(v, tick) })
	}
}

// P12.1: what is wrong in the text comes ahead of what it does not continue.
func TestOrderOfErrors(t *testing.T) {
	s := New()
	d := checkPut(t, s, nil, rich)
	for _, c := range []struct {
		text string
		line int
		e    api.Errno
	}{{"label other\nwork", 2, api.ErrForm}, {"label a\nlabel b", 0, api.ErrLattice}, {"label other\nwork a other 0", 0, api.ErrArg}, {"label other\nwork a other 1", 0, api.ErrPolicy}} {
		if v, line, e := s.Put(c.text); v != 0 || line != c.line || e != c.e {
			t.Errorf("Put(%q): %d, %d, %d", c.text, v, line, e)
		}
	}
	d = checkPut(t, s, d, with("work c high 3", "work c high 4"))
	// P12.2, P12.3: versions come ahead of ticks.
	for _, tick := range []int{math.MinInt, -1, mostTick + 1, math.MaxInt} {
		for _, c := range []struct {
			name string
			got  func() (api.Push, api.Errno)
			want api.Errno
		}{
			{"Full(0)", func() (api.Push, api.Errno) { return s.Full(0, tick) }, api.ErrRange},
			{"Full(3)", func() (api.Push, api.Errno) { return s.Full(3, tick) }, api.ErrRange},
			{"Full(2)", func() (api.Push, api.Errno) { return s.Full(2, tick) }, api.ErrArg},
			{"Delta(2, 1)", func() (api.Push, api.Errno) { return s.Delta(2, 1, tick) }, api.ErrRange},
			{"Delta(1, 1)", func() (api.Push, api.Errno) { return s.Delta(1, 1, tick) }, api.ErrRange},
			{"Delta(0, 1)", func() (api.Push, api.Errno) { return s.Delta(0, 1, tick) }, api.ErrRange},
			{"Delta(2, 3)", func() (api.Push, api.Errno) { return s.Delta(2, 3, tick) }, api.ErrRange},
			{"Delta(1, 2)", func() (api.Push, api.Errno) { return s.Delta(1, 2, tick) }, api.ErrArg},
			{"Best(0)", func() (api.Push, api.Errno) { return s.Best(0, tick) }, api.ErrArg},
			{"Best(2)", func() (api.Push, api.Errno) { return s.Best(2, tick) }, api.ErrArg},
			{"Best(9)", func() (api.Push, api.Errno) { return s.Best(9, tick) }, api.ErrArg},
			{"Best of none", func() (api.Push, api.Errno) { return New().Best(0, tick) }, api.ErrRange},
		} {
			if p, e := c.got(); e != c.want || !samePush(p, api.Push{}) {
				t.Errorf("%s at %d: %+v, %d, not %d", c.name, tick, p, e, c.want)
			}
		}
	}
	checkStore(t, "after errors", s, d)
}

// P12.3: a difference with fewer bytes than the whole, with as many, and with more.
func TestBestBySize(t *testing.T) {
	for _, c := range []struct {
		name string // of a source, in a line that stays
		less int    // how many bytes the difference has less
		kind int
	}{{"s", -1, api.PushFull}, {"ss", 0, api.PushFull}, {"sss", 1, api.PushDelta}, {"ssss", 2, api.PushDelta}} {
		s := New()
		var d told
		for quota := range 3 {
			d = checkPut(t, s, d, fmt.Sprintf("label l\nsource %s l l\nwork a l %d\n", c.name, quota+1))
		}
		for have := 1; have < 3; have++ {
			full, _ := s.Full(3, 4)
			delta, _ := s.Delta(have, 3, 4)
			f, _ := push.Bytes(full)
			b, _ := push.Bytes(delta)
			if len(f)-len(b) != c.less {
				t.Errorf("%d and %d bytes", len(f), len(b))
			}
			p, e := s.Best(have, 4)
			if e != api.OK || p.Kind != c.kind || p.Version != 3 || p.Tick != 4 {
				t.Errorf("%s: %+v, %d", c.name, p, e)
			}
		}
		checkStore(t, c.name, s, d)
	}
	// The difference of two texts that are equal, one short and one long.
	for text, kind := range map[string]int{"label l\n": api.PushFull, rich: api.PushDelta} {
		s := New()
		d := checkPut(t, s, checkPut(t, s, nil, text), text)
		if p, e := s.Best(1, 0); e != api.OK || p.Kind != kind || p.Version != 2 {
			t.Errorf("%+v, %d", p, e)
		}
		checkStore(t, "twice", s, d)
	}
}

// P12.3: whatever a node says that it has.
func TestBestOfWhatIsNotOlder(t *testing.T) {
	s := New()
	var d told
	for quota := range 5 {
		d = checkPut(t, s, d, with("work c high 3", fmt.Sprint("work c high ", quota+1)))
	}
	for _, c := range []struct{ have, kind int }{
		{math.MinInt, api.PushFull}, {-5, api.PushFull}, {-1, api.PushFull}, {0, api.PushFull},
		{1, api.PushDelta}, {2, api.PushDelta}, {4, api.PushDelta}, {5, api.PushRenew},
		{6, api.PushFull}, {1000, api.PushFull}, {mostTick, api.PushFull}, {math.MaxInt, api.PushFull},
	} {
		if p, e := s.Best(c.have, 9); e != api.OK || p.Kind != c.kind || p.Version != 5 {
			t.Errorf("Best(%d, 9): %+v, %d", c.have, p, e)
		}
	}
	checkStore(t, "five versions", s, d)
}

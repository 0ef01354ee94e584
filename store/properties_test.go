package store

import (
	"fmt"
	"math/rand"
	"strings"
	"testing"

	"chinoiserie/api"
	"chinoiserie/push"
)

// someText is a policy's text whose labels, pairs and workloads' names are always the same (if not other), with the rest at random, in lines that may have more blanks and others between them.
func someText(r *rand.Rand, other bool) string {
	labels := []string{"low", "left", "right", "high"}
	works := []string{"a", "b", "c"}
	label := func() string { return labels[r.Intn(len(labels))] }
	lines := []string{"label low", "label left", "label right", "label high", "below low left", "below low right", "below left high", "below right high"}
	some := func(most int, line func(i int) string) {
		for _, i := range r.Perm(most)[:r.Intn(most+1)] {
			lines = append(lines, line(i))
		}
	}
	some(6, func(i int) string { return fmt.Sprint("source s", i, " ", label(), " ", label()) })
	some(3, func(i int) string { return fmt.Sprint("dest d", i, ".example ", label()) })
	if other {
		works[r.Intn(3)] = "d"
	}
	for _, work := range works {
		lines = append(lines, fmt.Sprint("work ", work, " ", label(), " ", 1+r.Intn(64)))
	}
	some(12, func(i int) string { return fmt.Sprint("route r", i, ".mesh / ", works[r.Intn(3)], " ", 1+r.Intn(100)) })
	some(3, func(i int) string { return fmt.Sprint("call ", works[i/2], " ", works[1+(i+1)/2]) })
	some(6, func(i int) string { return fmt.Sprint("grant g", i, " ", works[r.Intn(3)], " high low /", i) })
	some(6, func(i int) string { return fmt.Sprint("allow *.d", i) })
	return loose(r, lines)
}

// loose is some lines with more blanks in them, and with ones of nothing and remarks between them.
func loose(r *rand.Rand, lines []string) string {
	var b strings.Builder
	for _, line := range lines {
		switch r.Intn(20) {
		case 0:
			b.WriteString("\n")
		case 1:
			b.WriteString("# label x\n")
		case 2:
			line = " " + strings.ReplaceAll(line, " ", "  ") + " "
		}
		b.WriteString(line + "\n")
	}
	return b.String()
}

// somePut is a text to put: most often one that continues others, and sometimes nearly that of the last version.
func somePut(r *rand.Rand, d told) string {
	switch r.Intn(12) {
	case 0:
		return someText(r, true)
	case 1:
		return someText(r, false) + "labels"
	case 2:
		return strings.Replace(someText(r, false), "label right", "label other", 1)
	case 3, 4, 5, 6:
		if len(d) > 0 {
			last := d[len(d)-1]
			return strings.Replace(last, "work c ", fmt.Sprint("source z", r.Intn(5), " low low\nwork c "), r.Intn(2))
		}
	}
	return someText(r, false)
}

// P12.1 to P12.5: stores into which much is put, held against what the document says.
func TestManyStores(t *testing.T) {
	r := rand.New(rand.NewSource(12))
	for i := range 12 {
		s := New()
		var d told
		for range 25 {
			d = checkPut(t, s, d, somePut(r, d))
		}
		checkStore(t, fmt.Sprint(i), s, d)
		if len(d) < 5 {
			t.Errorf("%d: %d versions only", i, len(d))
		}
	}
}

// P12.5: a version's text, and what its snapshot answers, stay the same, whatever is put behind it and asked.
func TestVersionsNeverChange(t *testing.T) {
	r := rand.New(rand.NewSource(5))
	s := New()
	var texts []string
	for i := range 60 {
		v, _, e := s.Put(somePut(r, texts))
		if e == api.OK {
			text, _ := s.Text(v)
			texts = append(texts, text)
		}
		s.Best(r.Intn(70), i)
		s.Delta(r.Intn(70), r.Intn(70), i)
		for v := range texts {
			checkVersion(t, fmt.Sprint("after ", i), s, texts, v+1)
		}
	}
	// Its snapshot's text makes the same version.
	for v, text := range texts {
		made, _ := s.Snap(v + 1)
		other := New()
		checkPut(t, other, nil, made.Text())
		checkStore(t, fmt.Sprint("again ", v+1), other, told{text})
	}
}

// node is what a node does with what it is sent: it has a version's text.
type node struct {
	version int
	text    string
}

// got takes a packet as it comes, as bytes.
func (n *node) got(t *testing.T, p api.Push) {
	t.Helper()
	b, e := push.Bytes(p)
	if e != api.OK {
		t.Fatalf("%+v: %d", p, e)
	}
	p, e = push.Parse(b)
	if e != api.OK {
		t.Fatalf("%+v: %d", p, e)
	}
	switch {
	case p.Kind == api.PushFull:
		n.version, n.text = p.Version, p.Text
	case p.Kind == api.PushDelta && p.From == n.version:
		text, e := push.Apply(n.text, p)
		if e != api.OK {
			t.Fatalf("%+v: %d", p, e)
		}
		n.version, n.text = p.Version, text
	case p.Kind != api.PushRenew || p.Version != n.version:
		t.Fatalf("%+v is of no use with version %d", p, n.version)
	}
}

// P12.6: each Delta, applied to the elder text, makes the newer one.
func TestDeltaMakesTheNewerOne(t *testing.T) {
	r := rand.New(rand.NewSource(6))
	for range 4 {
		s := New()
		var d told
		for range 20 {
			d = checkPut(t, s, d, somePut(r, d))
		}
		for to := 1; to <= len(d); to++ {
			for from := 1; from < to; from++ {
				p, e := s.Delta(from, to, r.Intn(9))
				if e != api.OK {
					t.Fatalf("Delta(%d, %d): %d", from, to, e)
				}
				n := node{from, d[from-1]}
				n.got(t, p)
				if n.version != to || n.text != d[to-1] {
					t.Errorf("Delta(%d, %d) makes %d, %q, not %q", from, to, n.version, n.text, d[to-1])
				}
			}
		}
	}
}

// P12.6: nodes with whichever version, or none, have the latest one after what Best returns, which has at most as many bytes as the Full.
func TestBestMakesTheLatestOne(t *testing.T) {
	r := rand.New(rand.NewSource(60))
	kinds := map[int]int{}
	for i := range 4 {
		s := New()
		var d told
		nodes := make([]node, 7)
		for tick := range 60 {
			d = checkPut(t, s, d, somePut(r, d))
			for j := range nodes {
				if len(d) == 0 || r.Intn(4) > 0 {
					continue
				}
				p, e := s.Best(nodes[j].version, tick)
				if e != api.OK {
					t.Fatalf("Best(%d, %d): %d", nodes[j].version, tick, e)
				}
				full, _ := s.Full(len(d), tick)
				if reckoned(p) > reckoned(full) {
					t.Errorf("%+v has more bytes than %+v", p, full)
				}
				kinds[p.Kind]++
				nodes[j].got(t, p)
				if nodes[j] != (node{len(d), d[len(d)-1]}) {
					t.Fatalf("%d: the node has %+v, not %q", i, nodes[j], d[len(d)-1])
				}
			}
		}
	}
	for _, kind := range []int{api.PushFull, api.PushDelta, api.PushRenew} {
		if kinds[kind] < 20 {
			t.Errorf("%v", kinds)
		}
	}
}

// P12.6: the Full is at least as many bytes as what Best returns for any version, also for ones that are none.
func TestBestIsAtMostTheFull(t *testing.T) {
	r := rand.New(rand.NewSource(61))
	for range 10 {
		s := New()
		var d told
		for range 10 {
			d = checkPut(t, s, d, somePut(r, d))
		}
		full, _ := s.Full(len(d), 3)
		f, _ := push.Bytes(full)
		for _, have := range d.around() {
			p, e := s.Best(have, 3)
			b, _ := push.Bytes(p)
			if e != api.OK || len(b) > len(f) {
				t.Errorf("Best(%d, 3): %+v, %d", have, p, e)
			}
		}
	}
}

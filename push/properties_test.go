package push

import (
	"math"
	"math/rand"
	"slices"
	"strings"
	"testing"

	"chinoiserie/api"
)

// someNumber is one from low to high: often near one of both.
func someNumber(r *rand.Rand, low, high int) int {
	switch r.Intn(4) {
	case 0:
		return min(high, low+r.Intn(3))
	case 1:
		return max(low, high-r.Intn(3))
	case 2:
		return min(high, low+r.Intn(1<<(1+r.Intn(50))))
	}
	return low + r.Intn(high-low+1)
}

func someText(r *rand.Rand, most int) string {
	b := make([]byte, r.Intn(most+1))
	for i := range b {
		b[i] = "ab \n\r\x00\xff\n"[r.Intn(8)]
	}
	return string(b)
}

func someLines(r *rand.Rand, most int) []string {
	all := make([]string, r.Intn(most+1))
	for i := range all {
		all[i] = strings.ReplaceAll(someText(r, 9), "\n", "")
	}
	return all
}

// somePush is some packet that is valid.
func somePush(r *rand.Rand) api.Push {
	p := api.Push{Kind: 1 + r.Intn(5)}
	switch p.Kind {
	case api.PushFull:
		p.Version, p.Tick, p.Text = someNumber(r, 1, most), someNumber(r, 0, most), someText(r, 40)
	case api.PushDelta:
		p.Version, p.Tick, p.Head, p.Tail = someNumber(r, 2, most), someNumber(r, 0, most), someNumber(r, 0, 65536), someNumber(r, 0, 65536)
		p.From, p.Lines = someNumber(r, 1, p.Version-1), someLines(r, 5)
	case api.PushRenew:
		p.Version, p.Tick = someNumber(r, 1, most), someNumber(r, 0, most)
	default:
		p.Version, p.Node = someNumber(r, 0, most), someNumber(r, 0, 6)
	}
	return p
}

// other is a packet with one other field, which may be one that it must not have.
func other(r *rand.Rand, p api.Push) api.Push {
	n := []int{math.MinInt, -1, 0, 1, 2, 3, 6, 7, 256, 65536, 65537, most, most + 1, math.MaxInt}[r.Intn(14)]
	switch r.Intn(9) {
	case 0:
		p.Kind = n
	case 1:
		p.Version = n
	case 2:
		p.From = n
	case 3:
		p.Node = n
	case 4:
		p.Tick = n
	case 5:
		p.Head = n
	case 6:
		p.Tail = n
	case 7:
		p.Text = someText(r, 3)
	case 8:
		p.Lines = strings.SplitAfter(someText(r, 6), " ")
	}
	return p
}

// P11.1, P11.5: a packet that is valid is parsed from its encoding unchanged; what is like it is told right.
func TestSomePackets(t *testing.T) {
	r := rand.New(rand.NewSource(11))
	valid := 0
	for range 5000 {
		p := somePush(r)
		checkValid(t, p, true)
		if q, e := Parse(bytesOf(t, p)); e != api.OK || !Same(p, q) {
			t.Errorf("%s is parsed as %s, %d", brief(p), brief(q), e)
		}
		for range 10 {
			q := other(r, p)
			is := toldValid(q)
			checkValid(t, q, is)
			if Same(p, q) != toldSame(p, q) || Same(q, p) != toldSame(p, q) {
				t.Errorf("%s and %s: %t", brief(p), brief(q), !toldSame(p, q))
			}
			if is {
				valid++
			}
		}
	}
	if valid < 5000 || valid > 45000 {
		t.Error("valid:", valid)
	}
}

// edited are bytes with one or more of them turned, lost, doubled or added.
func edited(r *rand.Rand, b []byte) []byte {
	b = slices.Clone(b)
	for range 1 + r.Intn(3) {
		i := r.Intn(len(b))
		switch r.Intn(5) {
		case 0:
			b[i] = byte(r.Intn(256))
		case 1:
			b[i] += byte(r.Intn(5) - 2)
		case 2:
			b = append(slices.Delete(b, i, i+1), 0)
		case 3:
			b = slices.Insert(b, i, byte(r.Intn(3)))
		case 4:
			j := r.Intn(len(b))
			b[i], b[j] = b[j], b[i]
		}
	}
	return b
}

// P11.2, P11.5: bytes that are like those of a packet, against another reading of the document.
func TestSomeBytes(t *testing.T) {
	r := rand.New(rand.NewSource(112))
	met := map[api.Errno]int{}
	for range 3000 {
		b := bytesOf(t, somePush(r))
		for range 20 {
			met[checkTold(t, edited(r, b))]++
		}
	}
	for _, e := range []api.Errno{api.OK, api.ErrTrunc, api.ErrForm, api.ErrLimit} {
		if met[e] < 1000 {
			t.Errorf("%d was met %d times", e, met[e])
		}
	}
}

// P11.3, P11.6: a text, and one that was made of it by some changes of lines.
func TestSomeDifferences(t *testing.T) {
	r := rand.New(rand.NewSource(116))
	for range 20000 {
		lines := someLines(r, 12)
		from := ended(lines)
		for range r.Intn(4) {
			i := r.Intn(len(lines) + 1)
			j := min(len(lines), i+r.Intn(4))
			lines = slices.Replace(slices.Clone(lines), i, j, someLines(r, 3)...)
		}
		to := ended(lines)
		if r.Intn(2) == 0 {
			to = strings.TrimSuffix(to, "\n")
		}
		if e := checkDiff(t, from, to); e != api.OK {
			t.Errorf("Diff(%q, %q): %d", from, to, e)
			continue
		}
		p, _ := Diff(from, to)
		if got := applied(t, from, p); got != ended(toldLines(to)) {
			t.Errorf("%q to %q: %q", from, to, got)
		}
		// Neither more lines at the beginning nor, then, at the end are equal.
		old, made := toldLines(from), toldLines(to)
		if p.Head < min(len(old), len(made)) && old[p.Head] == made[p.Head] {
			t.Errorf("%q to %q: %s", from, to, brief(p))
		}
		if left := min(len(old), len(made)) - p.Head; p.Tail < left && old[len(old)-1-p.Tail] == made[len(made)-1-p.Tail] {
			t.Errorf("%q to %q: %s", from, to, brief(p))
		}
	}
}

package policy

import (
	"fmt"
	"slices"
	"strings"
	"testing"
	"unsafe"

	"chinoiserie/api"
)

// texts are pointers to all texts of a policy.
func texts(p *api.Policy) []*string {
	var all []*string
	for i := range p.Labels {
		all = append(all, &p.Labels[i])
	}
	for i := range p.Sources {
		all = append(all, &p.Sources[i].Name)
	}
	for i := range p.Dests {
		all = append(all, &p.Dests[i].Host)
	}
	for i := range p.Works {
		all = append(all, &p.Works[i].Name)
	}
	for i := range p.Routes {
		all = append(all, &p.Routes[i].Host, &p.Routes[i].Prefix)
	}
	for i := range p.Grants {
		all = append(all, &p.Grants[i].Name, &p.Grants[i].Prefix)
	}
	for i := range p.Allow {
		all = append(all, &p.Allow[i])
	}
	return all
}

// own puts the texts of a policy into bytes that can be written.
func own(p *api.Policy) [][]byte {
	var all [][]byte
	for _, s := range texts(p) {
		b := []byte(*s)
		*s = unsafe.String(unsafe.SliceData(b), len(b))
		all = append(all, b)
	}
	return all
}

// spoil overwrites all that a policy has in lists, with what is behind their ends.
func spoil(p api.Policy) {
	fill(p.Labels, "spoilt")
	fill(p.Below, [2]int{77, 77})
	fill(p.Sources, api.Source{Name: "spoilt", Label: 77, Clear: 77})
	fill(p.Dests, api.Dest{Host: "spoilt", Clear: 77})
	fill(p.Works, api.Work{Name: "spoilt", Label: 77, Quota: 77})
	fill(p.Routes, api.Route{Host: "spoilt", Prefix: "spoilt", Work: 77, Weight: 77})
	fill(p.Calls, [2]int{77, 77})
	fill(p.Grants, api.Grant{Name: "spoilt", Work: 77, From: 77, To: 77, Prefix: "spoilt"})
	fill(p.Allow, "spoilt")
}

func fill[T any](all []T, with T) {
	all = all[:cap(all)]
	for i := range all {
		all[i] = with
	}
}

// roomy is a policy whose lists have unused places behind their ends.
func roomy(p api.Policy) api.Policy {
	p.Labels = room(p.Labels)
	p.Below = room(p.Below)
	p.Sources = room(p.Sources)
	p.Dests = room(p.Dests)
	p.Works = room(p.Works)
	p.Routes = room(p.Routes)
	p.Calls = room(p.Calls)
	p.Grants = room(p.Grants)
	p.Allow = room(p.Allow)
	return p
}

func room[T any](all []T) []T {
	const unused = 5
	return append(make([]T, 0, len(all)+unused), all...)
}

// whole tells a policy with what is behind the ends of its lists.
func whole(p api.Policy) string {
	return fmt.Sprintf("%+v", api.Policy{
		Labels:  p.Labels[:cap(p.Labels)],
		Below:   p.Below[:cap(p.Below)],
		Sources: p.Sources[:cap(p.Sources)],
		Dests:   p.Dests[:cap(p.Dests)],
		Works:   p.Works[:cap(p.Works)],
		Routes:  p.Routes[:cap(p.Routes)],
		Calls:   p.Calls[:cap(p.Calls)],
		Grants:  p.Grants[:cap(p.Grants)],
		Allow:   p.Allow[:cap(p.Allow)],
	})
}

// P8.4: arguments are only read, valid or not, with what is behind the ends of lists.
func TestArgumentsAreOnlyRead(t *testing.T) {
	all := []api.Policy{rich(), full(), {}}
	for _, w := range wrongs() {
		all = append(all, with(w.make))
	}
	for _, p := range all {
		p = roomy(p)
		before := whole(p)
		Check(p)
		Print(p)
		Same(p, p)
		Same(p, rich())
		Same(rich(), p)
		Copy(p)
		if after := whole(p); after != before {
			t.Errorf("%s is %s now", before, after)
		}
	}
}

// P8.3, P8.4: a copy stays when the argument changes, and the argument when the copy changes.
func TestCopyIsNewMemory(t *testing.T) {
	for _, make := range []func() api.Policy{rich, full} {
		p, want := make(), make()
		bytes := own(&p)
		c := Copy(p)
		for _, b := range bytes {
			fill(b, '!')
		}
		spoil(p)
		if !Same(c, want) {
			t.Errorf("the copy is %+v, not %+v", c, want)
		}
		p = roomy(make())
		before := whole(p)
		spoil(Copy(p))
		if after := whole(p); after != before {
			t.Errorf("the argument is %s, not %s", after, before)
		}
		if c := Copy(p); !Same(c, want) {
			t.Errorf("the next copy is %+v, not %+v", c, want)
		}
	}
}

// P8.4: also empty lists are new memory.
func TestCopyOfEmptyLists(t *testing.T) {
	empty := roomy(api.Policy{})
	c := Copy(empty)
	if pointsInto(c.Labels, empty.Labels) || pointsInto(c.Calls, empty.Calls) || pointsInto(c.Sources, empty.Sources) || pointsInto(c.Allow, empty.Allow) {
		t.Error("an empty list is in the memory of the argument")
	}
}

func pointsInto[T any](a, b []T) bool {
	return a != nil && unsafe.SliceData(a) == unsafe.SliceData(b)
}

// P8.4: a parsed policy stays when the text changes, and a later one when it changes.
func TestParsedIsNewMemory(t *testing.T) {
	for _, want := range []api.Policy{rich(), full()} {
		b := []byte(toldText(want))
		s := unsafe.String(unsafe.SliceData(b), len(b))
		p, _, e := Parse(s)
		q, _, _ := Parse(s)
		fill(b, '!')
		if !Same(p, want) || e != api.OK {
			t.Errorf("the policy is %+v, not %+v", p, want)
		}
		spoil(p)
		if !Same(q, want) {
			t.Errorf("the other policy is %+v, not %+v", q, want)
		}
		if again, _, _ := Parse(toldText(want)); !Same(again, want) {
			t.Errorf("the next policy is %+v, not %+v", again, want)
		}
	}
}

// P8.4: no two lists of a result, and no two texts, share memory.
func TestResultsShareNothing(t *testing.T) {
	parsed := func(p api.Policy) api.Policy {
		q, _, _ := Parse(toldText(p))
		return q
	}
	for what, make := range map[string]func(p api.Policy) api.Policy{"Copy": Copy, "Parse": parsed} {
		// One text at several places, and one list.
		p := rich()
		p.Sources[0].Name, p.Works[0].Name, p.Grants[0].Name, p.Grants[0].Prefix = "low", "low", "low", "/"
		p.Calls = p.Below[:1]
		p.Allow = []string{"low", "a"}
		q := make(p)
		if !Same(q, p) {
			t.Fatalf("%s: %+v", what, q)
		}
		fill(q.Below, [2]int{77, 77})
		fill(q.Labels, "spoilt")
		if !slices.Equal(q.Calls, [][2]int{{0, 1}}) || !slices.Equal(q.Allow, []string{"low", "a"}) {
			t.Errorf("%s: two lists share memory: %+v", what, q)
		}
		q = make(p)
		// The texts of p may share their memory with each other, those of q with none.
		both := append(texts(&p), texts(&q)...)
		if got, want := places(both), places(texts(&p))+len(texts(&q)); got != want {
			t.Errorf("%s: the texts are at %d places, not %d", what, got, want)
		}
	}
}

// places is at how many places texts are.
func places(texts []*string) int {
	at := map[*byte]bool{}
	for _, s := range texts {
		at[unsafe.StringData(*s)] = true
	}
	return len(at)
}

// P8.1, P8.4: a printed text stays when the policy changes.
func TestPrintedIsNewMemory(t *testing.T) {
	p := rich()
	bytes := own(&p)
	s, _ := Print(p)
	for _, b := range bytes {
		fill(b, '!')
	}
	spoil(p)
	if s != richText {
		t.Errorf("%q", s)
	}
	again, _ := Print(rich())
	fill(unsafe.Slice(unsafe.StringData(again), len(again)), '!')
	if s != richText || strings.Contains(s, "!") {
		t.Errorf("%q", s)
	}
	if later, e := Print(rich()); later != richText || e != api.OK {
		t.Errorf("%q, %d", later, e)
	}
}

// R2: calls at one time answer the same.
func TestAtOneTime(t *testing.T) {
	done := make(chan bool)
	p := full()
	for range 8 {
		go func() {
			s, _ := Print(p)
			q, line, e := Parse(s)
			done <- Check(p) == api.OK && Same(p, q) && Same(Copy(p), q) && line == 0 && e == api.OK
		}()
	}
	for range 8 {
		if !<-done {
			t.Error("not the same")
		}
	}
}

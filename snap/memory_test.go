package snap

import (
	"fmt"
	"reflect"
	"strings"
	"testing"
	"unsafe"

	"chinoiserie/api"
	"chinoiserie/lattice"
	"chinoiserie/policy"
)

// changed overwrites all that lies in the memory of a policy: its texts, byte by byte, and its lists, with what is behind their ends.
func changed(p *api.Policy) {
	fields := reflect.ValueOf(p).Elem()
	for i := range fields.NumField() {
		list := fields.Field(i)
		list.SetLen(list.Cap())
		for j := range list.Len() {
			changeValue(list.Index(j))
		}
	}
}

func changeValue(v reflect.Value) {
	switch v.Kind() {
	case reflect.String:
		write(v.String())
	case reflect.Int:
		v.SetInt(77)
	case reflect.Array:
		for i := range v.Len() {
			changeValue(v.Index(i))
		}
	case reflect.Struct:
		for i := range v.NumField() {
			changeValue(v.Field(i))
		}
	}
}

// write overwrites the bytes of a text, which have to be in memory that can be written.
func write(s string) {
	b := unsafe.Slice(unsafe.StringData(s), len(s))
	for i := range b {
		b[i] = '!'
	}
}

// own is a text in memory that can be written.
func own(s string) string {
	b := []byte(s)
	return unsafe.String(unsafe.SliceData(b), len(b))
}

// roomy is a policy with memory of its own, whose lists have unused places behind their ends.
func roomy(p api.Policy) api.Policy {
	p = policy.Copy(p)
	fields := reflect.ValueOf(&p).Elem()
	for i := range fields.NumField() {
		list := fields.Field(i)
		wide := reflect.MakeSlice(list.Type(), list.Len(), list.Len()+5)
		reflect.Copy(wide, list)
		list.Set(wide)
	}
	return p
}

// whole tells a policy with what is behind the ends of its lists.
func whole(p api.Policy) string {
	fields := reflect.ValueOf(&p).Elem()
	for i := range fields.NumField() {
		fields.Field(i).SetLen(fields.Field(i).Cap())
	}
	return fmt.Sprintf("%+v", p)
}

// P9.6: Of only reads its argument, valid or not.
func TestArgumentIsOnlyRead(t *testing.T) {
	wrong := parsed(t, richText)
	wrong.Allow[2] = "*"
	for _, p := range []api.Policy{parsed(t, richText), full(), wrong, {}} {
		p = roomy(p)
		before := whole(p)
		Of(p)
		if after := whole(p); after != before {
			t.Errorf("%s is %s now", before, after)
		}
	}
}

// P9.6: a change of the policy, or of the text, that was given changes no later answer.
func TestArgumentsAreNotRetained(t *testing.T) {
	for _, want := range []api.Policy{parsed(t, richText), full()} {
		p := roomy(want)
		s, _ := Of(p)
		changed(&p)
		checkSnap(t, "Of", s, want)
		text, _ := policy.Print(want)
		text = own(text)
		s = made(t, text)
		write(text)
		checkSnap(t, "Make", s, want)
	}
}

// P9.6: a change of what a snapshot answered changes no later answer; also before it has been asked for a reach.
func TestResultsAreNewMemory(t *testing.T) {
	for _, want := range []api.Policy{parsed(t, richText), full()} {
		s, _ := Of(want)
		for range 2 {
			p := s.Policy()
			changed(&p)
			write(s.Text())
			*s.Lattice() = lattice.Lattice{}
			for l := range want.Labels {
				write(s.Name(api.Label(l)))
			}
			for _, o := range want.Sources {
				source, _ := s.Source(o.Name)
				write(source.Name)
			}
			for _, o := range want.Dests {
				dest, _ := s.Dest(o.Host)
				write(dest.Host)
			}
			checkSnap(t, "results", s, want)
		}
	}
}

// P9.6: a name that was asked for is neither kept nor answered.
func TestNamesAreNotRetained(t *testing.T) {
	want := parsed(t, richText)
	s, _ := Of(want)
	for _, word := range words(want) {
		name := own(word)
		source, sourceE := s.Source(name)
		dest, destE := s.Dest(name)
		s.Label(name)
		s.Work(name)
		s.Allowed(name)
		write(name)
		if sourceE == api.OK && source.Name != word || destE == api.OK && dest.Host != word {
			t.Errorf("%q: %+v, %+v", word, source, dest)
		}
	}
	checkSnap(t, "names", s, want)
}

// P9.6: what one snapshot answers has nothing to do with another one of the same policy.
func TestSnapshotsShareNothing(t *testing.T) {
	want := parsed(t, richText)
	one, _ := Of(want)
	other, _ := Of(want)
	copied, _ := Of(one.Policy())
	one.Reach(1)
	p := one.Policy()
	changed(&p)
	write(one.Text())
	for what, s := range map[string]*Snap{"one": one, "other": other, "copied": copied} {
		checkSnap(t, what, s, want)
	}
}

// R2: calls in another order, and again, answer the same; so do calls at one time.
func TestAtOneTime(t *testing.T) {
	answers := func(s *Snap) string {
		var b strings.Builder
		for w := range 7 {
			l, e := s.Reach(w)
			join, _ := s.Join(api.Label(w), 1)
			fmt.Fprint(&b, l, e, join, s.Lattice().Join(1, 2), s.May(1, w), s.Text(), s.Policy())
		}
		return b.String()
	}
	const callers = 8
	want := answers(made(t, richText))
	for range 50 {
		s := made(t, richText)
		told := make(chan string, callers)
		for range callers {
			go func() { told <- answers(s) }()
		}
		for range callers {
			if got := <-told; got != want {
				t.Errorf("%s, not %s", got, want)
			}
		}
	}
}

package route

import (
	"fmt"
	"slices"
	"strings"
	"testing"
	"unsafe"

	"chinoiserie/api"
	"chinoiserie/snap"
)

// write overwrites the bytes of a text, which have to be in memory that can be written.
func write(s string) {
	b := unsafe.Slice(unsafe.StringData(s), len(s))
	for i := range b {
		b[i] = '!'
	}
}

// own is a text in memory that can be written.
func own(s string) string {
	b := []byte(s)
	return unsafe.String(unsafe.SliceData(b), len(b))
}

// changed overwrites all that lies in the memory of routes, with what is behind their end.
func changed(l []api.Route) {
	l = l[:cap(l)]
	for i := range l {
		write(l[i].Host)
		write(l[i].Prefix)
		l[i] = api.Route{Host: "none", Prefix: "/none", Work: 77, Weight: -77}
	}
}

// answers tells what all functions answer.
func answers(s *snap.Snap) string {
	var b strings.Builder
	for _, authority := range []string{"many.mesh", "ONE.mesh:80", "none.mesh", "-"} {
		for _, path := range []string{"/", "/a", "/a/b", ""} {
			all, e := Candidates(s, authority, path)
			fmt.Fprint(&b, all, e)
			for draw := -101; draw < 202; draw += 50 {
				fmt.Fprint(&b, results(Pick(s, authority, path, draw)), results(Again(s, authority, path, draw, []int{0, 5})))
			}
		}
	}
	return b.String()
}

func results(work int, e api.Errno) []int { return []int{work, int(e)} }

// P10.4: a change of the candidates that were answered changes no later answer, nor what the snapshot answers.
func TestResultsAreNewMemory(t *testing.T) {
	s := made(t, richText)
	want, text := answers(s), s.Text()
	for _, authority := range []string{"many.mesh", "one.mesh", "other.mesh"} {
		for _, path := range []string{"/", "/a", "/a/b"} {
			one, _ := Candidates(s, authority, path)
			other, _ := Candidates(s, authority, path)
			kept := fmt.Sprint(other)
			changed(one)
			if got := fmt.Sprint(other); got != kept {
				t.Errorf("%s %s: %s, not %s", authority, path, got, kept)
			}
		}
	}
	if got := answers(s); got != want {
		t.Errorf("%s, not %s", got, want)
	}
	if s.Text() != text {
		t.Errorf("%s, not %s", s.Text(), text)
	}
}

// P10.4: authorities and paths are neither kept nor answered.
func TestTextsAreNotRetained(t *testing.T) {
	s := made(t, richText)
	want := answers(s)
	for _, host := range []string{"many.mesh", "one.mesh"} {
		for _, word := range []string{"/", "/a", "/a/b", "/a/b/c"} {
			authority, path := own(host), own(word)
			all, _ := Candidates(s, authority, path)
			Pick(s, authority, path, 1)
			Again(s, authority, path, 1, []int{1})
			kept := fmt.Sprint(all)
			if authority != host || path != word {
				t.Errorf("%s %s: %s %s now", host, word, authority, path)
			}
			write(authority)
			write(path)
			if got := fmt.Sprint(all); got != kept {
				t.Errorf("%s %s: %s, not %s", host, word, got, kept)
			}
		}
	}
	if got := answers(s); got != want {
		t.Errorf("%s, not %s", got, want)
	}
}

// P10.4: gone is only read, with what is behind its end, and a later change of it changes nothing.
func TestGoneIsOnlyRead(t *testing.T) {
	s := made(t, richText)
	for _, some := range [][]int{{}, {0}, {5, 0, 5}, {0, 2, 5}, {5, 4, 3, 2, 1, 0, -1, 7}} {
		for used := range len(some) + 1 {
			gone := slices.Clone(some)
			work, e := Again(s, "many.mesh", "/", 150, gone[:used])
			if !slices.Equal(gone, some) {
				t.Errorf("%v: %v now", some, gone)
			}
			for i := range gone {
				gone[i] = 5
			}
			checkAgain(t, s, "many.mesh", "/", 150, some[:used], work, e)
		}
	}
}

// R2: calls at one time answer the same.
func TestAtOneTime(t *testing.T) {
	const callers = 8
	s := made(t, richText)
	want := answers(s)
	told := make(chan string, callers)
	for range callers {
		go func() { told <- answers(s) }()
	}
	for range callers {
		if got := <-told; got != want {
			t.Errorf("%s, not %s", got, want)
		}
	}
}

package store

import (
	"testing"
	"unsafe"

	"chinoiserie/api"
	"chinoiserie/push"
	"chinoiserie/snap"
)

// own is a text in memory that can be written.
func own(s string) string {
	b := []byte(s)
	return unsafe.String(unsafe.SliceData(b), len(b))
}

// write overwrites the bytes of a text, which have to be in memory that can be written.
func write(s string) {
	b := unsafe.Slice(unsafe.StringData(s), len(s))
	for i := range b {
		b[i] = '!'
	}
}

// overwrite overwrites all that lies in the memory of a packet, with what is behind the end of its list.
func overwrite(p api.Push) {
	write(p.Text)
	for i := range p.Lines {
		write(p.Lines[i])
	}
	lines := p.Lines[:cap(p.Lines)]
	for i := range lines {
		lines[i] = "!"
	}
}

// texts are ones whose lines, and the order of these, are those of their snapshots, so that nothing would have to be copied.
var texts = []string{rich, with("work c high 3", "work c high 4"), with("source app mid mid\n", ""), with("route b.mesh /x b 2", "route b.mesh /y b 9"), rich}

// P12.4: what is put is not changed, and not kept.
func TestArguments(t *testing.T) {
	s := New()
	var d told
	for _, want := range append(texts, "labels", "label high", "") {
		text := own(want)
		after, version, line, e := d.put(want)
		if v, l, f := s.Put(text); v != version || l != line || f != e {
			t.Errorf("Put(%s): %d, %d, %d", cut(want), v, l, f)
		}
		if text != want {
			t.Errorf("%q is %q now", want, text)
		}
		write(text)
		d = after
		checkStore(t, "after a change of what was put", s, d)
	}
	if len(d) != len(texts) {
		t.Error(len(d))
	}
}

// P12.4: a change of what was answered changes no later answer, and nothing else that was answered.
func TestResultsAreNewMemory(t *testing.T) {
	s := New()
	var d told
	for _, text := range texts {
		d = checkPut(t, s, d, own(text))
	}
	checkPacket := func(ask func() (api.Push, api.Errno)) {
		t.Helper()
		p, e := ask()
		if e != api.OK {
			t.Fatal(e)
		}
		want := push.Copy(p)
		other, _ := ask()
		overwrite(p)
		if !samePush(other, want) {
			t.Errorf("%+v, not %+v", other, want)
		}
	}
	for v := 1; v <= len(d); v++ {
		text, _ := s.Text(v)
		other, _ := s.Text(v)
		write(text)
		if other != d[v-1] {
			t.Errorf("%q, not %q", other, d[v-1])
		}
		made, _ := s.Snap(v)
		kept, _ := s.Snap(v)
		*made = snap.Snap{}
		checkSnap(t, "another one", kept, d[v-1])
		write(kept.Text())
		p := kept.Policy()
		p.Labels[0], p.Works[0].Quota = "other", 9
		checkPacket(func() (api.Push, api.Errno) { return s.Full(v, 3) })
		checkPacket(func() (api.Push, api.Errno) { return s.Best(v, 3) })
		for from := 1; from < v; from++ {
			checkPacket(func() (api.Push, api.Errno) { return s.Delta(from, v, 3) })
		}
		checkStore(t, "after changes", s, d)
		// What is put next is held against version 1, and this has stayed.
		if v == len(d) {
			checkPut(t, s, d, with("label mid\nlabel high\n", "label high\nlabel mid\n"))
			d = checkPut(t, s, d, rich)
			checkStore(t, "at the end", s, d)
			return
		}
	}
}

package hello

import (
	"bytes"
	"slices"

	"chinoiserie/api"
)

// reader has the bytes that are still to be read. Where they are not those of a ClientHello it panics.
type reader struct{ rest []byte }

// must ends the reading unless the bytes are as they have to be.
func must(is bool) {
	if !is {
		panic(api.ErrHello)
	}
}

// read reads the bytes of a ClientHello, and nothing else.
func read(b []byte) api.Greeting {
	record := &reader{b}
	record.expect(1, handshake)
	record.expect(1, major)
	g := api.Greeting{Minor: record.number(1)}
	message := record.last(2)
	message.expect(1, clientHello)
	message.last(3).contents(&g)
	// Whatever has its place in the bytes may still be too great, or stand there twice.
	must(isValid(g))
	return g
}

// contents reads what the message says.
func (r *reader) contents(g *api.Greeting) {
	r.expect(2, version)
	copy(g.Random[:], r.cut(len(g.Random)))
	g.Session = bytes.Clone(r.part(1))
	g.Suites = suites(r.part(2))
	g.Methods = bytes.Clone(r.part(1))
	exts := r.last(2).exts()
	g.At = slices.IndexFunc(exts, isName)
	must(g.At >= 0)
	g.Host = hostIn(exts[g.At].Data)
	g.Exts = slices.Delete(exts, g.At, g.At+1)
}

func suites(b []byte) []int {
	var all []int
	for r := (&reader{b}); len(r.rest) > 0; {
		all = append(all, r.number(2))
	}
	return all
}

// exts reads extensions up to the end.
func (r *reader) exts() []api.Ext {
	var all []api.Ext
	for len(r.rest) > 0 {
		kind := r.number(2)
		all = append(all, api.Ext{Type: kind, Data: bytes.Clone(r.part(2))})
	}
	return all
}

func isName(x api.Ext) bool { return x.Type == serverName }

// hostIn is the host that the extension with these data tells.
func hostIn(data []byte) string {
	names := (&reader{data}).last(2)
	names.expect(1, hostName)
	return string(names.last(2).rest)
}

// cut takes the next n bytes.
func (r *reader) cut(n int) []byte {
	// Behind what is left there may be more in the same memory, which is none of the reader's business.
	must(n <= len(r.rest))
	piece := r.rest[:n:n]
	r.rest = r.rest[n:]
	return piece
}

// number takes a number of so many bytes.
func (r *reader) number(size int) int {
	n := 0
	for _, c := range r.cut(size) {
		n = n<<8 | int(c)
	}
	return n
}

// expect takes a number of so many bytes, which has to be this one.
func (r *reader) expect(size, want int) { must(r.number(size) == want) }

// part takes the number of following bytes, which has so many bytes itself, and these.
func (r *reader) part(size int) []byte { return r.cut(r.number(size)) }

// last is a part behind which nothing is left.
func (r *reader) last(size int) *reader {
	piece := r.part(size)
	must(len(r.rest) == 0)
	return &reader{piece}
}

package push

import "chinoiserie/api"

// The sizes of numbers, in bytes.
const (
	kindSize   = 1
	numberSize = 7
	lengthSize = 3 // of a text, and of a line
	countSize  = 2 // of how many lines there are
)

// written is b with a field of a valid packet behind it.
func written(b []byte, p api.Push, field fields) []byte {
	switch field {
	case textField:
		return counted(b, p.Text)
	case linesField:
		b = number(b, countSize, len(p.Lines))
		for _, line := range p.Lines {
			b = counted(b, line)
		}
		return b
	}
	return number(b, numberSize, *numberIn(&p, field))
}

// counted writes how many bytes s has behind b, and these.
func counted(b []byte, s string) []byte {
	return append(number(b, lengthSize, len(s)), s...)
}

// number writes a number behind b, in so many bytes.
func number(b []byte, size, n int) []byte {
	for shift := 8 * (size - 1); shift >= 0; shift -= 8 {
		b = append(b, byte(n>>shift))
	}
	return b
}

// reader has the bytes that are still to be read, and the first error; behind that, all that it reads is nothing.
type reader struct {
	rest []byte
	e    api.Errno
}

// read reads a field into a packet.
func (r *reader) read(p api.Push, field fields) api.Push {
	switch field {
	case textField:
		p.Text = r.text()
	case linesField:
		p.Lines = r.lines()
	default:
		*numberIn(&p, field) = r.number(numberSize)
	}
	return p
}

func (r *reader) lines() []string {
	var all []string
	for range r.count(countSize, maxLines) {
		all = append(all, r.text())
	}
	return all
}

func (r *reader) text() string { return string(r.cut(r.count(lengthSize, api.MaxText))) }

// count takes a number of what follows, of which there are at most most.
func (r *reader) count(size, most int) int {
	n := r.number(size)
	// Asked here: that there are too many comes ahead of that they are not there.
	if n > most {
		r.fail(api.ErrLimit)
		return 0
	}
	return n
}

// number takes a number of so many bytes.
func (r *reader) number(size int) int {
	n := 0
	for _, c := range r.cut(size) {
		n = n<<8 | int(c)
	}
	return n
}

// cut takes the next n bytes.
func (r *reader) cut(n int) []byte {
	if n > len(r.rest) {
		r.fail(api.ErrTrunc)
	}
	if r.e != api.OK {
		return nil
	}
	piece := r.rest[:n]
	r.rest = r.rest[n:]
	return piece
}

func (r *reader) fail(e api.Errno) {
	if r.e == api.OK {
		r.e = e
	}
}

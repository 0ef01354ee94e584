package http

import (
	"bytes"
	"strconv"
	"strings"

	"chinoiserie/api"
	"chinoiserie/head"
)

const (
	maxLine   = 300
	maxLines  = 20
	maxDigits = 4
)

// reader reads the bytes of one message.
type reader struct {
	// rest is what is still to be read.
	rest []byte
	m    api.Message
	// The body comes in chunks, or is that long.
	inChunks bool
	length   int
}

// read reads all of the bytes, up to the first error.
func (r *reader) read() api.Errno {
	steps := [...]func() api.Errno{r.firstLine, r.headLines, r.emptyLine, r.body, r.end}
	for _, step := range steps {
		if e := step(); e != api.OK {
			return e
		}
	}
	return api.OK
}

func (r *reader) firstLine() api.Errno {
	line, e := r.line()
	if e != api.OK {
		return e
	}
	m, found := requestOf(line)
	if !found {
		m, found = responseOf(line)
	}
	if !found {
		return api.ErrForm
	}
	r.m = m
	return api.OK
}

// headLines reads the header lines and the empty line behind them.
func (r *reader) headLines() api.Errno {
	for many := 0; ; many++ {
		line, e := r.line()
		switch {
		case e != api.OK:
			return e
		case line == "":
			return api.OK
		case many == maxLines:
			return api.ErrForm
		}
		h, e := head.Line(line)
		if e != api.OK {
			return e
		}
		r.m.Heads = append(r.m.Heads, h)
	}
}

// emptyLine learns from the headers how the body comes, and drops those that tell of the encoding.
func (r *reader) emptyLine() api.Errno {
	coding, codings := head.Get(r.m.Heads, codingName)
	digits, lengths := head.Get(r.m.Heads, lengthName)
	// Without a Content-Length there are no digits, and the length is 0.
	length, isNumber := number(digits, 10)
	switch {
	case codings+lengths > 1:
		return api.ErrLength
	case codings == 1 && head.Lower(coding) != chunked:
		return api.ErrLength
	case lengths == 1 && !isNumber:
		return api.ErrLength
	case length > api.MaxBody:
		return api.ErrLimit
	}
	r.inChunks, r.length = codings == 1, length
	for _, name := range encodingNames {
		r.m.Heads = head.Drop(r.m.Heads, name)
	}
	return api.OK
}

func (r *reader) body() api.Errno {
	if !r.inChunks {
		part, e := r.part(r.length)
		r.m.Body = append(r.m.Body, part...)
		return e
	}
	for {
		chunk, e := r.chunk()
		if e != api.OK || len(chunk) == 0 {
			return e
		}
		r.m.Body = append(r.m.Body, chunk...)
	}
}

func (r *reader) end() api.Errno {
	if len(r.rest) > 0 {
		return api.ErrForm
	}
	return Check(r.m)
}

// chunk reads the next chunk; the last one is empty.
func (r *reader) chunk() ([]byte, api.Errno) {
	line, e := r.line()
	if e != api.OK {
		return nil, e
	}
	size, isNumber := number(line, 16)
	switch {
	case !isNumber:
		return nil, api.ErrForm
	case len(r.m.Body)+size > api.MaxBody:
		return nil, api.ErrLimit
	}
	// What ends a chunk is a part of it: that there are enough bytes comes ahead of which ones they are.
	part, e := r.part(size + len(eol))
	if e != api.OK {
		return nil, e
	}
	chunk, ended := bytes.CutSuffix(part, []byte(eol))
	if !ended {
		return nil, api.ErrForm
	}
	return chunk, api.OK
}

// part reads so many bytes.
func (r *reader) part(size int) ([]byte, api.Errno) {
	if len(r.rest) < size {
		return nil, api.ErrTrunc
	}
	part := r.rest[:size]
	r.rest = r.rest[size:]
	return part, api.OK
}

// line reads a line; what it answers is without the end.
func (r *reader) line() (string, api.Errno) {
	line, after, found := bytes.Cut(r.rest, []byte(eol))
	switch {
	case !found:
		return "", api.ErrTrunc
	case len(line) > maxLine || bytes.ContainsAny(line, eol):
		return "", api.ErrForm
	}
	r.rest = after
	return string(line), api.OK
}

// requestOf is the request, without all the rest, that a first line begins.
func requestOf(line string) (api.Message, bool) {
	method, rest, _ := strings.Cut(line, " ")
	path, found := strings.CutSuffix(rest, " "+version)
	if !found || !isMethod(method) || !isPath(path) {
		return api.Message{}, false
	}
	return api.Message{Method: method, Path: path}, true
}

// responseOf is the response, without all the rest, that a first line begins.
func responseOf(line string) (api.Message, bool) {
	rest, found := strings.CutPrefix(line, version+" ")
	digits, phrase, parted := strings.Cut(rest, " ")
	status, isNumber := number(digits, 10)
	if !found || !parted || !isNumber || len(digits) != 3 || !isStatus(status) || !allWithin(phrase, blank, tilde) {
		return api.Message{}, false
	}
	return api.Message{Status: status}, true
}

// number is what 1 to 4 digits tell.
func number(s string, base int) (int, bool) {
	if len(s) > maxDigits {
		return 0, false
	}
	// With a base, ParseUint takes nothing but its digits, and no sign; four of them always fit 16 bits.
	n, e := strconv.ParseUint(s, base, 16)
	return int(n), e == nil
}

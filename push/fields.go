package push

import (
	"slices"
	"strings"

	"chinoiserie/api"
)

// fields are fields of a packet, a bit each, in the order of its encoding.
type fields int

const (
	versionField fields = 1 << iota
	fromField
	nodeField
	tickField
	headField
	tailField
	textField
	linesField

	everyField = linesField<<1 - 1
)

const (
	maxLines = 1000
	// maxKept is for Head and for Tail: a text has no more lines than bytes.
	maxKept = api.MaxText
)

// fieldsOf are the fields that a kind has; none for what is no kind.
func fieldsOf(kind int) fields {
	switch kind {
	case api.PushFull:
		return versionField | tickField | textField
	case api.PushDelta:
		return versionField | fromField | tickField | headField | tailField | linesField
	case api.PushRenew:
		return versionField | tickField
	case api.PushAck, api.PushNack:
		return versionField | nodeField
	}
	return 0
}

// traverse takes a step for each of some fields, in the order of the encoding, with what the steps ahead of it have led to.
func traverse[T any](some fields, so T, step func(so T, field fields) T) T {
	for field := versionField; field <= linesField; field <<= 1 {
		if some&field != 0 {
			so = step(so, field)
		}
	}
	return so
}

// numberIn is where a packet has the number of a field; nil for a field that is no number.
func numberIn(p *api.Push, field fields) *int {
	switch field {
	case versionField:
		return &p.Version
	case fromField:
		return &p.From
	case nodeField:
		return &p.Node
	case tickField:
		return &p.Tick
	case headField:
		return &p.Head
	case tailField:
		return &p.Tail
	}
	return nil
}

// equal tells whether two packets have the same in a field.
func equal(p, q api.Push, field fields) bool {
	switch field {
	case textField:
		return p.Text == q.Text
	case linesField:
		return slices.Equal(p.Lines, q.Lines)
	}
	return *numberIn(&p, field) == *numberIn(&q, field)
}

func isZero(p api.Push, field fields) bool { return equal(p, api.Push{}, field) }

// fits tells whether a packet has in a field of its kind what may be there.
func fits(p api.Push, field fields) bool {
	switch field {
	case versionField:
		return within(p.Version, leastVersion(p.Kind), api.MaxNumber)
	case fromField:
		return p.From >= 1 && p.From < p.Version
	case nodeField:
		return within(p.Node, 0, api.MaxWorks)
	case tickField:
		return within(p.Tick, 0, api.MaxNumber)
	case headField:
		return within(p.Head, 0, maxKept)
	case tailField:
		return within(p.Tail, 0, maxKept)
	case textField:
		return len(p.Text) <= api.MaxText
	}
	return areLines(p.Lines)
}

// leastVersion is that of a kind. It says nothing of From, which makes the least one of a PushDelta 2.
func leastVersion(kind int) int {
	if kind == api.PushAck || kind == api.PushNack {
		return 0 // that of a node which has none
	}
	return 1
}

func areLines(lines []string) bool {
	size := 0
	for _, line := range lines {
		if strings.Contains(line, eol) {
			return false
		}
		size += len(line)
	}
	return len(lines) <= maxLines && size <= api.MaxText
}

func within(n, low, high int) bool { return n >= low && n <= high }

// Package text is layer 1: see shared/doc/01-text.md.
package text

import (
	"strconv"
	"strings"

	"chinoiserie/api"
)

const blank = ' '

// Lines tells a text's lines, without their line feeds.
func Lines(s string) ([]string, api.Errno) {
	if len(s) > api.MaxText {
		return nil, api.ErrLimit
	}
	var lines []string
	// A rest of no bytes is no line, so a line feed at the end begins none, and an empty text has none.
	for rest := s; rest != ""; {
		line, after, _ := strings.Cut(rest, "\n")
		lines = append(lines, strings.Clone(line))
		rest = after
	}
	return lines, api.OK
}

// Words tells a line's words.
func Words(line string) ([]string, api.Errno) {
	var words []string
	rest := line
split:
	for rest != "" {
		for end, r := range rest {
			switch {
			case r == blank:
				if end > 0 {
					words = append(words, strings.Clone(rest[:end]))
				}
				rest = rest[end+1:]
				continue split
			case !inWord(r):
				return nil, api.ErrForm
			}
		}
		words = append(words, strings.Clone(rest))
		break split
	}
	return words, api.OK
}

// Join puts words into a line.
func Join(words []string) (string, api.Errno) {
	// Built byte by byte: strings.Join hands a single word on as it is, which would not be new memory.
	var line []byte
	for i, w := range words {
		if !isWord(w) {
			return "", api.ErrForm
		}
		if i > 0 {
			line = append(line, blank)
		}
		line = append(line, w...)
	}
	return string(line), api.OK
}

// Name tells whether a text is a name.
func Name(s string) api.Errno {
	if s == "" || len(s) > api.MaxName || !isLetter(s[0]) {
		return api.ErrName
	}
	for i := 1; i < len(s); i++ {
		if !isLetter(s[i]) && !isDigit(s[i]) && s[i] != '-' {
			return api.ErrName
		}
	}
	return api.OK
}

// Number is what digits tell.
func Number(s string) (int, api.Errno) {
	// The form comes ahead of the size: digits that are too many may still end in something else.
	if !isDecimal(s) {
		return 0, api.ErrForm
	}
	n := 0
	for i := 0; i < len(s); i++ {
		n = 10*n + int(s[i]-'0')
		// Asked at each digit, so that n cannot wrap round.
		if n > api.MaxNumber {
			return 0, api.ErrRange
		}
	}
	return n, api.OK
}

// Digits are a number's.
func Digits(n int) (string, api.Errno) {
	if n < 0 || n > api.MaxNumber {
		return "", api.ErrRange
	}
	return strconv.Itoa(n), api.OK
}

// inWord tells of a rune what the definition says of bytes: each byte above 7E gives, alone or with others, a rune above 7E.
func inWord(r rune) bool { return r >= 0x21 && r <= 0x7e }

func isWord(s string) bool {
	for _, r := range s {
		if !inWord(r) {
			return false
		}
	}
	return s != ""
}

// isDecimal tells whether s is a number apart from its size.
func isDecimal(s string) bool {
	if s == "" || s[0] == '0' && len(s) > 1 {
		return false
	}
	for i := 0; i < len(s); i++ {
		if !isDigit(s[i]) {
			return false
		}
	}
	return true
}

func isLetter(c byte) bool { return c >= 'a' && c <= 'z' }

func isDigit(c byte) bool { return c >= '0' && c <= '9' }

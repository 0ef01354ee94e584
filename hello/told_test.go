package hello

import (
	"bytes"
	"encoding/hex"
	"fmt"
	"regexp"
	"strings"
	"testing"

	"chinoiserie/api"
)

// What the document says, found in another way than the program's: bytes are written as hexadecimal text, without a look at whether there may be such ones, and what bytes tell is guessed, and then written and held against them.

var hostForm = regexp.MustCompile(`^[a-zA-Z0-9](?:[a-zA-Z0-9-]{0,18}[a-zA-Z0-9])?(?:\.[a-zA-Z0-9](?:[a-zA-Z0-9-]{0,18}[a-zA-Z0-9])?)*$`)

// counted is a text of bytes, with their number ahead of it, in so many bytes.
func counted(size int, text string) string {
	return fmt.Sprintf("%0*x", 2*size, len(text)/2) + text
}

// frame is a record with a message of these contents.
func frame(contents string) string {
	return "160301" + counted(2, "01"+counted(3, contents))
}

// nameText is an extension for these data of a list of names.
func nameText(data string) string { return "0000" + counted(2, data) }

// hostText is the extension for a host.
func hostText(host string) string {
	return nameText(counted(2, "00"+counted(2, fmt.Sprintf("%x", host))))
}

func extText(kind int, data []byte) string {
	return fmt.Sprintf("%04x", kind) + counted(2, fmt.Sprintf("%x", data))
}

// opening is what a message says up to its extensions.
func opening(g api.Greeting) string {
	var suites strings.Builder
	for _, s := range g.Suites {
		fmt.Fprintf(&suites, "%04x", s)
	}
	return "0303" + fmt.Sprintf("%x", g.Random) + counted(1, fmt.Sprintf("%x", g.Session)) + counted(2, suites.String()) + counted(1, fmt.Sprintf("%x", g.Methods))
}

// extTexts are the texts of all extensions.
func extTexts(g api.Greeting) []string {
	var all []string
	for i := range len(g.Exts) + 1 {
		if i == g.At {
			all = append(all, hostText(g.Host))
		}
		if i < len(g.Exts) {
			all = append(all, extText(g.Exts[i].Type, g.Exts[i].Data))
		}
	}
	return all
}

// toldText is the text of a greeting's bytes.
func toldText(g api.Greeting) string {
	contents := opening(g) + counted(2, strings.Join(extTexts(g), ""))
	return "1603" + fmt.Sprintf("%02x", g.Minor) + counted(2, "01"+counted(3, contents))
}

// toldValid is what the document says of a greeting.
func toldValid(g api.Greeting) bool {
	is := g.Minor >= 0 && g.Minor <= 4 && len(g.Session) <= 32 && len(g.Suites) >= 1 && len(g.Methods) <= 255 && bytes.Contains(g.Methods, []byte{0})
	is = is && len(g.Host) <= 60 && hostForm.MatchString(g.Host) && g.At >= 0 && g.At <= len(g.Exts)
	for _, s := range g.Suites {
		is = is && s >= 0 && s <= 65535
	}
	seen := map[int]bool{}
	for _, x := range g.Exts {
		is = is && x.Type >= 1 && x.Type <= 65535 && !seen[x.Type] && len(x.Data) <= 16384
		seen[x.Type] = true
	}
	return is && len(toldText(g))/2-5 <= 16384
}

// toldGreeting is what the document says of bytes.
func toldGreeting(b []byte) (g api.Greeting, is bool) {
	g = guess(b)
	if !toldValid(g) || toldText(g) != hex.EncodeToString(b) {
		return api.Greeting{}, false
	}
	return g, true
}

// guess is the greeting of these bytes, if they are those of one; it looks at no more of them than it has to.
func guess(b []byte) (g api.Greeting) {
	rest := b
	next := func(n int) []byte {
		piece := rest[:min(n, len(rest))]
		rest = rest[len(piece):]
		return piece
	}
	count := func(size int) int {
		n := 0
		for _, c := range next(size) {
			n = 256*n + int(c)
		}
		return n
	}
	next(2)
	g.Minor = count(1)
	next(2 + 1 + 3 + 2)
	copy(g.Random[:], next(32))
	g.Session = next(count(1))
	for i := count(2); i > 1; i -= 2 {
		g.Suites = append(g.Suites, count(2))
	}
	g.Methods = next(count(1))
	next(2)
	named := false
	for len(rest) > 0 {
		kind := count(2)
		data := next(count(2))
		if kind != 0 || named {
			g.Exts = append(g.Exts, api.Ext{Type: kind, Data: data})
			continue
		}
		named = true
		g.At = len(g.Exts)
		g.Host = string(data[min(5, len(data)):])
	}
	return g
}

// bytesOf are the bytes that a text tells.
func bytesOf(t testing.TB, text string) []byte {
	t.Helper()
	b, err := hex.DecodeString(text)
	if err != nil {
		t.Fatal(err)
	}
	return b
}

// same tells whether two greetings are equal: no list and an empty one are.
func same(a, b api.Greeting) bool {
	if a.Minor != b.Minor || a.Random != b.Random || a.Host != b.Host || a.At != b.At || !bytes.Equal(a.Session, b.Session) || !bytes.Equal(a.Methods, b.Methods) {
		return false
	}
	if len(a.Suites) != len(b.Suites) || len(a.Exts) != len(b.Exts) {
		return false
	}
	for i := range a.Suites {
		if a.Suites[i] != b.Suites[i] {
			return false
		}
	}
	for i := range a.Exts {
		if a.Exts[i].Type != b.Exts[i].Type || !bytes.Equal(a.Exts[i].Data, b.Exts[i].Data) {
			return false
		}
	}
	return true
}

// checkParse holds Parse and Sni of bytes against what is told of them.
func checkParse(t *testing.T, b []byte, want api.Greeting, is bool) {
	t.Helper()
	e := api.ErrHello
	if is {
		e = api.OK
	} else {
		want = api.Greeting{}
	}
	if g, got := Parse(b); got != e || !same(g, want) {
		t.Errorf("Parse(%s): %.400s, %d, not %.400s, %d", brief(b), fmt.Sprint(g), got, fmt.Sprint(want), e)
	}
	if host, got := Sni(b); got != e || host != strings.ToLower(want.Host) {
		t.Errorf("Sni(%s): %q, %d, not of %q, %d", brief(b), host, got, want.Host, e)
	}
}

// checkNone asks of bytes that are not those of a ClientHello.
func checkNone(t *testing.T, b []byte) {
	t.Helper()
	if _, is := toldGreeting(b); is {
		t.Errorf("%s is told to be a ClientHello", brief(b))
	}
	checkParse(t, b, api.Greeting{}, false)
}

// checkTold holds Parse and Sni of bytes against the other reading of the document, and tells whether they are those of a ClientHello.
func checkTold(t *testing.T, b []byte) bool {
	t.Helper()
	want, is := toldGreeting(b)
	checkParse(t, b, want, is)
	if is {
		checkWrite(t, want, true)
	}
	return is
}

// checkWrite holds Write of a greeting, and Parse and Sni of what it tells, against what is told of it.
func checkWrite(t *testing.T, g api.Greeting, is bool) {
	t.Helper()
	if toldValid(g) != is {
		t.Fatalf("%.400s is valid: not %t", fmt.Sprint(g), is)
	}
	b, e := Write(g)
	if !is {
		if b != nil || e != api.ErrArg {
			t.Errorf("Write(%.400s): %s, %d", fmt.Sprint(g), brief(b), e)
		}
		return
	}
	if e != api.OK || hex.EncodeToString(b) != toldText(g) {
		t.Errorf("Write(%.400s): %s, %d", fmt.Sprint(g), brief(b), e)
	}
	checkParse(t, b, g, true)
}

// brief is a text of bytes that is not too long to be read.
func brief(b []byte) string {
	if len(b) > 300 {
		return fmt.Sprintf("%x.. (%d bytes)", b[:300], len(b))
	}
	return fmt.Sprintf("%x", b)
}

package http

import (
	"fmt"
	"math/rand"
	"regexp"
	"slices"
	"strconv"
	"strings"
	"testing"

	"chinoiserie/api"
)

// The forms of lines, as the document tells them.
var (
	requestForm  = regexp.MustCompile(`^(GET|PUT|POST|DELETE|HEAD) (/[!-~]{0,59}) HTTP/1\.1$`)
	responseForm = regexp.MustCompile(`^HTTP/1\.1 ([1-5][0-9][0-9]) [ -~]*$`)
	headForm     = regexp.MustCompile(`^([A-Za-z0-9_-]{1,30}):[ \t]*([!-~]|[!-~][ -~]{0,198}[!-~]|)[ \t]*$`)
	lengthForm   = regexp.MustCompile(`^[0-9]{1,4}$`)
	codingForm   = regexp.MustCompile(`^(?i:chunked)$`)
	chunkForm    = regexp.MustCompile(`^[0-9a-fA-F]{1,4}$`)
)

// told is what the document says of bytes, found in another way than the program's.
func told(s string) (api.Message, api.Errno) {
	if len(s) > 8192 {
		return api.Message{}, api.ErrLimit
	}
	line, rest, e := toldLine(s)
	if e != api.OK {
		return api.Message{}, e
	}
	m, e := toldFirst(line)
	if e != api.OK {
		return api.Message{}, e
	}
	var length, coding []string
	for many := 1; ; many++ {
		if line, rest, e = toldLine(rest); e != api.OK {
			return api.Message{}, e
		}
		if line == "" {
			break
		}
		if many > 20 {
			return api.Message{}, api.ErrForm
		}
		f := headForm.FindStringSubmatch(line)
		if f == nil {
			return api.Message{}, api.ErrHead
		}
		switch strings.ToLower(f[1]) {
		case "content-length":
			length = append(length, f[2])
		case "transfer-encoding":
			coding = append(coding, f[2])
		case "connection":
		default:
			m.Heads = append(m.Heads, api.Head{Name: f[1], Value: f[2]})
		}
	}
	if m.Body, rest, e = toldBody(rest, length, coding); e != api.OK {
		return api.Message{}, e
	}
	if rest != "" {
		return api.Message{}, api.ErrForm
	}
	if len(m.Heads) > 16 || m.Method != "" && !toldHost(m.Heads) {
		return api.Message{}, api.ErrArg
	}
	return m, api.OK
}

func toldLine(s string) (line, rest string, e api.Errno) {
	end := strings.Index(s, "\r\n")
	if end < 0 {
		return "", "", api.ErrTrunc
	}
	if end > 300 || strings.ContainsAny(s[:end], "\r\n") {
		return "", "", api.ErrForm
	}
	return s[:end], s[end+2:], api.OK
}

func toldFirst(line string) (api.Message, api.Errno) {
	if f := requestForm.FindStringSubmatch(line); f != nil && !strings.Contains(f[2], "#") {
		return api.Message{Method: f[1], Path: f[2]}, api.OK
	}
	if f := responseForm.FindStringSubmatch(line); f != nil {
		status, _ := strconv.Atoi(f[1])
		return api.Message{Status: status}, api.OK
	}
	return api.Message{}, api.ErrForm
}

func toldHost(l []api.Head) bool {
	var values []string
	for _, h := range l {
		if strings.ToLower(h.Name) == "host" {
			values = append(values, h.Value)
		}
	}
	return len(values) == 1 && values[0] != ""
}

// toldBody is told of what comes behind the empty line, with the values of Content-Length and Transfer-Encoding.
func toldBody(s string, length, coding []string) (body []byte, rest string, e api.Errno) {
	switch {
	case len(length)+len(coding) > 1, len(length) == 1 && !lengthForm.MatchString(length[0]), len(coding) == 1 && !codingForm.MatchString(coding[0]):
		return nil, "", api.ErrLength
	case len(coding) == 1:
		return toldChunks(s)
	case len(length) == 0:
		return nil, s, api.OK
	}
	n, _ := strconv.Atoi(length[0])
	switch {
	case n > 2000:
		return nil, "", api.ErrLimit
	case len(s) < n:
		return nil, "", api.ErrTrunc
	}
	return []byte(s[:n]), s[n:], api.OK
}

func toldChunks(s string) (body []byte, rest string, e api.Errno) {
	for rest = s; ; {
		line, after, e := toldLine(rest)
		if e != api.OK {
			return nil, "", e
		}
		size, _ := strconv.ParseInt(line, 16, 64)
		switch {
		case !chunkForm.MatchString(line):
			return nil, "", api.ErrForm
		case len(body)+int(size) > 2000:
			return nil, "", api.ErrLimit
		case len(after) < int(size)+2:
			return nil, "", api.ErrTrunc
		case after[size:size+2] != "\r\n":
			return nil, "", api.ErrForm
		}
		body, rest = append(body, after[:size]...), after[size+2:]
		if size == 0 {
			return body, rest, api.OK
		}
	}
}

// parses holds the program against what the document says, and against what the test expects of it.
func parses(t *testing.T, s string, want api.Message) {
	t.Helper()
	got, e := Parse([]byte(s))
	if e != api.OK || !equal(got, want) {
		t.Errorf("Parse(%q): %v, %d, not %v", s, got, e, want)
	}
	asTold(t, s)
}

func fails(t *testing.T, s string, want api.Errno) {
	t.Helper()
	if got, e := Parse([]byte(s)); e != want || !zero(got) {
		t.Errorf("Parse(%.400q): %v, %d, not %d", s, got, e, want)
	}
	asTold(t, s)
}

func asTold(t *testing.T, s string) {
	t.Helper()
	want, wantE := told(s)
	if got, e := Parse([]byte(s)); e != wantE || !equal(got, want) {
		t.Fatalf("Parse(%q): %v, %d, not %v, %d", s, got, e, want, wantE)
	}
}

// put and ok are what a request and a response with these header lines and that body parse from.
func put(body string, lines ...string) string {
	return crlf(append(append([]string{"PUT / HTTP/1.1", "Host: x"}, lines...), "")...) + body
}

func ok(body string, lines ...string) string {
	return crlf(append(append([]string{"HTTP/1.1 200 OK"}, lines...), "")...) + body
}

const chunkedLine = "Transfer-Encoding: chunked"

// P5.2
func TestFirstLinesOfRequests(t *testing.T) {
	for _, m := range methods() {
		parses(t, crlf(m+" /a HTTP/1.1", "Host: x", ""), request(m, "/a", nil, ""))
	}
	for _, m := range noMethods() {
		fails(t, crlf(m+" /a HTTP/1.1", "Host: x", ""), api.ErrForm)
	}
	for _, c := range paths() {
		s := crlf("GET "+c.in+" HTTP/1.1", "Host: x", "")
		if c.is {
			parses(t, s, request("GET", c.in, nil, ""))
		} else {
			fails(t, s, api.ErrForm)
		}
	}
	for _, line := range []string{
		"", " ", "GET", "GET ", "GET /", "GET / ", "GET /HTTP/1.1", "GET  / HTTP/1.1", "GET /  HTTP/1.1", " GET / HTTP/1.1", "GET / HTTP/1.1 ", "GET\t/ HTTP/1.1", "GET /\tHTTP/1.1",
		"GET HTTP/1.1", "GET  HTTP/1.1", "/ HTTP/1.1", " / HTTP/1.1", "GET/ HTTP/1.1", "GET / http/1.1", "GET / Http/1.1", "GET / HTTP/1.0", "GET / HTTP/1.10", "GET / HTTP/1.2", "GET / HTTP/11", "GET / HTTP/2", "GET / HTTP/1,1",
		"GET / HTTP1.1", "GET / HTTP/1.", "GET / HTTP/ 1.1", "GET / HTTP/1.1x", "GET / / HTTP/1.1", "GET / HTTP/1.1 HTTP/1.1", "GET GET / HTTP/1.1", "GET a HTTP/1.1", "GET * HTTP/1.1", "GET http://x/ HTTP/1.1", "GET /# HTTP/1.1",
		"Host: x", "HTTP/1.1", "HTTP/1.1 GET /", "GET / HTTP/1.1\x00", "\x00GET / HTTP/1.1", "\ufeffGET / HTTP/1.1",
	} {
		fails(t, crlf(line, "Host: x", ""), api.ErrForm)
		fails(t, crlf(line)+"\r\n", api.ErrForm)
		fails(t, crlf(line), api.ErrForm)
	}
}

// P5.2
func TestFirstLinesOfResponses(t *testing.T) {
	for n := range 1000 {
		s := fmt.Sprintf("HTTP/1.1 %03d \r\n\r\n", n)
		if isStatusCode(n) {
			parses(t, s, response(n, nil, ""))
		} else {
			fails(t, s, api.ErrForm)
		}
	}
	for _, phrase := range []string{"", " ", "  ", "OK", "ok", "Other", "Not Found", " OK", "OK ", "200", "HTTP/1.1 200 OK", "~", "a:b#c", strings.Repeat("p", 286), strings.Repeat("p", 287), strings.Repeat(" ", 287)} {
		parses(t, crlf("HTTP/1.1 200 "+phrase, ""), response(200, nil, ""))
		parses(t, crlf("HTTP/1.1 404 "+phrase, "Content-Length: 1", "")+"b", response(404, nil, "b"))
	}
	for b := range 256 {
		for _, phrase := range []string{char(b), "a" + char(b), char(b) + "a", "a" + char(b) + "b"} {
			s := crlf("HTTP/1.1 200 "+phrase, "")
			if b >= 0x20 && b <= 0x7e {
				parses(t, s, response(200, nil, ""))
			} else {
				fails(t, s, api.ErrForm)
			}
		}
	}
	for _, line := range []string{
		"200 OK", "200 ", " 200 OK", "HTTP/1.1", "HTTP/1.1 ", "HTTP/1.1 200", "HTTP/1.1  200 OK", "HTTP/1.1 200OK", "HTTP/1.1 200\tOK", " HTTP/1.1 200 OK", "HTTP/1.1\t200 OK", "HTTP/1.1200 OK", "HTTP/1.1 2000 OK", "HTTP/1.1 0200 OK", "HTTP/1.1 20 OK", "HTTP/1.1 2 OK",
		"HTTP/1.1 20x OK", "HTTP/1.1 0x2 OK", "HTTP/1.1 +20 OK", "HTTP/1.1 -20 OK", "HTTP/1.1 -200 OK", "HTTP/1.1 +200 OK", "HTTP/1.1 2_0 OK", "HTTP/1.1 1e2 OK", "HTTP/1.1 1ff OK", "HTTP/1.1 2.0 OK", "HTTP/1.1 OK", "HTTP/1.1 OK 200",
		"http/1.1 200 OK", "Http/1.1 200 OK", "HTTP/1.0 200 OK", "HTTP/2 200 OK", "HTTP/1.10 200 OK", "HTTP/1.1 099 OK", "HTTP/1.1 600 OK", "HTTP/1.1 999 OK", "HTTP/1.1 000 OK", "HTTP/1.1 99 OK", "HTTP/1.1 /20 OK", "HTTP/1.1 :00 OK",
		"HTTP/1.1 200 " + strings.Repeat("p", 288), "HTTP/1.1 200 é", "HTTP/1.1 200 a\tb",
	} {
		fails(t, crlf(line, ""), api.ErrForm)
		fails(t, crlf(line), api.ErrForm)
	}
}

// P5.2
func TestHeaderLines(t *testing.T) {
	for _, c := range []struct {
		lines []string
		want  []api.Head
	}{
		{nil, nil},
		{[]string{"a: 1"}, list("a", "1")},
		{[]string{"a:1", "a:", "A: \t 2 \t"}, list("a", "1", "a", "", "A", "2")},
		{[]string{"Host: x", "Host: y"}, list("Host", "x", "Host", "y")},
		{[]string{"a: b: c", "b: Content-Length: 5"}, list("a", "b: c", "b", "Content-Length: 5")},
		{[]string{"a: 1", "Content-Length: 0", "b: 2"}, list("a", "1", "b", "2")},
		{[]string{"content-LENGTH:0", "b: 2"}, list("b", "2")},
		{[]string{"Connection: close", "a: 1", "connection: keep-alive", "CONNECTION:"}, list("a", "1")},
		{[]string{"Connections: 1", "Content-Lengths: 7", "Transfer-Encoding-: chunked", "Content_Length: 8"}, list("Connections", "1", "Content-Lengths", "7", "Transfer-Encoding-", "chunked", "Content_Length", "8")},
		{[]string{"a:" + strings.Repeat(" ", 298)}, list("a", "")},
		{[]string{strings.Repeat("n", 30) + ":" + strings.Repeat("\t", 69) + strings.Repeat("v", 200)}, list(strings.Repeat("n", 30), strings.Repeat("v", 200))},
	} {
		parses(t, ok("", c.lines...), response(200, c.want, ""))
		if len(c.want) < 2 || c.want[0].Name != "Host" {
			parses(t, put("", c.lines...), request("PUT", "/", c.want, ""))
		}
	}
	for _, line := range []string{
		"a", "a b: 1", "a : 1", " a: 1", "\ta: 1", ": 1", ":", " ", "\t", " b", "a 1", "é: 1", "a: é", "a: b\tc", "a: \x00", "a: \x7f", "a\x00: 1", "Host x", "GET / HTTP/1.1", "HTTP/1.1 200 OK", "Content-Length : 0", " Content-Length: 0", "Transfer-Encoding : chunked",
		"Content-Length", "Content-Length=0", strings.Repeat("n", 31) + ": 1", "a: " + strings.Repeat("v", 201), strings.Repeat("x", 300), "(" + strings.Repeat(" ", 299),
	} {
		fails(t, ok("", line), api.ErrHead)
		fails(t, ok("", "a: 1", line, "b: 2"), api.ErrHead)
		fails(t, put("", line), api.ErrHead)
		fails(t, put("something", "a: 1", line), api.ErrHead)
		// The line is complete, whatever comes behind it.
		fails(t, crlf("HTTP/1.1 200 OK", line), api.ErrHead)
	}
}

// P5.2
func TestLongLines(t *testing.T) {
	for n, e := range map[int]api.Errno{299: api.OK, 300: api.OK, 301: api.ErrForm, 302: api.ErrForm, 1000: api.ErrForm} {
		first := "HTTP/1.1 200 " + strings.Repeat("p", n-13)
		line := "a:" + strings.Repeat(" ", n-3) + "b"
		if e == api.OK {
			parses(t, crlf(first, ""), response(200, nil, ""))
			parses(t, ok("", line), response(200, list("a", "b"), ""))
			parses(t, ok("", "b: 1", line, line), response(200, list("b", "1", "a", "b", "a", "b"), ""))
		} else {
			fails(t, crlf(first, ""), e)
			fails(t, ok("", line), e)
			fails(t, ok("", "b: 1", line), e)
			// Also where it would be no header: that it is too long comes first.
			fails(t, ok("", strings.Repeat("x", n)), e)
			fails(t, ok("", strings.Repeat(" ", n)), e)
			fails(t, crlf(strings.Repeat("x", n), ""), e)
		}
		fails(t, ok(strings.Repeat("0", n)+"\r\n\r\n", chunkedLine), api.ErrForm)
		// Without an end it is none yet.
		fails(t, first, api.ErrTrunc)
		fails(t, crlf("HTTP/1.1 200 OK")+line, api.ErrTrunc)
		fails(t, ok(strings.Repeat("0", n), chunkedLine), api.ErrTrunc)
	}
}

// manyLines tells so many header lines, no two of one name.
func manyLines(n int) []string {
	var lines []string
	for _, h := range several(n) {
		lines = append(lines, h.Name+": "+h.Value)
	}
	return lines
}

// P5.2
func TestHowManyHeaderLines(t *testing.T) {
	parses(t, ok("", manyLines(16)...), response(200, several(16), ""))
	fails(t, ok("", manyLines(17)...), api.ErrArg)
	fails(t, ok("", manyLines(20)...), api.ErrArg)
	fails(t, ok("", manyLines(21)...), api.ErrForm)
	fails(t, ok("", manyLines(25)...), api.ErrForm)
	parses(t, put("", manyLines(15)...), request("PUT", "/", several(15), ""))
	fails(t, put("", manyLines(16)...), api.ErrArg)
	fails(t, put("", manyLines(19)...), api.ErrArg)
	fails(t, put("", manyLines(20)...), api.ErrForm)
	// Those that are omitted are lines, too, but no headers of the message.
	same := slices.Repeat([]string{"Connection: x"}, 21)
	parses(t, ok("", same[:20]...), response(200, nil, ""))
	fails(t, ok("", same...), api.ErrForm)
	parses(t, ok("", append(manyLines(16), same[:4]...)...), response(200, several(16), ""))
	parses(t, ok("b", append(append(same[:3:3], manyLines(16)...), "Content-Length: 1")...), response(200, several(16), "b"))
	fails(t, ok("", append(manyLines(17), same[:3]...)...), api.ErrArg)
	fails(t, ok("", append(manyLines(16), same[:5]...)...), api.ErrForm)
	// What the 21st one is does not count, only that it is one.
	for _, line := range []string{"a: 1", "no header", " ", "Content-Length: 7", strings.Repeat("x", 301), "\r", "\n"} {
		fails(t, ok("", append(same[:20:20], line)...), api.ErrForm)
		fails(t, crlf(append(append([]string{"HTTP/1.1 200 OK"}, same[:20]...), line)...), api.ErrForm)
	}
	fails(t, crlf(append([]string{"HTTP/1.1 200 OK"}, same[:20]...)...), api.ErrTrunc)
	fails(t, crlf(append([]string{"HTTP/1.1 200 OK"}, same[:20]...)...)+"a: 1", api.ErrTrunc)
	// The first line that is wrong decides.
	fails(t, ok("", append(append(same[:19:19], "no header"), same...)...), api.ErrHead)
}

// P5.2
func TestHostsOfParsedRequests(t *testing.T) {
	for _, c := range []struct {
		lines []string
		e     api.Errno
	}{
		{[]string{"Host: x"}, api.OK},
		{[]string{"a: 1", "hOST:x"}, api.OK},
		{nil, api.ErrArg},
		{[]string{"Hosts: x"}, api.ErrArg},
		{[]string{"Host:"}, api.ErrArg},
		{[]string{"Host: \t "}, api.ErrArg},
		{[]string{"Host: x", "Host: x"}, api.ErrArg},
		{[]string{"Host: x", "a: 1", "host: y"}, api.ErrArg},
		{[]string{"Host: x", "Host:"}, api.ErrArg},
		{[]string{"Host:", "Host: x"}, api.ErrArg},
	} {
		s := crlf(append(append([]string{"GET / HTTP/1.1"}, c.lines...), "")...)
		asTold(t, s)
		if _, e := Parse([]byte(s)); e != c.e {
			t.Errorf("Parse(%q): %d, not %d", s, e, c.e)
		}
		if _, e := Parse([]byte(crlf(append(append([]string{"HTTP/1.1 200 OK"}, c.lines...), "")...))); e != api.OK {
			t.Errorf("a response with %q: %d", c.lines, e)
		}
		if c.e != api.OK {
			// All else comes first.
			fails(t, s+"x", api.ErrForm)
			fails(t, strings.TrimSuffix(s, "\n"), api.ErrTrunc)
			fails(t, strings.Replace(s, "\r\n\r\n", "\r\nContent-Length: x\r\n\r\n", 1), api.ErrLength)
			fails(t, strings.Replace(s, "\r\n\r\n", "\r\nContent-Length: 5\r\n\r\n", 1), api.ErrTrunc)
			fails(t, strings.Replace(s, "\r\n\r\n", "\r\nContent-Length: 2001\r\n\r\n", 1), api.ErrLimit)
		}
	}
}

// P5.2
func TestLengths(t *testing.T) {
	for _, c := range []struct {
		value string
		n     int
	}{
		{"0", 0}, {"00", 0}, {"000", 0}, {"0000", 0}, {"1", 1}, {"01", 1}, {"001", 1}, {"0001", 1}, {"9", 9}, {"10", 10}, {"010", 10}, {"0010", 10}, {"99", 99}, {"0999", 999}, {"1999", 1999}, {"2000", 2000},
		{"\t2", 2}, {"2 \t", 2},
	} {
		body := strings.Repeat("b", c.n)
		for _, name := range []string{"Content-Length: ", "content-length:", "CONTENT-LENGTH:\t"} {
			parses(t, ok(body, name+c.value), response(200, nil, body))
			parses(t, put(body, name+c.value, "a: 1"), request("PUT", "/", list("a", "1"), body))
			fails(t, put(body+"b", name+c.value), api.ErrForm)
			fails(t, put(body+"\r\n", name+c.value), api.ErrForm)
			if c.n > 0 {
				fails(t, put(body[1:], name+c.value), api.ErrTrunc)
				fails(t, put("", name+c.value), api.ErrTrunc)
			}
		}
	}
	for _, value := range []string{"2001", "2010", "3000", "9999"} {
		for _, body := range []string{"", "b", strings.Repeat("b", 2000), strings.Repeat("b", 2001), strings.Repeat("b", 3001)} {
			fails(t, put(body, "Content-Length: "+value), api.ErrLimit)
		}
	}
	for _, value := range []string{"", "00000", "00001", "02000", "10000", "20000", "99999", strings.Repeat("0", 100), strings.Repeat("9", 200), "+0", "+1", "-0", "-1", "- 1", "a", "1a", "a1", "0x1", "0X1", "1e1", "1f", "ff", "1.0", "1,1", "1, 1", "1 1", "0 0", "1_0", "1;", "\"1\"", "chunked", "/", ":"} {
		for _, body := range []string{"", "b", strings.Repeat("b", 15)} {
			fails(t, put(body, "Content-Length: "+value), api.ErrLength)
			fails(t, ok(body, "a: 1", "Content-Length:"+value+" "), api.ErrLength)
		}
	}
	// Without a length there is no body.
	parses(t, ok(""), response(200, nil, ""))
	fails(t, ok("b"), api.ErrForm)
	fails(t, put("\r\n"), api.ErrForm)
	fails(t, put("0\r\n\r\n"), api.ErrForm)
	fails(t, put(put("")), api.ErrForm)
}

// P5.2
func TestCodings(t *testing.T) {
	for _, line := range []string{"Transfer-Encoding: chunked", "transfer-encoding:chunked", "TRANSFER-ENCODING: CHUNKED", "Transfer-Encoding:\tChunked ", "tRANSFER-eNCODING: cHUNKEd"} {
		parses(t, put("1\r\nb\r\n0\r\n\r\n", line, "a: 1"), request("PUT", "/", list("a", "1"), "b"))
		parses(t, ok("0\r\n\r\n", "a: 1", line), response(200, list("a", "1"), ""))
		fails(t, ok("", line), api.ErrTrunc)
	}
	for _, value := range []string{"", "chunke", "chunkedd", "chunked,", "gzip", "gzip, chunked", "chunked, chunked", "chunked;q=1", "identity", "0", "1", "chun ked", "\"chunked\"", "x chunked", "c", "chun-ked", "chunKed1"} {
		for _, body := range []string{"", "0\r\n\r\n", "1\r\nb\r\n0\r\n\r\n", "b"} {
			fails(t, put(body, "Transfer-Encoding: "+value), api.ErrLength)
			fails(t, ok(body, "Transfer-Encoding:"+value+"\t", "a: 1"), api.ErrLength)
		}
	}
}

// P5.2
func TestTwoThatTellOfTheBody(t *testing.T) {
	kinds := []string{"Content-Length: 1", "Content-Length: 0", "content-length: 1", "Content-Length: 01", "Content-Length: 2001", "Content-Length: x", "Content-Length:", chunkedLine, "transfer-encoding: CHUNKED", "Transfer-Encoding: gzip", "Transfer-Encoding:"}
	for _, a := range kinds {
		for _, b := range kinds {
			for _, body := range []string{"", "b", "0\r\n\r\n", "1\r\nb\r\n0\r\n\r\n"} {
				fails(t, put(body, a, b), api.ErrLength)
				fails(t, put(body, a, "a: 1", b, "b: 2"), api.ErrLength)
				fails(t, ok(body, a, "Connection: "+b, b, a), api.ErrLength)
			}
		}
	}
}

// P5.2
func TestChunks(t *testing.T) {
	letters := strings.Repeat("b", 255)
	for _, c := range []struct {
		in   string
		body string
	}{
		{"0\r\n\r\n", ""},
		{"00\r\n\r\n", ""},
		{"000\r\n\r\n", ""},
		{"0000\r\n\r\n", ""},
		{"3\r\nabc\r\n0\r\n\r\n", "abc"},
		{"1\r\na\r\n2\r\nbc\r\n0\r\n\r\n", "abc"},
		{"03\r\nabc\r\n00\r\n\r\n", "abc"},
		{"003\r\nabc\r\n000\r\n\r\n", "abc"},
		{"0003\r\nabc\r\n0000\r\n\r\n", "abc"},
		{"2\r\n\r\n\r\n0\r\n\r\n", "\r\n"},
		{"7\r\n0\r\n\r\n\r\n\r\n0\r\n\r\n", "0\r\n\r\n\r\n"},
		{"a\r\n" + letters[:10] + "\r\n0\r\n\r\n", letters[:10]},
		{"A\r\n" + letters[:10] + "\r\n0\r\n\r\n", letters[:10]},
		{"0f\r\n" + letters[:15] + "\r\n0\r\n\r\n", letters[:15]},
		{"00F\r\n" + letters[:15] + "\r\n0\r\n\r\n", letters[:15]},
		{"10\r\n" + letters[:16] + "\r\n0\r\n\r\n", letters[:16]},
		{"fF\r\n" + letters + "\r\n0\r\n\r\n", letters},
		{"00Ff\r\n" + letters + "\r\n0\r\n\r\n", letters},
		{"7d0\r\n" + strings.Repeat("b", 2000) + "\r\n0\r\n\r\n", strings.Repeat("b", 2000)},
		{"07D0\r\n" + strings.Repeat("b", 2000) + "\r\n0\r\n\r\n", strings.Repeat("b", 2000)},
		{"7CF\r\n" + strings.Repeat("b", 1999) + "\r\n1\r\nc\r\n0\r\n\r\n", strings.Repeat("b", 1999) + "c"},
		{"1\r\nc\r\n7cf\r\n" + strings.Repeat("b", 1999) + "\r\n0\r\n\r\n", "c" + strings.Repeat("b", 1999)},
	} {
		parses(t, put(c.in, chunkedLine), request("PUT", "/", nil, c.body))
		parses(t, ok(c.in, "a: 1", chunkedLine), response(200, list("a", "1"), c.body))
		// Nothing follows.
		for _, more := range []string{"\r\n", "\n", "x", "0", "0\r\n\r\n", "a: 1\r\n\r\n", put("")} {
			fails(t, put(c.in+more, chunkedLine), api.ErrForm)
		}
		for n := range len(c.in) {
			fails(t, put(c.in[:n], chunkedLine), api.ErrTrunc)
		}
	}
}

// P5.2
func TestLinesOfChunks(t *testing.T) {
	for _, line := range []string{
		"", "00000", "00001", "00003", "000000", "12345", "fffff", "0x3", "0X3", "x", "g", "G", "3g", "g3", " 3", "3 ", "\t3", "3\t", "3 3", "+3", "-3", "-0", "+0", "3;", "3;a=b", "3; a", ";", "3.", "3,", "3h", "_3", "3_", "1_0", "3:", "3/", "@", "`", "é", "\x00", "3\x00",
		"3\r", "3\n", "\r3", "\n3", "\n", "\r", "abc ", strings.Repeat("0", 300), strings.Repeat("0", 301),
	} {
		for _, behind := range []string{"", "\r\n", "abc", "abc\r\n", "abc\r\n0\r\n\r\n", "abc\r\n0", strings.Repeat("b", 2001)} {
			fails(t, put(line+"\r\n"+behind, chunkedLine), api.ErrForm)
			fails(t, ok("1\r\nb\r\n"+line+"\r\n"+behind, chunkedLine), api.ErrForm)
		}
		if !strings.ContainsAny(line, "\r\n") {
			fails(t, ok(line, chunkedLine), api.ErrTrunc)
			fails(t, ok("1\r\nb\r\n"+line, chunkedLine), api.ErrTrunc)
		}
	}
}

// P5.2
func TestEndsOfChunks(t *testing.T) {
	for _, c := range []struct {
		in string
		e  api.Errno
	}{
		{"", api.ErrTrunc}, {"3", api.ErrTrunc}, {"3\r", api.ErrTrunc}, {"3\n", api.ErrTrunc}, {"3\r\n", api.ErrTrunc}, {"3\r\nab", api.ErrTrunc}, {"3\r\nabc", api.ErrTrunc},
		{"3\r\nabc\r", api.ErrTrunc}, {"3\r\nabc\n", api.ErrTrunc}, {"3\r\nabcd", api.ErrTrunc}, {"3\r\nabc\r\n", api.ErrTrunc}, {"3\r\nabc\r\n0", api.ErrTrunc}, {"3\r\nabc\r\n0\r\n", api.ErrTrunc}, {"3\r\nabc\r\n0\r\n\r", api.ErrTrunc},
		{"3\r\nabc\r\n0\r\nx", api.ErrTrunc}, {"3\r\n\r\n", api.ErrTrunc}, {"3\r\na\r\n", api.ErrTrunc},
		{"3\r\nabcd\r\n0\r\n\r\n", api.ErrForm}, {"3\r\nabc\n\r0\r\n\r\n", api.ErrForm}, {"3\r\nabc\r\r\n0\r\n\r\n", api.ErrForm}, {"3\r\nabc\n0\r\n\r\n", api.ErrForm}, {"3\r\nabc\r0\r\n\r\n", api.ErrForm}, {"3\r\nabc0\r\n\r\n", api.ErrForm},
		{"3\r\nabcde", api.ErrForm}, {"4\r\n0\r\n\r\n0\r\n\r\n", api.ErrForm}, {"3\r\nab\r\n0\r\n\r\n", api.ErrForm}, {"3\r\nabc\r\n\r\n0\r\n\r\n", api.ErrForm}, {"3\r\nabc\r\n\r\n", api.ErrForm},
		{"0\r\nab", api.ErrForm}, {"0\r\na: 1\r\n\r\n", api.ErrForm}, {"0\r\n\n\r", api.ErrForm}, {"0\r\n\r\r", api.ErrForm}, {"0\r\n\n\n", api.ErrForm}, {"0\r\n0\r\n\r\n", api.ErrForm}, {"0\r\n3\r\nabc\r\n0\r\n\r\n", api.ErrForm},
		{"3\nabc\n0\n\n", api.ErrTrunc}, {"3\nabc\r\n0\r\n\r\n", api.ErrForm}, {"3\rabc\r\n0\r\n\r\n", api.ErrForm},
		// As soon as the line is read.
		{"7d1\r\n", api.ErrLimit}, {"7D1\r\nb", api.ErrLimit}, {"7d1\r\n" + strings.Repeat("b", 2001) + "\r\n0\r\n\r\n", api.ErrLimit}, {"ffff\r\n", api.ErrLimit}, {"1000\r\n\r\n", api.ErrLimit}, {"7d0\r\n", api.ErrTrunc},
		{"7d1", api.ErrTrunc}, {"7d1\r", api.ErrTrunc}, {"7d1 \r\n", api.ErrForm},
		{"7d0\r\n" + strings.Repeat("b", 2000) + "\r\n1\r\n", api.ErrLimit}, {"7d0\r\n" + strings.Repeat("b", 2000) + "\r\n0\r\n", api.ErrTrunc}, {"7d0\r\n" + strings.Repeat("b", 2000) + "x\r\n1\r\n", api.ErrForm},
		{"1\r\nb\r\n7d0\r\n", api.ErrLimit}, {"1\r\nb\r\n7cf\r\n", api.ErrTrunc}, {"1\r\nbx\r\n7d0\r\n", api.ErrForm},
		{"3e8\r\n" + strings.Repeat("b", 1000) + "\r\n3e9\r\nb", api.ErrLimit}, {"3e8\r\n" + strings.Repeat("b", 1000) + "\r\n3e8\r\nb", api.ErrTrunc},
	} {
		fails(t, put(c.in, chunkedLine), c.e)
		fails(t, ok(c.in, "a: 1", chunkedLine, "b: 2"), c.e)
	}
}

// P5.2
func TestWhichErrorComesFirst(t *testing.T) {
	large := strings.Repeat("x", 8193)
	for _, c := range []struct {
		in string
		e  api.Errno
	}{
		{"", api.ErrTrunc},
		{"\r", api.ErrTrunc},
		{"\n", api.ErrTrunc},
		{"\r\n", api.ErrForm},
		{"\n\r\n", api.ErrForm},
		{"x", api.ErrTrunc},
		{large, api.ErrLimit},
		{large[1:], api.ErrTrunc},
		{large[:301], api.ErrTrunc},
		{large[:301] + "\r\n", api.ErrForm},
		{"\r\n" + large[:8191], api.ErrLimit},
		{"\r\n" + large[:8190], api.ErrForm},
		{put(large), api.ErrLimit},
		{"GET / HTTP/1.1\nHost: x\n\n", api.ErrTrunc},
		{"GET / HTTP/1.1\rHost: x\r\r", api.ErrTrunc},
		{"GET / HTTP/1.1\n\r\n", api.ErrForm},
		// The first line that is wrong decides.
		{crlf("GET / HTTP/1.0", "no header", "Content-Length: x", ""), api.ErrForm},
		{crlf("GET / HTTP/1.1", "no header", "Content-Length: x", ""), api.ErrHead},
		{crlf("GET / HTTP/1.1", "Content-Length: x", "no header", ""), api.ErrHead},
		{crlf("GET / HTTP/1.1", "Content-Length: x", "a: \r1", ""), api.ErrForm},
		{crlf("GET / HTTP/1.1", "no header", "a: \r1", ""), api.ErrHead},
		{crlf("GET / HTTP/1.1", "a: \r1", "no header", ""), api.ErrForm},
		{crlf("GET / HTTP/1.1", "no\nheader", ""), api.ErrForm},
		{crlf("GET / HTTP/1.1", "no header", large[:301], ""), api.ErrHead},
		{crlf("GET / HTTP/1.1", large[:301], "no header", ""), api.ErrForm},
		// At the empty line, not earlier.
		{crlf("GET / HTTP/1.1", "Content-Length: x", "Content-Length: y"), api.ErrTrunc},
		{crlf("GET / HTTP/1.1", "Content-Length: 9999"), api.ErrTrunc},
		{crlf("GET / HTTP/1.1", "Content-Length: x", ""), api.ErrLength},
		{crlf("GET / HTTP/1.1", "Content-Length: 9999", "Content-Length: 9999", ""), api.ErrLength},
		{crlf("GET / HTTP/1.1", "Content-Length: 9999", "Transfer-Encoding: x", ""), api.ErrLength},
		{crlf("GET / HTTP/1.1", "Content-Length: 9999", "") + "body", api.ErrLimit},
		{crlf("GET / HTTP/1.1", "Content-Length: 9", "") + "body", api.ErrTrunc},
		{crlf("GET / HTTP/1.1", "Content-Length: 3", "") + "body", api.ErrForm},
		{crlf("GET / HTTP/1.1", "Content-Length: 4", "") + "body", api.ErrArg},
		{crlf("GET / HTTP/1.1", chunkedLine, "") + "x\r\n7d1\r\n", api.ErrForm},
		{crlf("GET / HTTP/1.1", chunkedLine, "") + "7d1\r\nx", api.ErrLimit},
		{crlf("GET / HTTP/1.1", chunkedLine, "") + "0\r\n\r\n", api.ErrArg},
		{crlf("GET / HTTP/1.1", chunkedLine, "") + "0\r\n\r\nx", api.ErrForm},
		{ok("x", manyLines(17)...), api.ErrForm},
		{ok("", append(manyLines(17), "Content-Length: x")...), api.ErrLength},
		{ok("", append(manyLines(17), "Content-Length: 1")...), api.ErrTrunc},
		{ok("b", append(manyLines(17), "Content-Length: 1")...), api.ErrArg},
	} {
		fails(t, c.in, c.e)
	}
	if _, e := Parse(nil); e != api.ErrTrunc {
		t.Error("Parse(nil):", e)
	}
}

// samples tells bytes that are parsed, of each kind.
func samples() []string {
	return []string{
		put(""), put("", "Content-Length: 0"), put("abc", "Content-Length: 3", "a: 1"), put("\r\n\r\n", "a:", "Content-Length: 004"),
		put("3\r\nabc\r\n0A\r\n0123456789\r\n0\r\n\r\n", "a: 1", chunkedLine), put("00\r\n\r\n", chunkedLine, "Connection: close"),
		ok(""), ok("abc", "a: b c", "Content-Length:3"), ok("2\r\n\r\n\r\n0000\r\n\r\n", "Transfer-Encoding:\tCHUNKED"), crlf("HTTP/1.1 404 ", ""), crlf("DELETE /a?b HTTP/1.1", "hOST: x", ""),
	}
}

// P5.2: a carriage return alone, a line feed alone, in each place.
func TestHalfAnEnd(t *testing.T) {
	for _, s := range samples() {
		if _, e := Parse([]byte(s)); e != api.OK {
			t.Fatalf("Parse(%q): %d", s, e)
		}
		for at := range len(s) + 1 {
			for _, half := range []string{"\r", "\n"} {
				// More bytes than the message has: some line contains it, or something is not where it should be.
				fails(t, s[:at]+half+s[at:], api.ErrForm)
			}
			if at < len(s) && (s[at] == '\r' || s[at] == '\n') {
				if _, e := Parse([]byte(s[:at] + s[at+1:])); e != api.ErrForm && e != api.ErrTrunc && e != api.ErrLength {
					t.Errorf("Parse(%q) without the byte at %d: %d", s, at, e)
				}
				asTold(t, s[:at]+s[at+1:])
			}
		}
		asTold(t, strings.ReplaceAll(s, "\r\n", "\n"))
		asTold(t, strings.ReplaceAll(s, "\r\n", "\r"))
		asTold(t, strings.ReplaceAll(s, "\r\n", "\n\r"))
		for n := range strings.Count(s, "\r\n") {
			parts := strings.SplitN(s, "\r\n", n+2)
			for _, other := range []string{"", "\r", "\n", "\n\r", "\r\r", "\n\n", "\r\r\n", "\r\n\r", "\r\n\r\n"} {
				asTold(t, strings.Join(parts[:n+1], "\r\n")+other+parts[n+1])
			}
		}
	}
}

// P5.2: bytes that are nearly a message.
func TestNearlyMessages(t *testing.T) {
	pieces := []string{"\r", "\n", "\r\n", "\r\n\r\n", " ", "\t", ":", "0", "1", "a", "A", "F", "g", "-", "+", ";", "#", "/", "\x00", "\x1f", "\x7f", "\x80", "\xff", "é"}
	for _, s := range samples() {
		for at := range len(s) {
			asTold(t, s[:at]+s[at+1:])
			for _, p := range pieces {
				asTold(t, s[:at]+p+s[at:])
				asTold(t, s[:at]+p+s[at+1:])
			}
		}
	}
}

// P5.2: bytes put together of parts of messages.
func TestParts(t *testing.T) {
	parts := []string{"GET / HTTP/1.1\r\n", "PUT /a HTTP/1.1\r\n", "HTTP/1.1 200 OK\r\n", "HTTP/1.1 200 \r\n", "Host: x\r\n", "host:y\r\n", "Host:\r\n", "a: 1\r\n", "Content-Length: 3\r\n", "Content-Length: 0\r\n", "content-length: 2001\r\n", chunkedLine + "\r\n", "Transfer-Encoding: x\r\n",
		"Connection: a\r\n", "\r\n", "\r\n", "\r\n", "\r", "\n", "3\r\n", "abc", "abc\r\n", "0\r\n", "0\r\n\r\n", "7D1\r\n", "no header\r\n", "x"}
	choose := rand.New(rand.NewSource(5))
	parsed := 0
	for range 200000 {
		s := parts[choose.Intn(4)]
		for range choose.Intn(8) {
			s += parts[choose.Intn(len(parts))]
		}
		asTold(t, s)
		if _, e := told(s); e == api.OK {
			parsed++
		}
	}
	if parsed < 1000 {
		t.Errorf("only %d were messages", parsed)
	}
}

// P5.5
func TestEncodedMessagesAreParsed(t *testing.T) {
	for _, m := range messages() {
		b, e := Bytes(m)
		if e != api.OK {
			t.Fatalf("Bytes(%v): %d", m, e)
		}
		if got, e := Parse(b); e != api.OK || !equal(got, m) || !Same(got, m) {
			t.Fatalf("%v is parsed as %v, %d", m, got, e)
		}
		for _, size := range sizes() {
			b, e := Chunked(m, size)
			if e == api.ErrLimit {
				continue
			}
			if got, f := Parse(b); e != api.OK || f != api.OK || !equal(got, m) || !Same(got, m) {
				t.Fatalf("%v in chunks of %d bytes is parsed as %v, %d", m, size, got, f)
			}
		}
	}
}

// P5.5
func TestEachChunkSize(t *testing.T) {
	m := request("PUT", "/", nil, strings.Repeat("0123456789\r\n", 166)+"01234567")
	for size := 1; size <= 4095; size++ {
		b, e := Chunked(m, size)
		if e == api.ErrLimit && len(inChunks(m, size)) > 8192 {
			continue
		}
		if got, f := Parse(b); e != api.OK || f != api.OK || !equal(got, m) {
			t.Fatalf("in chunks of %d bytes: %d, %d", size, e, f)
		}
	}
}

// P5.6
func TestNoSmuggling(t *testing.T) {
	all := samples()
	for i, m := range messages() {
		// Of each length of body, of requests and responses.
		if i%7 == 0 || len(m.Body) > 2 {
			b, _ := Bytes(m)
			all = append(all, string(b))
			for _, size := range []int{1, 3, 16, 1000, 4095} {
				if b, e := Chunked(m, size); e == api.OK && len(b) < 1000 {
					all = append(all, string(b))
				}
			}
		}
	}
	for _, s := range all {
		if _, e := Parse([]byte(s)); e != api.OK {
			t.Fatalf("Parse(%q): %d", s, e)
		}
		for n := range len(s) {
			if got, e := Parse([]byte(s)[:n]); e != api.ErrTrunc || !zero(got) {
				t.Fatalf("the first %d bytes of %q are parsed: %v, %d", n, s, got, e)
			}
		}
		for _, more := range []string{"\x00", " ", "\n", "\r", "\r\n", "x", "0", "0\r\n\r\n", "a: 1\r\n\r\n", s, "GET / HTTP/1.1\r\nHost: x\r\n\r\n", strings.Repeat("x", 8193)} {
			want := api.ErrForm
			if len(s)+len(more) > 8192 {
				want = api.ErrLimit
			}
			if got, e := Parse([]byte(s + more)); e != want || !zero(got) {
				t.Fatalf("%q with %.20q behind it is parsed: %v, %d", s, more, got, e)
			}
		}
	}
}

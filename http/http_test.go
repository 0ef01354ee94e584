package http

import (
	"bytes"
	"fmt"
	"math"
	"reflect"
	"slices"
	"strings"
	"testing"
	"unsafe"

	"chinoiserie/api"
)

// list tells headers of names and values in turn.
func list(parts ...string) []api.Head {
	var l []api.Head
	for i := 0; i < len(parts); i += 2 {
		l = append(l, api.Head{Name: parts[i], Value: parts[i+1]})
	}
	return l
}

// several tells so many headers, no two of one name.
func several(n int) []api.Head {
	var l []api.Head
	for i := range n {
		l = append(l, api.Head{Name: "n" + strings.Repeat("x", i), Value: strings.Repeat("v", i)})
	}
	return l
}

// request is one with a Host ahead of these headers.
func request(method, path string, heads []api.Head, body string) api.Message {
	return api.Message{Method: method, Path: path, Heads: append(list("Host", "x"), heads...), Body: []byte(body)}
}

func response(status int, heads []api.Head, body string) api.Message {
	return api.Message{Status: status, Heads: heads, Body: []byte(body)}
}

// crlf ends each of these lines.
func crlf(lines ...string) string {
	return strings.Join(lines, "\r\n") + "\r\n"
}

// char is the text of one byte.
func char(b int) string { return string([]byte{byte(b)}) }

// shared tells whether two texts have a byte of memory in common.
func shared(a, b string) bool {
	if a == "" || b == "" {
		return false
	}
	x, y := uintptr(unsafe.Pointer(unsafe.StringData(a))), uintptr(unsafe.Pointer(unsafe.StringData(b)))
	return x < y+uintptr(len(b)) && y < x+uintptr(len(a))
}

// textOf is the memory of bytes, as a text.
func textOf(b []byte) string { return unsafe.String(unsafe.SliceData(b), len(b)) }

// textsOf are all texts of a message, and its body.
func textsOf(m api.Message) []string {
	all := []string{m.Method, m.Path, textOf(m.Body)}
	for _, h := range m.Heads {
		all = append(all, h.Name, h.Value)
	}
	return all
}

// equal compares messages in another way than the program does; nil and empty lists are equal.
func equal(a, b api.Message) bool {
	for _, m := range []*api.Message{&a, &b} {
		if len(m.Heads) == 0 {
			m.Heads = nil
		}
		if len(m.Body) == 0 {
			m.Body = nil
		}
	}
	return reflect.DeepEqual(a, b)
}

func zero(m api.Message) bool { return reflect.DeepEqual(m, api.Message{}) }

func methods() []string { return []string{"GET", "PUT", "POST", "DELETE", "HEAD"} }

// noMethods tells texts that are nearly methods, or are those of others.
func noMethods() []string {
	all := []string{"", "G", "GE", "GETT", "GET GET", "get", "Get", "gET", " GET", "GET ", "\tGET", "GET\t", "put", "post", "delete", "head", "Head",
		"PATCH", "OPTIONS", "CONNECT", "TRACE", "GETPUT", "PUTS", "/", "HTTP/1.1", "G\x00T", "GÉT", "GET\r", "GET\n", "GET\r\n"}
	for _, m := range methods() {
		all = append(all, m[:len(m)-1], m[1:], m+"X", m+"\x00", strings.ToLower(m))
	}
	return all
}

type pathCase struct {
	in string
	is bool
}

func paths() []pathCase {
	long := "/" + strings.Repeat("p", 58)
	all := []pathCase{
		{"/", true}, {"//", true}, {"/a", true}, {"/a/b?c=d&e", true}, {"/~!", true}, {"/%20:@[]", true}, {"/HTTP/1.1", true},
		{long, true}, {long + "q", true}, {long + "qr", false}, {long + strings.Repeat("q", 200), false},
		{strings.Repeat("/", 60), true}, {strings.Repeat("/", 61), false},
		{"", false}, {"a", false}, {"a/", false}, {"*", false}, {"http://x/", false}, {"#", false}, {"#/", false}, {"/#", false}, {"/a#b", false},
		{" /", false}, {"/ ", false}, {"/a b", false}, {" ", false}, {"/é", false}, {"é/", false}, {"/\r\n", false}, {"/\ufffd", false},
	}
	for b := range 256 {
		is := b >= 0x21 && b <= 0x7e && b != '#'
		all = append(all, pathCase{"/" + char(b), is}, pathCase{"/a" + char(b) + "b", is}, pathCase{long + char(b), is}, pathCase{char(b), b == '/'}, pathCase{char(b) + "/", b == '/'})
	}
	return all
}

// wordOf is what the document says.
func wordOf(status int) string {
	words := map[int]string{200: "OK", 400: "Bad Request", 403: "Forbidden", 404: "Not Found", 503: "Service Unavailable", 504: "Gateway Timeout"}
	if w, found := words[status]; found {
		return w
	}
	return "Other"
}

// statuses tells numbers around and among those that are statuses.
func statuses() []int {
	all := []int{math.MinInt, -1 << 32, -599, -200, -100, 1200, 2000, 9999, 1<<32 + 200, math.MaxInt}
	for n := -3; n <= 1003; n++ {
		all = append(all, n)
	}
	return all
}

func isStatusCode(n int) bool { return 100 <= n && n <= 599 }

// bodies tells bodies that may be; most look like something else.
func bodies() []string {
	var every []byte
	for b := range 256 {
		every = append(every, byte(b))
	}
	return []string{"", "a", "ab", "\r\n", "\n", "0\r\n\r\n", "GET / HTTP/1.1\r\nHost: x\r\n\r\n", "\x00", strings.Repeat("\r\n", 20), string(every),
		strings.Repeat("b", 15), strings.Repeat("b", 16), strings.Repeat("b", 17), strings.Repeat("c", 255), strings.Repeat("c", 256), strings.Repeat("d", 1999), strings.Repeat("d", 2000)}
}

// messages tells messages that are valid.
func messages() []api.Message {
	var all []api.Message
	for _, m := range methods() {
		all = append(all, request(m, "/", nil, ""), request(m, "/"+m, list("A", "1"), "body"))
	}
	for _, p := range paths() {
		if p.is {
			all = append(all, request("PUT", p.in, nil, "b"))
		}
	}
	for _, s := range statuses() {
		if isStatusCode(s) {
			all = append(all, response(s, nil, ""), response(s, list("Host", ""), "b"))
		}
	}
	for _, b := range bodies() {
		all = append(all, request("POST", "/b", nil, b), request("GET", "/b", several(15), b), response(200, nil, b), response(504, several(16), b))
	}
	full := slices.Repeat(list(strings.Repeat("n", 30), strings.Repeat("v", 200)), 15)
	return append(all,
		request("GET", "/", full, strings.Repeat("e", 2000)),
		response(100, append(full, full[0]), strings.Repeat("e", 2000)),
		response(200, list("Host", "a", "host", "b", "HOST", ""), ""),
		response(599, list("A", "", "a", "", "A", "1"), ""),
		api.Message{Method: "GET", Path: "/", Heads: list("a", "1", "hOST", "y z", "b", "2")},
		api.Message{Method: "GET", Path: "/", Heads: append(several(15), list("HOST", "last")...)},
		request("GET", "/", list("Content-Lengths", "1", "Content_Length", "2", "Transfer-Encodin", "chunked", "Connections", "close", "X-Connection", "x", "Hosts", "1", "Hos", "2"), ""),
		request("GET", "/", list("A", "Content-Length: 5", "B", "chunked"), ""))
}

// The table 'Examples' of the chapter.
func TestExamples(t *testing.T) {
	for _, c := range []struct {
		in   string
		want api.Message
		e    api.Errno
	}{
		{crlf("GET /a HTTP/1.1", "host: x", ""), api.Message{Method: "GET", Path: "/a", Heads: list("host", "x")}, api.OK},
		{crlf("PUT / HTTP/1.1", "Host: x", "Transfer-Encoding: Chunked", "", "3", "abc", "0", ""), request("PUT", "/", nil, "abc"), api.OK},
		{crlf("HTTP/1.1 200", "Content-Length: 2", "") + "ab", api.Message{}, api.ErrForm},
		{crlf("GET / HTTP/1.1", "Host: x", "Content-Length: 1", "Content-Length: 1", "") + "a", api.Message{}, api.ErrLength},
		{crlf("GET / HTTP/1.1", ""), api.Message{}, api.ErrArg},
		{crlf("GET / HTTP/1.1", "Host: x"), api.Message{}, api.ErrTrunc},
	} {
		if got, e := Parse([]byte(c.in)); !equal(got, c.want) || e != c.e {
			t.Errorf("Parse(%q): %v, %d", c.in, got, e)
		}
	}
}

// holds asks Check, Bytes and Chunked of a message.
func holds(t *testing.T, m api.Message, valid bool) {
	t.Helper()
	want := api.ErrArg
	if valid {
		want = api.OK
	}
	if e := Check(m); e != want {
		t.Errorf("Check(%.200q): %d, not %d", fmt.Sprint(m), e, want)
	}
	if b, e := Bytes(m); e != want || (len(b) > 0) != valid {
		t.Errorf("Bytes(%.200q): %.80q, %d, not %d", fmt.Sprint(m), b, e, want)
	}
	if b, e := Chunked(m, 1000); e != want || (len(b) > 0) != valid {
		t.Errorf("Chunked(%.200q): %.80q, %d, not %d", fmt.Sprint(m), b, e, want)
	}
}

// P5.1
func TestValidMessages(t *testing.T) {
	for _, m := range messages() {
		holds(t, m, true)
	}
}

// P5.1
func TestMethods(t *testing.T) {
	for _, m := range methods() {
		holds(t, request(m, "/", nil, ""), true)
	}
	for _, m := range noMethods() {
		holds(t, request(m, "/", nil, ""), false)
	}
}

// P5.1
func TestPaths(t *testing.T) {
	for _, c := range paths() {
		holds(t, request("GET", c.in, nil, ""), c.is)
	}
}

// P5.1
func TestStatuses(t *testing.T) {
	for _, s := range statuses() {
		holds(t, response(s, nil, ""), isStatusCode(s))
	}
}

// P5.1
func TestNeitherRequestNorResponse(t *testing.T) {
	host := list("Host", "x")
	for _, m := range []api.Message{
		{},
		{Heads: host},
		{Heads: host, Body: []byte("b")},
		{Method: "GET", Heads: host},
		{Path: "/", Heads: host},
		{Method: "GET", Path: "/", Status: 200, Heads: host},
		{Method: "GET", Path: "/", Status: 1, Heads: host},
		{Method: "GET", Path: "/", Status: -1, Heads: host},
		{Method: "GET", Status: 200, Heads: host},
		{Path: "/", Status: 200, Heads: host},
		{Path: "/", Status: 200},
		{Path: "a", Status: 200},
		{Method: " ", Status: 200},
		{Method: "X", Path: "/", Status: 0, Heads: host},
	} {
		holds(t, m, false)
	}
}

// P5.1
func TestHeadersThatMayNotBe(t *testing.T) {
	for _, name := range []string{"Content-Length", "content-length", "CONTENT-LENGTH", "cOnTeNt-LeNgTh", "Transfer-Encoding", "transfer-encoding", "TRANSFER-ENCODING", "Transfer-encodinG",
		"Connection", "connection", "CONNECTION", "conNECTion"} {
		for _, value := range []string{"", "0", "1", "chunked", "close"} {
			h := list(name, value)
			holds(t, request("GET", "/", h, "a"), false)
			holds(t, response(200, h, "a"), false)
			holds(t, response(200, append(several(3), h...), ""), false)
			holds(t, response(200, append(h, several(15)...), ""), false)
		}
	}
	for _, l := range [][]api.Head{several(17), slices.Repeat(list("a", "1"), 17), list("", "1"), list("a b", "1"), list("a:", "1"), list("a", " 1"), list("a", "1 "), list("a", "\r\n"),
		list("é", "1"), list("a", "é"), list(strings.Repeat("n", 31), ""), list("a", strings.Repeat("v", 201)), list("a", "1", "Content-Length ", "1")} {
		holds(t, response(200, l, ""), false)
		holds(t, request("GET", "/", l, ""), false)
	}
	// With the Host there would be a 17th one.
	holds(t, request("GET", "/", several(15), ""), true)
	holds(t, request("GET", "/", several(16), ""), false)
	holds(t, response(200, several(16), ""), true)
}

// P5.1
func TestOneHost(t *testing.T) {
	for _, c := range []struct {
		heads []api.Head
		is    bool
	}{
		{list("Host", "x"), true},
		{list("host", "x"), true},
		{list("HOST", "x"), true},
		{list("hOsT", "any text: at all"), true},
		{list("A", "1", "Host", "x", "B", ""), true},
		{list("Host", strings.Repeat("x", 200)), true},
		{nil, false},
		{list("A", "Host"), false},
		{list("Hosts", "x"), false},
		{list("X-Host", "x"), false},
		{list("Host", ""), false},
		{list("host", ""), false},
		{list("Host", "x", "Host", "x"), false},
		{list("Host", "x", "host", "x"), false},
		{list("Host", "x", "A", "1", "HOST", "y"), false},
		{list("Host", "x", "Host", ""), false},
		{list("Host", "", "Host", "x"), false},
		{list("Host", "", "Host", ""), false},
		{list("Host", "x", "Host", "x", "Host", "x"), false},
	} {
		holds(t, api.Message{Method: "GET", Path: "/", Heads: c.heads}, c.is)
		// It is a request that must have one.
		holds(t, response(200, c.heads, ""), true)
	}
}

// P5.1
func TestSizesOfBodies(t *testing.T) {
	for n, is := range map[int]bool{0: true, 1: true, 1999: true, 2000: true, 2001: false, 2100: false, 70000: false} {
		holds(t, request("GET", "/", nil, strings.Repeat("b", n)), is)
		holds(t, response(200, nil, strings.Repeat("\n", n)), is)
	}
}

// opened is what the document says of an encoding up to its body; the header tells of the body.
func opened(m api.Message, header string) string {
	lines := []string{fmt.Sprintf("%s %s HTTP/1.1", m.Method, m.Path)}
	if m.Status != 0 {
		lines = []string{fmt.Sprintf("HTTP/1.1 %03d %s", m.Status, wordOf(m.Status))}
	}
	for _, h := range m.Heads {
		lines = append(lines, h.Name+": "+h.Value)
	}
	return crlf(append(lines, header, "")...)
}

// inChunks is what the document says of a chunked encoding.
func inChunks(m api.Message, size int) string {
	s := opened(m, "Transfer-Encoding: chunked")
	for at := 0; at < len(m.Body); at += size {
		part := m.Body[at:min(at+size, len(m.Body))]
		s += crlf(fmt.Sprintf("%x", len(part)), string(part))
	}
	return s + crlf("0", "")
}

// P5.1
func TestBytes(t *testing.T) {
	for _, c := range []struct {
		m    api.Message
		want string
	}{
		{request("GET", "/a", nil, ""), "GET /a HTTP/1.1\r\nHost: x\r\nContent-Length: 0\r\n\r\n"},
		{request("DELETE", "/", list("a", ""), "\r\n"), "DELETE / HTTP/1.1\r\nHost: x\r\na: \r\nContent-Length: 2\r\n\r\n\r\n"},
		{response(200, nil, "abc"), "HTTP/1.1 200 OK\r\nContent-Length: 3\r\n\r\nabc"},
		{response(400, nil, ""), "HTTP/1.1 400 Bad Request\r\nContent-Length: 0\r\n\r\n"},
		{response(403, list("A", "1", "b", "2"), ""), "HTTP/1.1 403 Forbidden\r\nA: 1\r\nb: 2\r\nContent-Length: 0\r\n\r\n"},
		{response(404, nil, "0123456789"), "HTTP/1.1 404 Not Found\r\nContent-Length: 10\r\n\r\n0123456789"},
		{response(503, nil, ""), "HTTP/1.1 503 Service Unavailable\r\nContent-Length: 0\r\n\r\n"},
		{response(504, nil, ""), "HTTP/1.1 504 Gateway Timeout\r\nContent-Length: 0\r\n\r\n"},
		{response(100, nil, ""), "HTTP/1.1 100 Other\r\nContent-Length: 0\r\n\r\n"},
		{response(599, nil, ""), "HTTP/1.1 599 Other\r\nContent-Length: 0\r\n\r\n"},
		{response(201, nil, strings.Repeat("b", 2000)), "HTTP/1.1 201 Other\r\nContent-Length: 2000\r\n\r\n" + strings.Repeat("b", 2000)},
	} {
		if got, e := Bytes(c.m); string(got) != c.want || e != api.OK {
			t.Errorf("Bytes: %q, %d, not %q", got, e, c.want)
		}
	}
	for _, m := range messages() {
		want := opened(m, fmt.Sprintf("Content-Length: %d", len(m.Body))) + string(m.Body)
		if got, e := Bytes(m); string(got) != want || e != api.OK {
			t.Errorf("Bytes: %q, %d, not %q", got, e, want)
		}
	}
}

func sizes() []int {
	return []int{1, 2, 3, 4, 9, 10, 15, 16, 17, 26, 100, 255, 256, 257, 999, 1000, 1999, 2000, 2001, 4094, 4095}
}

// P5.1
func TestChunked(t *testing.T) {
	for _, c := range []struct {
		m    api.Message
		size int
		want string
	}{
		{request("PUT", "/", nil, ""), 1, "PUT / HTTP/1.1\r\nHost: x\r\nTransfer-Encoding: chunked\r\n\r\n0\r\n\r\n"},
		{response(200, nil, "abcde"), 2, "HTTP/1.1 200 OK\r\nTransfer-Encoding: chunked\r\n\r\n2\r\nab\r\n2\r\ncd\r\n1\r\ne\r\n0\r\n\r\n"},
		{response(200, nil, "abcd"), 2, "HTTP/1.1 200 OK\r\nTransfer-Encoding: chunked\r\n\r\n2\r\nab\r\n2\r\ncd\r\n0\r\n\r\n"},
		{response(200, list("a", "b"), "abcd"), 4095, "HTTP/1.1 200 OK\r\na: b\r\nTransfer-Encoding: chunked\r\n\r\n4\r\nabcd\r\n0\r\n\r\n"},
		{response(200, nil, strings.Repeat("b", 30)), 26, "HTTP/1.1 200 OK\r\nTransfer-Encoding: chunked\r\n\r\n1a\r\n" + strings.Repeat("b", 26) + "\r\n4\r\nbbbb\r\n0\r\n\r\n"},
		{response(200, nil, strings.Repeat("b", 2000)), 4095, "HTTP/1.1 200 OK\r\nTransfer-Encoding: chunked\r\n\r\n7d0\r\n" + strings.Repeat("b", 2000) + "\r\n0\r\n\r\n"},
	} {
		if got, e := Chunked(c.m, c.size); string(got) != c.want || e != api.OK {
			t.Errorf("Chunked(%d): %q, %d, not %q", c.size, got, e, c.want)
		}
	}
	large := 0
	for _, m := range messages() {
		for _, size := range sizes() {
			want, wantE := inChunks(m, size), api.OK
			if len(want) > 8192 {
				want, wantE = "", api.ErrLimit
				large++
			}
			if got, e := Chunked(m, size); string(got) != want || e != wantE {
				t.Errorf("Chunked(%d): %q, %d, not %q", size, got, e, want)
			}
		}
	}
	if large == 0 {
		t.Error("no encoding was too large")
	}
}

// P5.1
func TestChunkSizes(t *testing.T) {
	for _, size := range []int{math.MinInt, -1 << 32, -4095, -2, -1, 0, 4096, 4097, 8192, 1<<32 + 1, math.MaxInt} {
		for _, m := range []api.Message{request("GET", "/", nil, ""), response(200, nil, "b"), response(200, nil, strings.Repeat("b", 2000)), {}} {
			if got, e := Chunked(m, size); len(got) != 0 || e != api.ErrArg {
				t.Errorf("Chunked(%d): %q, %d", size, got, e)
			}
		}
	}
	for _, size := range sizes() {
		if got, e := Chunked(api.Message{}, size); len(got) != 0 || e != api.ErrArg {
			t.Errorf("Chunked(%d) of what is no message: %q, %d", size, got, e)
		}
		if got, e := Chunked(response(200, nil, strings.Repeat("b", 2001)), size); len(got) != 0 || e != api.ErrArg {
			t.Errorf("Chunked(%d) of too long a body: %q, %d", size, got, e)
		}
	}
}

// upTo is a request of which the encoding in chunks of one byte has so many bytes.
func upTo(t *testing.T, many int) api.Message {
	t.Helper()
	m := request("PUT", "/", nil, "")
	rest := many - len(inChunks(m, 1))
	m.Body = bytes.Repeat([]byte("b"), rest/6)
	m.Path += strings.Repeat("p", rest%6)
	if len(inChunks(m, 1)) != many {
		t.Fatalf("not %d bytes", many)
	}
	return m
}

// P5.1, P5.2
func TestSizesOfMessages(t *testing.T) {
	for _, many := range []int{8190, 8191, 8192} {
		m := upTo(t, many)
		b, e := Chunked(m, 1)
		if len(b) != many || e != api.OK {
			t.Errorf("Chunked: %d bytes of %d, %d", len(b), many, e)
		}
		if got, e := Parse(b); !equal(got, m) || e != api.OK {
			t.Errorf("Parse of %d bytes: %d", many, e)
		}
	}
	for _, many := range []int{8193, 8194, 8198, 9000} {
		m := upTo(t, many)
		if b, e := Chunked(m, 1); len(b) != 0 || e != api.ErrLimit {
			t.Errorf("Chunked: %d bytes of %d, %d", len(b), many, e)
		}
		if got, e := Parse([]byte(inChunks(m, 1))); !zero(got) || e != api.ErrLimit {
			t.Errorf("Parse of %d bytes: %d", many, e)
		}
	}
}

// P5.3
func TestSame(t *testing.T) {
	all := []api.Message{
		{}, {Method: "GET"}, {Method: "get"}, {Path: "GET"}, {Path: "/"}, {Path: "/a"}, {Status: 1}, {Status: -1}, {Status: 200},
		{Heads: list("a", "1")}, {Heads: list("A", "1")}, {Heads: list("a", "2")}, {Heads: list("a", "1", "a", "1")}, {Heads: list("a", "1", "b", "2")}, {Heads: list("b", "2", "a", "1")},
		{Heads: list("", "")}, {Heads: several(17)}, {Heads: several(18)},
		{Body: []byte("a")}, {Body: []byte("A")}, {Body: []byte("aa")}, {Body: []byte{0}}, {Body: make([]byte, 2001)}, {Body: make([]byte, 2002)},
		{Method: "GET", Path: "/", Status: 200, Heads: list("a", "1"), Body: []byte("a")},
		{Method: "GET", Path: "/", Status: 200, Heads: list("a", "1")},
		{Method: "GET", Path: "/", Status: 200, Body: []byte("a")},
		{Method: "GET", Path: "/", Heads: list("a", "1"), Body: []byte("a")},
		{Method: "GET", Status: 200, Heads: list("a", "1"), Body: []byte("a")},
		{Path: "/", Status: 200, Heads: list("a", "1"), Body: []byte("a")},
		request("GET", "/", nil, ""), response(200, nil, "x"),
	}
	for i, a := range all {
		for j, b := range all {
			if Same(a, b) != (i == j) || Same(a, Copy(b)) != (i == j) {
				t.Errorf("Same(%v, %v): not %t", a, b, i == j)
			}
		}
	}
	if !Same(api.Message{Status: 200}, response(200, []api.Head{}, "")) || !Same(response(200, []api.Head{}, ""), api.Message{Status: 200}) {
		t.Error("nil and empty lists are not the same")
	}
}

// P5.3, P5.4
func TestCopy(t *testing.T) {
	odd := []api.Message{{}, {Method: "no method", Path: "no path", Status: -7, Heads: list("no name", "\n"), Body: make([]byte, 3000)}, {Heads: several(17)}, {Heads: []api.Head{}, Body: []byte{}}}
	for _, m := range append(messages(), odd...) {
		c := Copy(m)
		if !equal(c, m) {
			t.Fatalf("Copy(%v): %v", m, c)
		}
		for _, x := range textsOf(c) {
			for _, y := range textsOf(m) {
				if shared(x, y) {
					t.Fatalf("a copy shares memory: %q", x)
				}
			}
		}
	}
	m := api.Message{Heads: append(make([]api.Head, 0, 9), list("a", "1", "b", "2")...), Body: append(make([]byte, 0, 9), "body"...)}
	c := Copy(m)
	m.Heads[0].Value, m.Body[0] = "changed", 'B'
	c.Heads[1].Value, c.Body[1] = "changed", 'O'
	if !equal(c, api.Message{Heads: list("a", "1", "b", "changed"), Body: []byte("bOdy")}) || !equal(m, api.Message{Heads: list("a", "changed", "b", "2"), Body: []byte("Body")}) {
		t.Errorf("a message and its copy change together: %v, %v", m, c)
	}
}

// P5.3
func TestAnswer(t *testing.T) {
	for _, s := range statuses() {
		want := 500
		if isStatusCode(s) {
			want = s
		}
		for _, b := range []string{"", "b", "\r\n", strings.Repeat("b", 2000)} {
			m := Answer(s, []byte(b))
			if !equal(m, response(want, nil, b)) || Check(m) != api.OK {
				t.Errorf("Answer(%d, %.9q): %v", s, b, m)
			}
		}
		if m := Answer(s, nil); !equal(m, api.Message{Status: want}) {
			t.Errorf("Answer(%d, nil): %v", s, m)
		}
	}
	// A body that is too long is there, too, and the message is not valid.
	if m := Answer(200, make([]byte, 2001)); len(m.Body) != 2001 || Check(m) != api.ErrArg {
		t.Error("Answer with a body of 2001 bytes:", len(m.Body))
	}
}

// P5.3
func TestWord(t *testing.T) {
	for _, s := range statuses() {
		if got := Word(s); got != wordOf(s) {
			t.Errorf("Word(%d): %q", s, got)
		}
	}
}

// P5.4
func TestArgumentsAreOnlyRead(t *testing.T) {
	heads := list("Host", "x", "a", "1", "kept", "2", "too", "3")
	body := []byte("some body, and what is kept behind it")
	m := api.Message{Method: "PUT", Path: "/p", Heads: heads[:2], Body: body[:9]}
	if b, e := Bytes(m); e != api.OK || string(b) != "PUT /p HTTP/1.1\r\nHost: x\r\na: 1\r\nContent-Length: 9\r\n\r\nsome body" {
		t.Errorf("Bytes: %q, %d", b, e)
	}
	Check(m)
	Chunked(m, 4)
	Chunked(m, 0)
	Same(m, m)
	Copy(m)
	Answer(200, m.Body)
	Bytes(api.Message{Heads: heads[:2], Body: body[:9]})
	if !slices.Equal(heads, list("Host", "x", "a", "1", "kept", "2", "too", "3")) || string(body) != "some body, and what is kept behind it" || len(m.Heads) != 2 || len(m.Body) != 9 {
		t.Errorf("an argument, or what lies behind it, is changed: %v, %q", heads, body)
	}
	for _, s := range []string{crlf("PUT /p HTTP/1.1", "Host: x", "Content-Length: 3", "") + "abc", crlf("PUT /p HTTP/1.1", "Host: x", "Connection: a", "A: b", "Transfer-Encoding: CHUNKED", "", "2", "ab", "01", "c", "0", ""),
		crlf("PUT /p HTTP/1.1", "Host: x", "Content-Length: 3", "") + "ab", crlf("HTTP/1.1 200 ", "x")} {
		in := []byte(s + " and what is kept behind it")
		Parse(in[:len(s)])
		if string(in) != s+" and what is kept behind it" {
			t.Errorf("Parse changed its argument, or what lies behind it: %q", in)
		}
	}
}

// P5.4
func TestBytesAreNewMemory(t *testing.T) {
	m := request("PUT", "/p", list("a", "1"), "body")
	for name, f := range map[string]func() ([]byte, api.Errno){
		"Bytes":   func() ([]byte, api.Errno) { return Bytes(m) },
		"Chunked": func() ([]byte, api.Errno) { return Chunked(m, 3) },
	} {
		first, _ := f()
		want := slices.Clone(first)
		for _, x := range textsOf(m) {
			if shared(textOf(first[:cap(first)]), x) {
				t.Errorf("%s shares memory with its argument: %q", name, x)
			}
		}
		for i := range first {
			first[i] = 'x'
		}
		if second, _ := f(); !bytes.Equal(second, want) || !equal(m, request("PUT", "/p", list("a", "1"), "body")) {
			t.Errorf("%s answers otherwise after its earlier answer was changed: %q", name, second)
		}
	}
	in := []byte("body")
	a := Answer(200, in)
	in[0] = 'B'
	if a.Body[1] = 'O'; string(a.Body) != "bOdy" || string(in) != "Body" {
		t.Errorf("Answer shares memory with its argument: %q, %q", a.Body, in)
	}
}

// P5.4
func TestParsedMessagesAreNewMemory(t *testing.T) {
	for _, s := range []string{crlf("PUT /path HTTP/1.1", "Host: some.host", "Content-Length: 4", "Name: value", "") + "body", crlf("HTTP/1.1 200 OK", "Host: some.host", "Transfer-Encoding: chunked", "Name: value", "", "4", "body", "0", "")} {
		in := []byte(s)
		m, e := Parse(in)
		if e != api.OK {
			t.Fatalf("Parse(%q): %d", s, e)
		}
		for _, x := range append(textsOf(m), textOf(m.Body[:cap(m.Body)])) {
			if shared(x, textOf(in)) {
				t.Errorf("Parse shares memory with its argument: %q", x)
			}
		}
		want := Copy(m)
		for i := range in {
			in[i] = 'x'
		}
		if !equal(m, want) {
			t.Errorf("the message changed with the bytes: %v", m)
		}
		m.Heads[0].Value, m.Body[0] = "changed", 'X'
		if again, _ := Parse([]byte(s)); !equal(again, want) {
			t.Errorf("Parse answers otherwise after its earlier answer was changed: %v", again)
		}
	}
}

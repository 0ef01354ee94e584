package host

import (
	"math"
	"math/rand"
	"regexp"
	"strconv"
	"strings"
	"sync"
	"testing"
	"unsafe"

	"chinoiserie/api"
)

const (
	small      = "abcdefghijklmnopqrstuvwxyz"
	large      = "ABCDEFGHIJKLMNOPQRSTUVWXYZ"
	digits     = "0123456789"
	labelBytes = small + digits + "-"
)

// The forms of hosts, authorities and patterns, as the document tells them, apart from how long a whole host or pattern is.
var (
	plainForm     = regexp.MustCompile(`^` + hostForm("a-z") + `$`)
	patternForm   = regexp.MustCompile(`^(?:\*\.)?` + hostForm("a-z") + `$`)
	authorityForm = regexp.MustCompile(`^(` + hostForm("a-zA-Z") + `)(?::([1-9][0-9]*))?$`)
)

// hostForm is the form of a host whose letters are these.
func hostForm(letters string) string {
	end, any := "["+letters+"0-9]", "["+letters+"0-9-]"
	label := end + "(?:" + any + "{0,18}" + end + ")?"
	return label + `(?:\.` + label + ")*"
}

// toldPlain and toldPattern are what the document says of a text, found in another way than the program's.
func toldPlain(s string) bool   { return plainForm.MatchString(s) && len(s) <= 60 }
func toldPattern(s string) bool { return patternForm.MatchString(s) && len(s) <= 60 }

// toldNorm is what the document says of an authority, found in another way than the program's.
func toldNorm(s string) (host string, port int, is bool) {
	f := authorityForm.FindStringSubmatch(s)
	if f == nil || len(f[1]) > 60 {
		return "", 0, false
	}
	digits := f[2]
	if digits == "" {
		digits = "80"
	}
	// Of texts of five digits the one that is greater bytewise is the greater number.
	if len(digits) > 5 || len(digits) == 5 && digits > "65535" {
		return "", 0, false
	}
	for _, d := range digits {
		port = 10*port + int(d-'0')
	}
	return strings.ToLower(f[1]), port, true
}

// toldMatch is what the document says of a pattern and a host, found in another way than the program's.
func toldMatch(pattern, host string) bool {
	if !toldPattern(pattern) || !toldPlain(host) {
		return false
	}
	p, h := strings.Split(pattern, "."), strings.Split(host, ".")
	if len(p) != len(h) {
		return false
	}
	for i := range p {
		if p[i] != h[i] && p[i] != "*" {
			return false
		}
	}
	return true
}

// errorUnless is the error of what has to be so.
func errorUnless(is bool) api.Errno {
	if is {
		return api.OK
	}
	return api.ErrHost
}

// checkNorm holds Norm of a text against what is told of it.
func checkNorm(t *testing.T, s, host string, port int, is bool) {
	t.Helper()
	if h, p, e := Norm(s); h != host || p != port || e != errorUnless(is) {
		t.Errorf("Norm(%q): %q, %d, %d, not %q, %d, %t", s, h, p, e, host, port, is)
	}
}

// checkWrite holds Write against what is told of it.
func checkWrite(t *testing.T, host string, port int, want string, is bool) {
	t.Helper()
	if s, e := Write(host, port); s != want || e != errorUnless(is) {
		t.Errorf("Write(%q, %d): %q, %d, not %q, %t", host, port, s, e, want, is)
	}
}

// checkHost asks all functions about a text that is a plain host, or is none and no authority either.
func checkHost(t *testing.T, s string, is bool) {
	t.Helper()
	if e := Plain(s); e != errorUnless(is) {
		t.Errorf("Plain(%q): %d, not %t", s, e, is)
	}
	pattern := is || strings.HasPrefix(s, "*.") && toldPattern(s)
	if e := Pattern(s); e != errorUnless(pattern) {
		t.Errorf("Pattern(%q): %d, not %t", s, e, pattern)
	}
	if Match(s, s) != is {
		t.Errorf("Match(%q) and itself: not %t", s, is)
	}
	if !is {
		checkNorm(t, s, "", 0, false)
		checkNorm(t, s+":81", "", 0, false)
		checkWrite(t, s, 80, "", false)
		checkWrite(t, s, 81, "", false)
		return
	}
	checkNorm(t, s, s, 80, true)
	checkNorm(t, s+":81", s, 81, true)
	checkNorm(t, strings.ToUpper(s), s, 80, true)
	checkWrite(t, s, 80, s, true)
	checkWrite(t, s, 81, s+":81", true)
}

// char is the text of one byte.
func char(b int) string { return string([]byte{byte(b)}) }

// hostOf is a plain host of so many bytes: 1 to 19, or more than 20.
func hostOf(size int) string {
	s := ""
	for size-len(s) > 21 {
		s += strings.Repeat("a", 19) + "."
	}
	if size-len(s) > 19 {
		s += "b."
	}
	return s + strings.Repeat("c", size-len(s))
}

// hosts tells texts without a colon, and whether each is a plain host.
func hosts() map[string]bool {
	l20 := strings.Repeat("l", 20)
	return map[string]bool{
		"a": true, "z": true, "0": true, "9": true, "a.b": true, "shop.example.org": true, "a.mesh": true, "1.2.3.4": true,
		"a-b": true, "a--b": true, "0-0": true, "x--1.y": true, "xn--a.b": true, "a.b.c.d.e.f.g.h": true, "aa.aa": true,
		"": false, ".": false, "..": false, ".a": false, "a.": false, "a..b": false, ".a.b": false, "a.b.": false, "a...b": false, "a.b..": false, "..a": false,
		"-": false, "--": false, "-a": false, "a-": false, "-a-": false, "a.-b": false, "a-.b": false, "a.b-": false, "-a.b": false, "a.-": false, "-.a": false, "a.-.b": false, "a.b-.c": false, "a.-b.c": false,
		"*": false, "*a": false, "a*": false, "a.*": false, "a.*.b": false, "a*.b": false, "*b.c": false, "a b": false, " a": false, "a ": false, "a/": false, "a_b": false, "a@b": false, "a,b": false,
		"a\x00": false, "\x00": false, "a\n": false, "\na": false, "a\nb": false, "a\r\n": false, "é": false, "a.é": false, "\u212a": false, "\u017f": false, "a\uff0eb": false, "a\u3002b": false, "\xff": false, "a\xc3": false, "[a]": false,
		// Labels of 19, 20 and 21 bytes, alone and in each place.
		l20[1:]: true, l20: true, l20 + "l": false, l20 + ".a": true, l20 + "l.a": false, "a." + l20: true, "a." + l20 + "l": false, "a." + l20 + ".b": true, "a." + l20 + "l.b": false,
		"l" + strings.Repeat("-", 18) + "l": true, "l" + strings.Repeat("-", 19) + "l": false, l20[1:] + "-": false, "-" + l20[1:]: false, l20 + "-": false,
		// Hosts of 58 to 61 bytes, and of many more.
		hostOf(58): true, hostOf(59): true, hostOf(60): true, hostOf(61): false, hostOf(62): false, hostOf(66): false, hostOf(1000): false,
		strings.Repeat("a.", 29) + "a": true, strings.Repeat("a.", 29) + "aa": true, strings.Repeat("a.", 30) + "a": false, strings.Repeat("a.", 30): false,
		strings.Repeat("a", 60): false, strings.Repeat("a", 61): false, strings.Repeat("a", 100000): false, strings.Repeat(".", 60): false, strings.Repeat("a.", 100000) + "a": false,
	}
}

// The table 'Examples' of the chapter.
func TestExamples(t *testing.T) {
	checkNorm(t, "Shop.Example.org", "shop.example.org", 80, true)
	checkNorm(t, "a:8080", "a", 8080, true)
	checkNorm(t, "a:80", "a", 80, true)
	for _, s := range []string{"a:0", "a:", "-a", "a..b", ""} {
		checkNorm(t, s, "", 0, false)
	}
	checkWrite(t, "a", 80, "a", true)
	checkWrite(t, "a", 443, "a:443", true)
	checkWrite(t, "A", 80, "", false)
	for _, c := range []struct {
		pattern, host string
		want          bool
	}{
		{"*.b.c", "a.b.c", true},
		{"*.b.c", "b.c", false},
		{"*.b.c", "x.a.b.c", false},
		{"b.c", "b.c", true},
		{"*.c", "*.c", false},
	} {
		if Match(c.pattern, c.host) != c.want {
			t.Errorf("Match(%s, %s): not %t", c.pattern, c.host, c.want)
		}
	}
}

// P6.1, P6.2
func TestHosts(t *testing.T) {
	for s, is := range hosts() {
		if toldPlain(s) != is {
			t.Fatalf("%q is a plain host: not %t", s, is)
		}
		checkHost(t, s, is)
	}
}

// P6.1, P6.2: how many bytes a host has.
func TestHowManyBytes(t *testing.T) {
	for size := 1; size <= 130; size++ {
		if size != 20 {
			checkHost(t, hostOf(size), size <= 60)
		}
	}
	// The port belongs to no host, so it does not count.
	for _, port := range []int{1, 79, 81, 443, 8080, 65535} {
		told := ":" + strconv.Itoa(port)
		checkNorm(t, hostOf(60)+told, hostOf(60), port, true)
		checkNorm(t, hostOf(61)+told, "", 0, false)
		checkNorm(t, strings.ToUpper(hostOf(60))+told, hostOf(60), port, true)
		checkWrite(t, hostOf(60), port, hostOf(60)+told, true)
		checkWrite(t, hostOf(61), port, "", false)
	}
	checkNorm(t, hostOf(60)+":80", hostOf(60), 80, true)
	checkNorm(t, hostOf(61)+":80", "", 0, false)
	checkNorm(t, hostOf(55)+":80000", "", 0, false)
}

// P6.1, P6.2: how many bytes a label has, first, within and last.
func TestHowManyBytesOfALabel(t *testing.T) {
	for size := range 41 {
		label := strings.Repeat("x", size)
		for _, frame := range [][2]string{{"", ""}, {"", ".a"}, {"a.", ""}, {"a.", ".b"}, {"a.b.", ".c.d"}} {
			checkHost(t, frame[0]+label+frame[1], size >= 1 && size <= 20)
		}
	}
}

// P6.1, P6.2: each byte alone, first, within and last in a label, wherever the label stands.
func TestEachByteOfALabel(t *testing.T) {
	for b := range 256 {
		in := strings.Contains(labelBytes, char(b))
		for _, at := range []struct {
			before, after string
			is            bool
		}{
			{"", "", in && b != '-'},
			{"", "a", in && b != '-'},
			{"a", "b", in || b == '.'},
			{"a", "", in && b != '-'},
			{strings.Repeat("a", 10), strings.Repeat("b", 9), in || b == '.'},
		} {
			for _, frame := range [][2]string{{"", ""}, {"", ".x"}, {"x.", ""}, {"x.", ".y"}} {
				s := frame[0] + at.before + char(b) + at.after + frame[1]
				if toldPlain(s) != at.is {
					t.Fatalf("%q is a plain host: not %t", s, at.is)
				}
				if b >= 'A' && b <= 'Z' {
					checkLarge(t, s)
				} else {
					checkHost(t, s, at.is)
				}
			}
		}
	}
}

// checkLarge asks all functions about a text that is an authority, but for its large letters no plain host.
func checkLarge(t *testing.T, s string) {
	t.Helper()
	checkNorm(t, s, strings.ToLower(s), 80, true)
	checkNorm(t, s+":81", strings.ToLower(s), 81, true)
	checkWrite(t, s, 80, "", false)
	checkWrite(t, s, 443, "", false)
	if Plain(s) != api.ErrHost || Pattern(s) != api.ErrHost || Pattern("*."+s) != api.ErrHost || Match(s, s) {
		t.Errorf("%q is a plain host, or a pattern", s)
	}
}

// P6.1, P6.2: large letters are for authorities alone.
func TestLargeLetters(t *testing.T) {
	for _, c := range [][2]string{
		{"A", "a"},
		{"Z", "z"},
		{"A0-Z", "a0-z"},
		{"a.B", "a.b"},
		{"Shop.EXAMPLE.org", "shop.example.org"},
		{large[:20] + "." + large[20:], small[:20] + "." + small[20:]},
		{strings.ToUpper(hostOf(60)), hostOf(60)},
	} {
		s, host := c[0], c[1]
		checkLarge(t, s)
		checkNorm(t, s, host, 80, true)
		checkNorm(t, s+":65535", host, 65535, true)
		for _, m := range [][2]string{{s, s}, {s, host}, {host, s}, {"*." + s, "x." + s}, {"*." + s, "x." + host}, {"*." + host, "x." + s}, {"*." + host, "X." + host}} {
			if Match(m[0], m[1]) {
				t.Errorf("Match(%s, %s)", m[0], m[1])
			}
		}
	}
	// Letters whose small ones are ASCII's, though they are not.
	for _, s := range []string{"\u212a", "a\u212a", "\u0130", "\u017f", "É"} {
		checkNorm(t, s, "", 0, false)
		checkNorm(t, s+":81", "", 0, false)
	}
}

// P6.1
func TestPorts(t *testing.T) {
	for _, c := range []struct {
		digits string
		port   int
	}{
		{"1", 1}, {"2", 2}, {"9", 9}, {"10", 10}, {"79", 79}, {"80", 80}, {"81", 81}, {"99", 99}, {"100", 100}, {"443", 443}, {"8080", 8080}, {"9999", 9999}, {"10000", 10000}, {"59999", 59999}, {"65499", 65499}, {"65534", 65534}, {"65535", 65535},
	} {
		for _, host := range []string{"a", "A", "shop.example.org", "Shop.Example.Org"} {
			checkNorm(t, host+":"+c.digits, strings.ToLower(host), c.port, true)
		}
	}
	for _, told := range []string{
		"", "0", "00", "65536", "65537", "65540", "65600", "66000", "70000", "99999", "100000", "131073",
		"-1", "-0", "-80", "+1", "+80", "+0", "-", "+", "--1", "-65536",
		"01", "080", "0080", "00000080", "065535", "0443", "000000000000000000000000000000000000080",
		" 80", "80 ", "8 0", "\t80", "80\n", "\n80", "80\x00", "8_0", "8.0", "80.", "8,0", "8e1", "0x50", "0b1", "0o7", "1e2", "a", "8a", "a8", "80/", "*", "８０", "٨", "½", "\xff",
		"4294967296", "4294967376", "18446744073709551616", "18446744073709551696", "9223372036854775807", "9223372036854775808", "-9223372036854775808", "99999999999999999999999999", strings.Repeat("8", 100000), strings.Repeat("0", 100000) + "80",
		":", ":80", "80:", "80:80", "::", ":80:",
	} {
		for _, host := range []string{"a", "A", "shop.example.org", "a..b", "", hostOf(60), hostOf(61)} {
			checkNorm(t, host+":"+told, "", 0, false)
		}
	}
	for _, s := range []string{":", "::", ":80", ":8080", "80:", ".:80", "a.:80", "-a:80", "a-:80", "a:80:80", "a:b:80", "*.a:80", "a b:80", "a :80", "[a]:80", "http://a", "a:80/", "u@a:80", "a:80 ", " a:80"} {
		checkNorm(t, s, "", 0, false)
	}
}

// P6.1: each byte first, within and last in a port.
func TestEachByteOfAPort(t *testing.T) {
	for b := range 256 {
		digit := strings.IndexByte(digits, byte(b))
		for _, at := range []struct {
			before, after string
			port          int
		}{
			{"", "", digit},
			{"", "1", 10*digit + 1},
			{"1", "1", 101 + 10*digit},
			{"1", "", 10 + digit},
			{"6553", "", 65530 + digit},
			{"65", "35", 65035 + 100*digit},
			{"", "5535", 10000*digit + 5535},
		} {
			is := digit >= 0 && at.port >= 1 && at.port <= 65535 && !(digit == 0 && at.before == "")
			if !is {
				checkNorm(t, "a:"+at.before+char(b)+at.after, "", 0, false)
				continue
			}
			checkNorm(t, "a:"+at.before+char(b)+at.after, "a", at.port, true)
		}
	}
}

// P6.1, P6.3: each port, written and read.
func TestEachPort(t *testing.T) {
	for port := -100; port <= 66000; port++ {
		told := strconv.Itoa(port)
		if port < 1 || port > 65535 {
			checkWrite(t, "a.b", port, "", false)
			checkNorm(t, "a.b:"+told, "", 0, false)
			continue
		}
		want := "a.b:" + told
		checkNorm(t, want, "a.b", port, true)
		checkNorm(t, "a.b:0"+told, "", 0, false)
		checkNorm(t, "a.b:+"+told, "", 0, false)
		if port == 80 {
			want = "a.b"
		}
		checkWrite(t, "a.b", port, want, true)
	}
}

// P6.1
func TestWrite(t *testing.T) {
	for _, c := range []struct {
		host string
		port int
		want string
	}{
		{"a", 1, "a:1"},
		{"a", 79, "a:79"},
		{"a", 80, "a"},
		{"a", 81, "a:81"},
		{"a", 65535, "a:65535"},
		{"80", 80, "80"},
		{"80", 8080, "80:8080"},
		{"a.b-c.9", 443, "a.b-c.9:443"},
		{hostOf(60), 80, hostOf(60)},
		{hostOf(60), 65535, hostOf(60) + ":65535"},
	} {
		checkWrite(t, c.host, c.port, c.want, true)
	}
	for _, port := range []int{0, -1, -79, -80, -81, -443, -65535, -65536, 65536, 65537, 65536 + 80, 1<<32 + 80, -1<<32 + 80, 1<<53 + 80, math.MaxInt, math.MinInt, math.MaxInt - 80, math.MinInt + 80} {
		checkWrite(t, "a", port, "", false)
		checkWrite(t, "-a", port, "", false)
	}
	for _, host := range []string{"", "A", "a.B", "a:80", "a:", ":", "*.a", "*", "a.", ".a", "a..b", "-a", "a b", hostOf(61)} {
		for _, port := range []int{80, 443, 1, 65535, 0, -1, 65536} {
			checkWrite(t, host, port, "", false)
		}
	}
}

// P6.2
func TestPatterns(t *testing.T) {
	for s, is := range hosts() {
		want := is && len(s)+2 <= 60
		if e := Pattern("*." + s); e != errorUnless(want) {
			t.Errorf("Pattern(%q): %d", "*."+s, e)
		}
		checkNotHost(t, "*."+s)
	}
	for _, s := range []string{
		"*", "**", "*.", ".*", "*.*", "*.*.a", "*.*.*", "a*.b", "*a.b", "**.a", "**", "*..a", "*.a.", "*.a..b", "*.-a", "*.a-", "a.*", "a.*.b", "a.b.*", "*.a*", "*.*a", "*. a", " *.a", "*.a ", "* .a",
		"*a", "a*", "?.a", "*.A", "A", "*.a.B", "*.a:80", "a:80", "*:80", "*-a", ".*.a", "-*.a", "*-.a", "*.a\n", "\n*.a", "＊.a", "*．a", "*.a,b", "*.a *.b", "",
	} {
		if e := Pattern(s); e != api.ErrHost {
			t.Errorf("Pattern(%q): %d", s, e)
		}
		checkNotHost(t, s)
		for _, host := range []string{s, "a", "a.b", "x.a", "x.a.b", "a.x.b", "ax.b", ""} {
			if Match(s, host) {
				t.Errorf("Match(%q, %q)", s, host)
			}
		}
	}
	for _, s := range []string{"*.a", "*.0", "*.a.b", "*.a-b.c", "*.1.2.3.4", "*." + hostOf(57), "*." + hostOf(58), "a", "a.b", hostOf(60)} {
		if e := Pattern(s); e != api.OK {
			t.Errorf("Pattern(%q): %d", s, e)
		}
	}
	for _, s := range []string{"*." + hostOf(59), "*." + hostOf(60), "*." + hostOf(61), hostOf(61)} {
		if e := Pattern(s); e != api.ErrHost {
			t.Errorf("Pattern(%q): %d", s, e)
		}
	}
}

// checkNotHost asks about a text with a * in it, or another one that is no plain host.
func checkNotHost(t *testing.T, s string) {
	t.Helper()
	if e := Plain(s); e != api.ErrHost {
		t.Errorf("Plain(%q): %d", s, e)
	}
	checkWrite(t, s, 80, "", false)
	if strings.Contains(s, "*") {
		checkNorm(t, s, "", 0, false)
	}
}

// P6.2: each byte where a pattern has its *, its period, and its host.
func TestEachByteOfAPattern(t *testing.T) {
	for b := range 256 {
		c := char(b)
		for _, s := range []string{c, c + ".a", "*" + c, "*" + c + "a", c + "*.a", "*." + c, "*." + c + "a", "*.a" + c, "*.a" + c + "b", "*" + c + ".a", "*.a." + c} {
			if want := toldPattern(s); Pattern(s) != errorUnless(want) {
				t.Errorf("Pattern(%q): not %t", s, want)
			}
		}
	}
}

// P6.2
func TestMatch(t *testing.T) {
	for _, c := range []struct {
		pattern, host string
		want          bool
	}{
		{"a", "a", true},
		{"a.b", "a.b", true},
		{"a", "b", false},
		{"a", "aa", false},
		{"a.b", "b", false},
		{"b", "a.b", false},
		{"a.b", "a", false},
		{"a.b", "b.a", false},
		{"a.b", "x.b", false},
		{"*.b", "a.b", true},
		{"*.b", "0.b", true},
		{"*.b", "a-b.b", true},
		{"*.b", strings.Repeat("a", 20) + ".b", true},
		{"*.b", strings.Repeat("a", 21) + ".b", false},
		{"*.b", "b.b", true},
		{"*.b", "b.b.b", false},
		{"*.b", "b", false},
		{"*.b", "ab", false},
		{"*.b", "a.bb", false},
		{"*.b", "a.b.c", false},
		{"*.b", "a.x.b", false},
		{"*.b.c", "a.b.c", true},
		{"*.b.c", "ab.c", false},
		{"*.b.c", "a.c", false},
		{"*.b.c", "x.b-c", false},
		{"*.b.c", "c", false},
		{"*.example", "x.example", true},
		{"*.example", "shop.x.example", false},
		{hostOf(60), hostOf(60), true},
		{hostOf(61), hostOf(61), false},
		{"*." + hostOf(58), "a." + hostOf(58), true},
		{"*." + hostOf(58), "aa." + hostOf(58), false},
		{"*." + hostOf(57), "aa." + hostOf(57), true},
		{"*." + hostOf(59), "a." + hostOf(59), false},
		// What is no pattern, or no plain host, even if the two are equal.
		{"", "", false},
		{"*", "*", false},
		{"*", "a", false},
		{"*", "a.b", false},
		{"*.", "*.", false},
		{"*.", "a.", false},
		{"*.", "a", false},
		{"*.", "", false},
		{"*.b", "*.b", false},
		{"*.b", ".b", false},
		{"*.b", "-.b", false},
		{"*.b", "-a.b", false},
		{"*.b", "A.b", false},
		{"*.b", "a.B", false},
		{"*.B", "a.B", false},
		{"*.B", "a.b", false},
		{"*.b", "a_.b", false},
		{"*.b", "a.b:80", false},
		{"*.b", "a.b.", false},
		{"*.b", "a.b\n", false},
		{"*.*.b", "a.a.b", false},
		{"*.*.b", "*.a.b", false},
		{"**.b", "a.b", false},
		{"a.*", "a.b", false},
		{"a.*.c", "a.b.c", false},
		{"a*.b", "ax.b", false},
		{"A", "A", false},
		{"A", "a", false},
		{"a", "A", false},
		{"a b", "a b", false},
		{"a..b", "a..b", false},
		{"a:80", "a:80", false},
		{"a:80", "a", false},
		{"a", "a:80", false},
		{"a.", "a.", false},
		{".a", ".a", false},
		{"*..a", "x..a", false},
		{"a", "", false},
		{"", "a", false},
	} {
		if Match(c.pattern, c.host) != c.want {
			t.Errorf("Match(%q, %q): not %t", c.pattern, c.host, c.want)
		}
	}
}

// texts goes through all texts of up to so many of these pieces.
func texts(pieces []string, most int, visit func(s string)) {
	visit("")
	if most == 0 {
		return
	}
	for _, p := range pieces {
		texts(pieces, most-1, func(s string) { visit(p + s) })
	}
}

// P6.1, P6.2: all short texts, against another reading of the document.
func TestAllShortTexts(t *testing.T) {
	texts([]string{"a", "Z", "0", "8", "-", ".", ":", "*"}, 5, func(s string) { checkTold(t, s) })
}

// P6.1, P6.2: longer texts, of pieces that are often near the limits.
func TestLongerTexts(t *testing.T) {
	pieces := []string{"a", "B", "9", "-", ".", ".", ".", ":", "*.", ":80", ":65535", ":65536", strings.Repeat("x", 18), strings.Repeat("x", 19), strings.Repeat("y", 20), hostOf(39) + ".", hostOf(55) + "."}
	r := rand.New(rand.NewSource(6))
	for range 100000 {
		s := ""
		for range 1 + r.Intn(8) {
			s += pieces[r.Intn(len(pieces))]
		}
		checkTold(t, s)
	}
}

// checkTold holds what the program says of a text against what the document says.
func checkTold(t *testing.T, s string) {
	t.Helper()
	host, port, is := toldNorm(s)
	checkNorm(t, s, host, port, is)
	plain := toldPlain(s)
	if e := Plain(s); e != errorUnless(plain) {
		t.Errorf("Plain(%q): %d", s, e)
	}
	if e := Pattern(s); e != errorUnless(toldPattern(s)) {
		t.Errorf("Pattern(%q): %d", s, e)
	}
	if plain {
		checkWrite(t, s, 80, s, true)
		checkWrite(t, s, 8, s+":8", true)
		return
	}
	checkWrite(t, s, 80, "", false)
	checkWrite(t, s, 8, "", false)
}

// P6.2, P6.4: all pairs of short texts, against another reading of the document.
func TestAllShortPairs(t *testing.T) {
	var all []string
	texts([]string{"a", "B", "-", ".", "*"}, 4, func(s string) { all = append(all, s) })
	texts([]string{"a.", "b.", "*."}, 3, func(s string) { all = append(all, s+"a", s+"b", s+"*") })
	for _, pattern := range all {
		for _, host := range all {
			if want := toldMatch(pattern, host); Match(pattern, host) != want {
				t.Fatalf("Match(%q, %q): not %t", pattern, host, want)
			}
		}
	}
}

// mixed are texts that differ from s in the case of letters alone.
func mixed(r *rand.Rand, s string) []string {
	other := []byte(s)
	for i := range other {
		if r.Intn(2) == 0 {
			other[i] = strings.ToUpper(char(int(other[i])))[0]
		}
	}
	return []string{s, strings.ToUpper(s), strings.ToLower(s), string(other)}
}

// somePlain is some plain host.
func somePlain(r *rand.Rand) string {
	for {
		var labels []string
		for range 1 + r.Intn(5) {
			label := make([]byte, 1+r.Intn(20))
			for i := range label {
				label[i] = labelBytes[r.Intn(len(labelBytes))]
			}
			labels = append(labels, strings.Trim(string(label), "-"))
		}
		if s := strings.Join(labels, "."); toldPlain(s) {
			return s
		}
	}
}

// P6.3
func TestNormAndWriteAreInverse(t *testing.T) {
	r := rand.New(rand.NewSource(63))
	ports := []int{1, 2, 79, 80, 81, 443, 8080, 9999, 10000, 65534, 65535}
	for range 20000 {
		host, port := somePlain(r), ports[r.Intn(len(ports))]
		written, e := Write(host, port)
		if e != api.OK {
			t.Fatalf("Write(%q, %d): %d", host, port, e)
		}
		// Each of these is equivalent: the case of letters does not matter, nor does it whether the port 80 is told.
		same := mixed(r, written)
		same = append(same, mixed(r, host+":"+strconv.Itoa(port))...)
		for _, authority := range same {
			h, p, e := Norm(authority)
			if h != host || p != port || e != api.OK {
				t.Fatalf("Norm(%q): %q, %d, %d, not %q, %d", authority, h, p, e, host, port)
			}
			if Plain(h) != api.OK {
				t.Fatalf("the host of %q is not plain: %q", authority, h)
			}
			if again, e := Write(h, p); again != written || e != api.OK {
				t.Fatalf("Write(%q, %d): %q, %d, not %q", h, p, again, e, written)
			}
		}
	}
}

// P6.3: whatever Norm takes.
func TestNormOfAllThatItTakes(t *testing.T) {
	took := 0
	texts([]string{"a", "Q", "7", "8", "0", "-", ".", ":"}, 5, func(s string) {
		host, port, e := Norm(s)
		if e != api.OK {
			return
		}
		took++
		if Plain(host) != api.OK {
			t.Errorf("the host of %q is not plain: %q", s, host)
		}
		written, e := Write(host, port)
		if e != api.OK {
			t.Fatalf("Write(%q, %d): %d", host, port, e)
		}
		h, p, e := Norm(written)
		if h != host || p != port || e != api.OK {
			t.Errorf("Norm(%q): %q, %d, %d, not %q, %d", written, h, p, e, host, port)
		}
		for _, other := range []string{strings.ToUpper(s), strings.ToLower(s)} {
			if h, p, e := Norm(other); h != host || p != port || e != api.OK {
				t.Errorf("Norm(%q): %q, %d, %d, but %q, %d of %q", other, h, p, e, host, port, s)
			}
		}
	})
	if took < 1000 {
		t.Error("authorities:", took)
	}
}

// P6.3: case does not matter, neither to what is refused.
func TestCaseOfWhatIsRefused(t *testing.T) {
	r := rand.New(rand.NewSource(64))
	for s, is := range hosts() {
		if is {
			continue
		}
		for _, other := range mixed(r, s) {
			// What is ASCII's alone has the same letters in either case.
			if strings.ToLower(other) == s {
				checkNorm(t, other, "", 0, false)
			}
		}
	}
}

// P6.4
func TestPatternsAreForHostsWithOneLabelMore(t *testing.T) {
	var all []string
	texts([]string{"a", "b", "a-a", "0"}, 1, func(first string) {
		if first == "" {
			return
		}
		texts([]string{".a", ".b", ".a-a"}, 4, func(rest string) { all = append(all, first+rest) })
	})
	for _, own := range all {
		for _, host := range all {
			first, rest, found := strings.Cut(host, ".")
			more := found && first != "" && rest == own
			if Match("*."+own, host) != more {
				t.Fatalf("Match(%q, %q): not %t", "*."+own, host, more)
			}
			if Match(own, host) != (own == host) {
				t.Fatalf("Match(%q, %q): not %t", own, host, own == host)
			}
		}
	}
}

// P6.4: whatever the label is.
func TestPatternsAreForAnyLabel(t *testing.T) {
	r := rand.New(rand.NewSource(65))
	for range 20000 {
		own, label := somePlain(r), somePlain(r)
		pattern, host := "*."+own, label+"."+own
		want := !strings.Contains(label, ".") && len(pattern) <= 60 && len(host) <= 60
		if Match(pattern, host) != want {
			t.Fatalf("Match(%q, %q): not %t", pattern, host, want)
		}
		if Match(pattern, own) {
			t.Fatalf("Match(%q, %q)", pattern, own)
		}
		if !Match(own, own) {
			t.Fatalf("Match(%q, %q): not", own, own)
		}
	}
}

// shared tells whether two texts have a byte of memory in common.
func shared(a, b string) bool {
	if a == "" || b == "" {
		return false
	}
	x, y := uintptr(unsafe.Pointer(unsafe.StringData(a))), uintptr(unsafe.Pointer(unsafe.StringData(b)))
	return x < y+uintptr(len(b)) && y < x+uintptr(len(a))
}

// P6.1: results are new memory (a rule of all layers).
func TestResultsAreNewMemory(t *testing.T) {
	for _, s := range []string{"a", "shop.example.org", "A", "Shop.Example.org", "a:80", "A:443", hostOf(60)} {
		if h, _, e := Norm(s); e != api.OK || shared(h, s) {
			t.Errorf("Norm(%q): %q, %d, or no new memory", s, h, e)
		}
	}
	for _, host := range []string{"a", "shop.example.org", hostOf(60)} {
		for _, port := range []int{80, 443} {
			if s, e := Write(host, port); e != api.OK || shared(s, host) {
				t.Errorf("Write(%q, %d): %q, %d, or no new memory", host, port, s, e)
			}
		}
	}
}

// P6.1, P6.2: the marks say of each byte what the function says, and both what the document says.
func TestMarks(t *testing.T) {
	for b := range 256 {
		want := strings.Contains(labelBytes+".", char(b))
		if marked, fits := Marked(byte(b)), fitsHost(byte(b)); marked != fits || fits != want {
			t.Errorf("byte %x: marked %t, fits %t, not %t", b, marked, fits, want)
		}
	}
}

// P6.1, P6.2: what is a host, or a pattern, does not hang on the marks.
func TestHostsWithoutMarks(t *testing.T) {
	marking.Do(mark)
	kept := inHost
	defer func() { inHost = kept }()
	for _, marks := range []bool{false, true} {
		for b := range inHost {
			inHost[b] = marks
		}
		for s, is := range hosts() {
			checkHost(t, s, is)
		}
		if !Match("*.b", "a.b") || Match("*.b", "a_.b") || Pattern("*.b") != api.OK || Pattern("*._") != api.ErrHost {
			t.Error("patterns, with all marks", marks)
		}
	}
}

// P6.1, P6.2: whoever asks first, several at a time.
func TestSeveralAtATime(t *testing.T) {
	// Earlier tests have asked: as if nobody had.
	marking, inHost = sync.Once{}, [256]bool{}
	var all sync.WaitGroup
	for i := range 8 {
		all.Go(func() {
			for b := range 256 {
				if Marked(byte(b)) != strings.Contains(labelBytes+".", char(b)) {
					t.Errorf("%d: byte %x", i, b)
				}
			}
			for s, is := range hosts() {
				checkHost(t, s, is)
			}
		})
	}
	all.Wait()
}

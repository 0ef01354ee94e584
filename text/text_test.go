package text

import (
	"slices"
	"strings"
	"testing"
	"unsafe"

	"chinoiserie/api"
)

// texts tells all texts of at most most of the given pieces.
func texts(pieces []string, most int) []string {
	all := []string{""}
	last := all
	for range most {
		var next []string
		for _, s := range last {
			for _, p := range pieces {
				next = append(next, s+p)
			}
		}
		all = append(all, next...)
		last = next
	}
	return all
}

// shared tells whether two texts have a byte of memory in common.
func shared(a, b string) bool {
	if a == "" || b == "" {
		return false
	}
	x, y := uintptr(unsafe.Pointer(unsafe.StringData(a))), uintptr(unsafe.Pointer(unsafe.StringData(b)))
	return x < y+uintptr(len(b)) && y < x+uintptr(len(a))
}

// P1.1
func TestLines(t *testing.T) {
	long := strings.Repeat("x", api.MaxText)
	feeds := strings.Repeat("\n", api.MaxText)
	for _, c := range []struct {
		in   string
		want []string
		e    api.Errno
	}{
		{"a b\n\nc", []string{"a b", "", "c"}, api.OK},
		{"", nil, api.OK},
		{"\n", []string{""}, api.OK},
		{"\n\n", []string{"", ""}, api.OK},
		{"a", []string{"a"}, api.OK},
		{"a\n", []string{"a"}, api.OK},
		{"a\n\n", []string{"a", ""}, api.OK},
		{"\na", []string{"", "a"}, api.OK},
		{"one two\nthree\n", []string{"one two", "three"}, api.OK},
		{"a\r\nb", []string{"a\r", "b"}, api.OK},
		{"\x00\xff\n\t ", []string{"\x00\xff", "\t "}, api.OK},
		{"\xe2\n\x80", []string{"\xe2", "\x80"}, api.OK},
		{long, []string{long}, api.OK},
		{long[1:] + "\n", []string{long[1:]}, api.OK},
		{long[1:] + "é", nil, api.ErrLimit},
		{long + "x", nil, api.ErrLimit},
		{long + "\n", nil, api.ErrLimit},
		{feeds, make([]string, api.MaxText), api.OK},
		{feeds + "\n", nil, api.ErrLimit},
	} {
		got, e := Lines(c.in)
		if e != c.e || !slices.Equal(got, c.want) {
			t.Errorf("Lines(%.20q, %d bytes): %.60q, %d", c.in, len(c.in), got, e)
		}
	}
}

// P1.1
func TestWords(t *testing.T) {
	long := strings.Repeat("x", api.MaxText+1)
	for _, c := range []struct {
		in   string
		want []string
		e    api.Errno
	}{
		{"  work  a-1 ", []string{"work", "a-1"}, api.OK},
		{"a\t", nil, api.ErrForm},
		{"", nil, api.OK},
		{" ", nil, api.OK},
		{"    ", nil, api.OK},
		{"a", []string{"a"}, api.OK},
		{" a", []string{"a"}, api.OK},
		{"a ", []string{"a"}, api.OK},
		{"a b", []string{"a", "b"}, api.OK},
		{"a   b", []string{"a", "b"}, api.OK},
		{"a a  a", []string{"a", "a", "a"}, api.OK},
		{"! ~ \"#\\", []string{"!", "~", "\"#\\"}, api.OK},
		{"a b\n", nil, api.ErrForm},
		{"\na", nil, api.ErrForm},
		{"a \x00", nil, api.ErrForm},
		{"a b \r", nil, api.ErrForm},
		{"é", nil, api.ErrForm},
		{"a b\ufffd", nil, api.ErrForm},
		{"a\u00a0b", nil, api.ErrForm},
		{"a \xe2\x80", nil, api.ErrForm},
		{long, []string{long}, api.OK},
		{long + " " + long, []string{long, long}, api.OK},
	} {
		got, e := Words(c.in)
		if e != c.e || !slices.Equal(got, c.want) {
			t.Errorf("Words(%.20q): %.60q, %d", c.in, got, e)
		}
	}
}

// P1.1
func TestWordsOfEachByte(t *testing.T) {
	for b := range 256 {
		for _, frame := range [][2]string{{"", ""}, {"a", "b"}, {" ", " "}, {"a ", ""}, {"", " a"}} {
			line := frame[0] + string([]byte{byte(b)}) + frame[1]
			got, e := Words(line)
			if b != 0x20 && (b < 0x21 || b > 0x7e) {
				if e != api.ErrForm || len(got) != 0 {
					t.Errorf("Words(%q): %q, %d", line, got, e)
				}
			} else if want := strings.Fields(line); e != api.OK || !slices.Equal(got, want) {
				t.Errorf("Words(%q): %q, %d, not %q", line, got, e, want)
			}
		}
	}
}

// P1.2
func TestJoin(t *testing.T) {
	long := strings.Repeat("x", api.MaxText+1)
	for _, c := range []struct {
		in   []string
		want string
		e    api.Errno
	}{
		{nil, "", api.OK},
		{[]string{}, "", api.OK},
		{[]string{"a"}, "a", api.OK},
		{[]string{"a", "b"}, "a b", api.OK},
		{[]string{"work", "a-1", "!", "~"}, "work a-1 ! ~", api.OK},
		{[]string{long, "a"}, long + " a", api.OK},
		{[]string{""}, "", api.ErrForm},
		{[]string{"", "a"}, "", api.ErrForm},
		{[]string{"a", ""}, "", api.ErrForm},
		{[]string{"a", "", "b"}, "", api.ErrForm},
		{[]string{"a", "b c"}, "", api.ErrForm},
		{[]string{" a"}, "", api.ErrForm},
		{[]string{"a "}, "", api.ErrForm},
		{[]string{" "}, "", api.ErrForm},
		{[]string{"a", "b\n"}, "", api.ErrForm},
		{[]string{"a", "\ufffd"}, "", api.ErrForm},
	} {
		got, e := Join(c.in)
		if got != c.want || e != c.e {
			t.Errorf("Join(%.40q): %.40q, %d", c.in, got, e)
		}
	}
}

// P1.2
func TestJoinOfEachByte(t *testing.T) {
	for b := range 256 {
		for _, frame := range [][2]string{{"", ""}, {"a", ""}, {"", "a"}, {"a", "b"}} {
			word := frame[0] + string([]byte{byte(b)}) + frame[1]
			want, wantE := "x "+word+" y", api.OK
			if b < 0x21 || b > 0x7e {
				want, wantE = "", api.ErrForm
			}
			if got, e := Join([]string{"x", word, "y"}); got != want || e != wantE {
				t.Errorf("Join(x, %q, y): %q, %d", word, got, e)
			}
		}
	}
}

// P1.3
func TestName(t *testing.T) {
	for _, c := range []struct {
		in string
		e  api.Errno
	}{
		{"a-1", api.OK},
		{"a", api.OK},
		{"z", api.OK},
		{"z-", api.OK},
		{"a--0", api.OK},
		{"abcdefghijkl", api.OK},
		{"a-0123456789", api.OK},
		{"", api.ErrName},
		{"1a", api.ErrName},
		{"-a", api.ErrName},
		{"A", api.ErrName},
		{"aB", api.ErrName},
		{"abcdefghijklm", api.ErrName},
		{"a-very-long-name", api.ErrName},
		{strings.Repeat("a", api.MaxText), api.ErrName},
		{"a b", api.ErrName},
		{"a\n", api.ErrName},
		{"a.b", api.ErrName},
		{"a_b", api.ErrName},
		{"é", api.ErrName},
	} {
		if e := Name(c.in); e != c.e {
			t.Errorf("Name(%.30q): %d", c.in, e)
		}
	}
}

// P1.3
func TestNameOfEachByte(t *testing.T) {
	const first = "abcdefghijklmnopqrstuvwxyz"
	const later = first + "0123456789-"
	for b := range 256 {
		s := string([]byte{byte(b)})
		for _, c := range []struct {
			in  string
			set string
		}{{s, first}, {s + "a", first}, {"a" + s, later}, {"a" + s + "b", later}} {
			want := api.ErrName
			if strings.Contains(c.set, s) {
				want = api.OK
			}
			if e := Name(c.in); e != want {
				t.Errorf("Name(%q): %d", c.in, e)
			}
		}
	}
}

// P1.3
func TestNumber(t *testing.T) {
	for _, c := range []struct {
		in   string
		want int
		e    api.Errno
	}{
		{"0", 0, api.OK},
		{"1", 1, api.OK},
		{"9", 9, api.OK},
		{"10", 10, api.OK},
		{"250", 250, api.OK},
		{"1234567890", 1234567890, api.OK},
		{"9007199254740990", 1<<53 - 2, api.OK},
		{"9007199254740991", 1<<53 - 1, api.OK},
		{"9007199254740992", 0, api.ErrRange},
		{"9007199254740993", 0, api.ErrRange},
		{"10000000000000000", 0, api.ErrRange},
		{"9223372036854775808", 0, api.ErrRange},
		{"18446744073709551616", 0, api.ErrRange},
		{"18446744073709551617", 0, api.ErrRange},
		{"1" + strings.Repeat("0", 1000), 0, api.ErrRange},
		{"", 0, api.ErrForm},
		{"01", 0, api.ErrForm},
		{"00", 0, api.ErrForm},
		{"09007199254740992", 0, api.ErrForm},
		{"-1", 0, api.ErrForm},
		{"-0", 0, api.ErrForm},
		{"+1", 0, api.ErrForm},
		{" 1", 0, api.ErrForm},
		{"1 ", 0, api.ErrForm},
		{"1\n", 0, api.ErrForm},
		{"1_0", 0, api.ErrForm},
		{"1.0", 0, api.ErrForm},
		{"1e3", 0, api.ErrForm},
		{"0x1", 0, api.ErrForm},
		{"a", 0, api.ErrForm},
		{"٣", 0, api.ErrForm},
		{"99999999999999999999a", 0, api.ErrForm},
		{"1" + strings.Repeat("0", 1000) + "a", 0, api.ErrForm},
	} {
		if got, e := Number(c.in); got != c.want || e != c.e {
			t.Errorf("Number(%.30q): %d, %d", c.in, got, e)
		}
	}
}

// P1.3
func TestNumberOfEachByte(t *testing.T) {
	for b := range 256 {
		s := string([]byte{byte(b)})
		digit := b >= '0' && b <= '9'
		want, e := 0, api.ErrForm
		if digit {
			want, e = b-'0', api.OK
		}
		if got, got2 := Number(s); got != want || got2 != e {
			t.Errorf("Number(%q): %d, %d", s, got, got2)
		}
		if digit {
			want = 105 + 10*want
		}
		if got, got2 := Number("1" + s + "5"); got != want || got2 != e {
			t.Errorf("Number(%q): %d, %d", "1"+s+"5", got, got2)
		}
	}
}

// P1.3
func TestDigits(t *testing.T) {
	for _, c := range []struct {
		in   int
		want string
		e    api.Errno
	}{
		{0, "0", api.OK},
		{9, "9", api.OK},
		{10, "10", api.OK},
		{250, "250", api.OK},
		{1<<53 - 1, "9007199254740991", api.OK},
		{1 << 53, "", api.ErrRange},
		{1<<63 - 1, "", api.ErrRange},
		{-1, "", api.ErrRange},
		{-1 << 63, "", api.ErrRange},
	} {
		if got, e := Digits(c.in); got != c.want || e != c.e {
			t.Errorf("Digits(%d): %q, %d", c.in, got, e)
		}
	}
}

// P1.4
func TestArgumentsAreOnlyRead(t *testing.T) {
	whole := []string{"a", "b", "kept", "too"}
	if s, e := Join(whole[:2]); s != "a b" || e != api.OK {
		t.Error(s, e)
	}
	if !slices.Equal(whole, []string{"a", "b", "kept", "too"}) {
		t.Error("Join changed its argument:", whole)
	}
	bad := []string{"a", "", "c"}
	Join(bad)
	if !slices.Equal(bad, []string{"a", "", "c"}) {
		t.Error("Join changed its argument:", bad)
	}
	words := []string{"a", "b"}
	s, _ := Join(words)
	words[0], words[1] = "x", "y"
	if s != "a b" {
		t.Error("Join's result changed with its argument:", s)
	}
}

// P1.4
func TestResultsAreNewMemory(t *testing.T) {
	for _, c := range []struct {
		name, in string
		split    func(string) ([]string, api.Errno)
	}{
		{"Lines", "one two\nthree\n\nfour", Lines},
		{"Lines", "alone", Lines},
		{"Words", "one two  three ", Words},
		{"Words", "alone", Words},
	} {
		first, _ := c.split(c.in)
		want := slices.Clone(first)
		for i := range first {
			for j := range i {
				if shared(want[i], want[j]) {
					t.Error(c.name, "shares memory of two elements", i, j)
				}
			}
			if shared(first[i], c.in) {
				t.Error(c.name, "shares memory with its argument at", i)
			}
			first[i] = "changed"
		}
		if second, _ := c.split(c.in); !slices.Equal(second, want) {
			t.Error(c.name, "answers otherwise after its earlier answer was changed:", second)
		}
	}
	for _, words := range [][]string{{"alone"}, {"one", "two"}} {
		s, _ := Join(words)
		for _, w := range words {
			if shared(s, w) {
				t.Error("Join shares memory with its argument:", words)
			}
		}
	}
}

// P1.5
func TestJoinedWordsAreSplitAgain(t *testing.T) {
	pieces := texts([]string{"a", "-", "!", "~"}, 2)[1:]
	lists := [][]string{nil}
	for _, a := range pieces {
		lists = append(lists, []string{a})
		for _, b := range pieces {
			lists = append(lists, []string{a, b}, []string{b, a, b}, []string{a, a, b, b})
		}
	}
	for _, words := range lists {
		line, e := Join(words)
		if e != api.OK {
			t.Fatal(words, e)
		}
		if got, e := Words(line); e != api.OK || !slices.Equal(got, words) {
			t.Fatalf("Words(%q): %q, %d, not %q", line, got, e, words)
		}
	}
}

// P1.5
func TestSplitLinesAreJoinedAndSplitAgain(t *testing.T) {
	for _, line := range texts([]string{"a", "b", " ", "\t", "é"}, 6) {
		words, e := Words(line)
		if strings.ContainsAny(line, "\té") {
			if e != api.ErrForm || len(words) != 0 {
				t.Fatalf("Words(%q): %q, %d", line, words, e)
			}
			continue
		}
		joined, e2 := Join(words)
		again, e3 := Words(joined)
		if e != api.OK || e2 != api.OK || e3 != api.OK || !slices.Equal(words, again) {
			t.Fatalf("%q: %q, %d; %q, %d; %q, %d", line, words, e, joined, e2, again, e3)
		}
		if !slices.Equal(words, strings.Fields(line)) {
			t.Fatalf("Words(%q): %q", line, words)
		}
	}
}

// P1.6
func TestLinesAreTheText(t *testing.T) {
	for _, s := range texts([]string{"a", " ", "\n", "\xff"}, 7) {
		lines, e := Lines(s)
		if e != api.OK {
			t.Fatalf("Lines(%q): %d", s, e)
		}
		back := ""
		for _, l := range lines {
			if strings.Contains(l, "\n") {
				t.Fatalf("Lines(%q): %q has a line feed", s, l)
			}
			back += l + "\n"
		}
		want := s
		if s != "" && !strings.HasSuffix(s, "\n") {
			want += "\n"
		}
		if back != want {
			t.Fatalf("Lines(%q): %q", s, lines)
		}
	}
}

// someNumbers tells, increasing, numbers about each power of two and of ten.
func someNumbers() []int {
	all := []int{api.MaxNumber - 1, api.MaxNumber}
	for i := range 2000 {
		all = append(all, i)
	}
	for _, base := range []int{2, 10} {
		for p := 1; p < api.MaxNumber; p *= base {
			all = append(all, p-1, p, p+1, 3*(p/4), p/7*5)
		}
	}
	slices.Sort(all)
	return slices.Compact(all)
}

// P1.7
func TestDigitsAndNumberAreInverse(t *testing.T) {
	for _, n := range someNumbers() {
		s, e := Digits(n)
		if e != api.OK {
			t.Fatal(n, e)
		}
		if got, e := Number(s); got != n || e != api.OK {
			t.Fatalf("Number(Digits(%d)): %d, %d", n, got, e)
		}
	}
	for _, s := range texts([]string{"0", "1", "9"}, 9) {
		n, e := Number(s)
		if s == "" || len(s) > 1 && s[0] == '0' {
			if n != 0 || e != api.ErrForm {
				t.Fatalf("Number(%q): %d, %d", s, n, e)
			}
			continue
		}
		if e != api.OK {
			t.Fatalf("Number(%q): %d", s, e)
		}
		if got, e := Digits(n); got != s || e != api.OK {
			t.Fatalf("Digits(Number(%q)): %q, %d", s, got, e)
		}
	}
}

// P1.7
func TestLongerOrBytewiseGreaterIsGreater(t *testing.T) {
	all := someNumbers()
	for i := 1; i < len(all); i++ {
		a, _ := Digits(all[i-1])
		b, _ := Digits(all[i])
		if len(a) > len(b) || len(a) == len(b) && a >= b {
			t.Fatalf("Digits(%d) %q, Digits(%d) %q", all[i-1], a, all[i], b)
		}
	}
	digits := texts([]string{"0", "1", "2", "9"}, 3)
	for _, a := range digits {
		for _, b := range digits {
			x, e := Number(a)
			y, f := Number(b)
			if e != api.OK || f != api.OK {
				continue
			}
			greater := len(a) > len(b) || len(a) == len(b) && a > b
			if greater != (x > y) {
				t.Fatalf("Number(%q) %d, Number(%q) %d", a, x, b, y)
			}
		}
	}
}

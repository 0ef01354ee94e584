package head

import (
	"slices"
	"strings"
	"sync"
	"testing"
	"unsafe"

	"chinoiserie/api"
)

const (
	nameBytes = "abcdefghijklmnopqrstuvwxyzABCDEFGHIJKLMNOPQRSTUVWXYZ0123456789-_"
	large     = "ABCDEFGHIJKLMNOPQRSTUVWXYZ"
	small     = "abcdefghijklmnopqrstuvwxyz"
)

// list tells headers of names and values in turn.
func list(parts ...string) []api.Head {
	var l []api.Head
	for i := 0; i < len(parts); i += 2 {
		l = append(l, api.Head{Name: parts[i], Value: parts[i+1]})
	}
	return l
}

// many tells so many headers, no two of one name.
func many(n int) []api.Head {
	var l []api.Head
	for i := range n {
		l = append(l, api.Head{Name: "n" + strings.Repeat("x", i), Value: strings.Repeat("v", i)})
	}
	return l
}

// char is the text of one byte.
func char(b int) string { return string([]byte{byte(b)}) }

// shared tells whether two texts have a byte of memory in common.
func shared(a, b string) bool {
	if a == "" || b == "" {
		return false
	}
	x, y := uintptr(unsafe.Pointer(unsafe.StringData(a))), uintptr(unsafe.Pointer(unsafe.StringData(b)))
	return x < y+uintptr(len(b)) && y < x+uintptr(len(a))
}

// fresh tells whether no text of a header has memory in common with s.
func fresh(l []api.Head, s string) bool {
	for _, h := range l {
		if shared(h.Name, s) || shared(h.Value, s) {
			return false
		}
	}
	return true
}

// written is how the document writes a header down, each line.
func written(l []api.Head) []string {
	var lines []string
	for _, h := range l {
		lines = append(lines, h.Name+": "+h.Value)
	}
	return lines
}

type nameCase struct {
	in string
	is bool
}

// names tells texts, and whether each is a name.
func names() []nameCase {
	all := []nameCase{
		{"", false},
		{"a", true},
		{"-", true},
		{"_", true},
		{"0", true},
		{"X-Ctx", true},
		{"a_b-9Z", true},
		{"---", true},
		{strings.Repeat("a", 29), true},
		{strings.Repeat("a", 30), true},
		{strings.Repeat("a", 31), false},
		{strings.Repeat("-", 30), true},
		{strings.Repeat("-", 31), false},
		{strings.Repeat("é", 15), false},
		{strings.Repeat("a", 1000), false},
		{"a b", false},
		{" a", false},
		{"a ", false},
		{"a\t", false},
		{"a:", false},
		{":", false},
		{"a\r\n", false},
		{"é", false},
		{"\u212a", false},
		{"\u017f", false},
		{"a\u0131", false},
	}
	for b := range 256 {
		is := strings.IndexByte(nameBytes, byte(b)) >= 0
		for _, frame := range [][2]string{{"", ""}, {"a", ""}, {"", "a"}, {"a", "b"}, {strings.Repeat("a", 29), ""}} {
			all = append(all, nameCase{frame[0] + char(b) + frame[1], is})
		}
	}
	return all
}

type valueCase struct {
	in string
	is bool
}

// values tells texts, and whether each is a value.
func values() []valueCase {
	all := []valueCase{
		{"", true},
		{"a", true},
		{"1 2", true},
		{"a    b", true},
		{"a:b", true},
		{":", true},
		{"~!~", true},
		{strings.Repeat("v", 199), true},
		{strings.Repeat("v", 200), true},
		{strings.Repeat("v", 201), false},
		{"v" + strings.Repeat(" ", 198) + "v", true},
		{"v" + strings.Repeat(" ", 199) + "v", false},
		{strings.Repeat("v", 10000), false},
		{" ", false},
		{"  ", false},
		{" a", false},
		{"a ", false},
		{" a ", false},
		{"\t", false},
		{"\ta", false},
		{"a\t", false},
		{"a\tb", false},
		{"a\r\nb", false},
		{"a\x00", false},
		{"é", false},
		{"a\u00a0b", false},
		{"a\ufffdb", false},
	}
	for b := range 256 {
		in := b >= 0x20 && b <= 0x7e
		all = append(all,
			valueCase{"a" + char(b) + "b", in},
			valueCase{char(b), in && b != 0x20},
			valueCase{char(b) + "b", in && b != 0x20},
			valueCase{"a" + char(b), in && b != 0x20})
	}
	return all
}

// The table 'Examples' of the chapter.
func TestExamples(t *testing.T) {
	if !Alike("X-Ctx", "x-ctx") || Alike("a b", "a b") || Lower("X-Ctx") != "x-ctx" {
		t.Error("Alike, Lower")
	}
	for _, c := range []struct {
		in   string
		want api.Head
		e    api.Errno
	}{
		{"A: 1", api.Head{Name: "A", Value: "1"}, api.OK},
		{"A:\t1 ", api.Head{Name: "A", Value: "1"}, api.OK},
		{"A : 1", api.Head{}, api.ErrHead},
		{": 1", api.Head{}, api.ErrHead},
		{"A", api.Head{}, api.ErrHead},
	} {
		if got, e := Line(c.in); got != c.want || e != c.e {
			t.Errorf("Line(%q): %v, %d", c.in, got, e)
		}
	}
	l := list("A", "1", "b", "2", "a", "3")
	if v, n := Get(l, "A"); v != "1" || n != 2 {
		t.Error("Get:", v, n)
	}
	if got, e := Set(l, "a", "4"); !slices.Equal(got, list("b", "2", "a", "4")) || e != api.OK {
		t.Error("Set:", got, e)
	}
	if got := Drop(l, "B"); !slices.Equal(got, list("A", "1", "a", "3")) {
		t.Error("Drop:", got)
	}
	if got := Strip(l, "A"); !slices.Equal(got, list("b", "2")) {
		t.Error("Strip:", got)
	}
	b, e := Bytes(list("A", "1", "b", ""))
	if !slices.Equal(b, []byte{0x41, 0x3a, 0x20, 0x31, 0x0d, 0x0a, 0x62, 0x3a, 0x20, 0x0d, 0x0a}) || e != api.OK {
		t.Error("Bytes:", b, e)
	}
}

// P4.1, P4.3
func TestEachHeaderHasAName(t *testing.T) {
	for _, c := range names() {
		want := api.ErrHead
		if c.is {
			want = api.OK
		}
		for _, l := range [][]api.Head{list(c.in, "v"), list("a", "1", c.in, ""), list(c.in, "v", "a", "1")} {
			if e := Check(l); e != want {
				t.Errorf("Check(%q): %d", l, e)
			}
			if b, e := Bytes(l); e != want || e != api.OK && len(b) != 0 {
				t.Errorf("Bytes(%q): %q, %d", l, b, e)
			}
		}
	}
}

// P4.1, P4.3
func TestEachHeaderHasAValue(t *testing.T) {
	for _, c := range values() {
		want := api.ErrHead
		if c.is {
			want = api.OK
		}
		for _, l := range [][]api.Head{list("n", c.in), list("a", "1", "n", c.in), list("n", c.in, "a", "1")} {
			if e := Check(l); e != want {
				t.Errorf("Check(%q): %d", l, e)
			}
			if b, e := Bytes(l); e != want || e != api.OK && len(b) != 0 {
				t.Errorf("Bytes(%q): %q, %d", l, b, e)
			}
		}
	}
}

// P4.1, P4.3
func TestHowManyHeaders(t *testing.T) {
	for _, c := range []struct {
		in []api.Head
		e  api.Errno
	}{
		{nil, api.OK},
		{[]api.Head{}, api.OK},
		{many(1), api.OK},
		{many(2), api.OK},
		{many(15), api.OK},
		{many(16), api.OK},
		{many(17), api.ErrLimit},
		{many(30), api.ErrLimit},
		{slices.Repeat(list("a", "1", "A", "1"), 8), api.OK},
		{slices.Repeat(list("a", "1"), 17), api.ErrLimit},
		{slices.Repeat(list("", ""), 16), api.ErrHead},
		// The length comes first, wherever what may not be is.
		{slices.Repeat(list("", " "), 17), api.ErrLimit},
		{append(list("a b", "1"), many(16)...), api.ErrLimit},
		{append(many(16), list("a", "\n")...), api.ErrLimit},
		{append(many(15), list("a", "\n")...), api.ErrHead},
		{append(list("a", "\n"), many(15)...), api.ErrHead},
	} {
		if e := Check(c.in); e != c.e {
			t.Errorf("Check(%q): %d, not %d", c.in, e, c.e)
		}
		if b, e := Bytes(c.in); e != c.e || e != api.OK && len(b) != 0 {
			t.Errorf("Bytes(%q): %q, %d, not %d", c.in, b, e, c.e)
		}
	}
}

// P4.1
func TestAlike(t *testing.T) {
	long := strings.Repeat("aB", 15)
	for _, c := range []struct {
		a, b string
		want bool
	}{
		{"a", "a", true},
		{"a", "A", true},
		{"Host", "hOST", true},
		{"x-ctx_9", "X-CTX_9", true},
		{small, large, true},
		{long, strings.Repeat("Ab", 15), true},
		{long, long, true},
		{long + "c", long + "c", false},
		{long, long + "c", false},
		{"a", "b", false},
		{"a", "aa", false},
		{"aa", "a", false},
		{"a", "", false},
		{"", "", false},
		{"a-b", "a_b", false},
		{"a b", "A B", false},
		{"a:", "a:", false},
		{"é", "é", false},
		{"k", "\u212a", false},
		{"s", "\u017f", false},
		{" a", "a", false},
		// Bytes that differ from a name's bytes as a small letter does from a large one.
		{"-", "\r", false},
		{"0", "\x10", false},
		{"_", "\x7f", false},
	} {
		if Alike(c.a, c.b) != c.want || Alike(c.b, c.a) != c.want {
			t.Errorf("Alike(%q, %q): not %t", c.a, c.b, c.want)
		}
	}
}

// P4.1
func TestAlikeOfEachTwoBytes(t *testing.T) {
	for a := range 256 {
		for b := range 256 {
			want := strings.IndexByte(nameBytes, byte(a)) >= 0 && strings.IndexByte(nameBytes, byte(b)) >= 0
			i, j := strings.IndexByte(large+small, byte(a)), strings.IndexByte(large+small, byte(b))
			want = want && (a == b || i >= 0 && j >= 0 && i%26 == j%26)
			for _, frame := range [][4]string{{"", "", "", ""}, {"n", "", "N", ""}, {"", "n", "", "N"}, {"A", "b", "a", "B"}} {
				x, y := frame[0]+char(a)+frame[1], frame[2]+char(b)+frame[3]
				if Alike(x, y) != want {
					t.Fatalf("Alike(%q, %q): not %t", x, y, want)
				}
			}
		}
	}
}

// P4.1
func TestAlikeIsOfNames(t *testing.T) {
	for _, c := range names() {
		if Alike(c.in, c.in) != c.is {
			t.Errorf("Alike(%q) of itself: not %t", c.in, c.is)
		}
	}
}

// P4.1
func TestLower(t *testing.T) {
	for b := range 256 {
		want := char(b)
		if i := strings.IndexByte(large, byte(b)); i >= 0 {
			want = small[i : i+1]
		}
		for _, frame := range [][2]string{{"", ""}, {"a", "b"}, {"\xff", " "}, {"", "9"}} {
			if got := Lower(frame[0] + char(b) + frame[1]); got != frame[0]+want+frame[1] {
				t.Errorf("Lower of the byte %x in %q: %q", b, frame, got)
			}
		}
	}
	for _, c := range [][2]string{
		{"", ""},
		{large, small},
		{"A b:C\n", "a b:c\n"},
		{"ÄÉ", "ÄÉ"},
		{"\u212aA\u0130", "\u212aa\u0130"},
		{"\xc3A\xffB\x80", "\xc3a\xffb\x80"},
		{strings.Repeat("A", 70000), strings.Repeat("a", 70000)},
	} {
		if got := Lower(c[0]); got != c[1] {
			t.Errorf("Lower(%.20q): %.20q", c[0], got)
		}
	}
}

// refused tells a list with everything that Check refuses: too many headers, names and values that are none.
func refused() []api.Head {
	l := list("a b", "1", "A B", "2", "", "3", "k", " x\n", "K", strings.Repeat("v", 201), "\u212a", "4", strings.Repeat("a", 31), "5")
	for i := range 20 {
		l = append(l, api.Head{Name: "x" + char('a'+i), Value: char(i)})
	}
	return l
}

// P4.2
func TestGet(t *testing.T) {
	l := list("A", "1", "b", "2", "a", "3", "X-y", "", "x-Y", "z", "a1", "4", "aa", "5")
	for _, c := range []struct {
		l     []api.Head
		name  string
		value string
		many  int
	}{
		{l, "a", "1", 2},
		{l, "A", "1", 2},
		{l, "b", "2", 1},
		{l, "B", "2", 1},
		{l, "x-y", "", 2},
		{l, "X-Y", "", 2},
		{l, "a1", "4", 1},
		{l, "aA", "5", 1},
		{l, "c", "", 0},
		{l, "x", "", 0},
		{l, "x_y", "", 0},
		{l, "", "", 0},
		{l, "a b", "", 0},
		{l, "a:", "", 0},
		{nil, "a", "", 0},
		{nil, "", "", 0},
		{[]api.Head{}, "a", "", 0},
		{slices.Repeat(list("N", "v"), 16), "n", "v", 16},
		{slices.Repeat(list("N", "v"), 17), "n", "v", 17},
		{slices.Repeat(list("N", "v", "m", "w"), 500), "M", "w", 500},
		{refused(), "k", " x\n", 2},
		{refused(), "xb", "\x01", 1},
		{refused(), "XT", "\x13", 1},
		{refused(), "a b", "", 0},
		{refused(), "", "", 0},
		{refused(), "\u212a", "", 0},
		{refused(), strings.Repeat("a", 31), "", 0},
		{list("a", "\t", "a", "1"), "A", "\t", 2},
	} {
		if v, n := Get(c.l, c.name); v != c.value || n != c.many {
			t.Errorf("Get(%q, %q): %q, %d, not %q, %d", c.l, c.name, v, n, c.value, c.many)
		}
	}
}

// P4.2
func TestSet(t *testing.T) {
	l := list("A", "1", "b", "2", "a", "3", "c", "4")
	full := many(16)
	for _, c := range []struct {
		l           []api.Head
		name, value string
		want        []api.Head
	}{
		{l, "a", "5", list("b", "2", "c", "4", "a", "5")},
		{l, "A", "5", list("b", "2", "c", "4", "A", "5")},
		{l, "B", "", list("A", "1", "a", "3", "c", "4", "B", "")},
		{l, "c", "4", list("A", "1", "b", "2", "a", "3", "c", "4")},
		{l, "d", "x: y", append(slices.Clone(l), list("d", "x: y")...)},
		{nil, "a", "1", list("a", "1")},
		{[]api.Head{}, "a", "1", list("a", "1")},
		{list("a", "1"), "a", "2", list("a", "2")},
		{list("a", "1", "A", "1", "a", "1"), "A", "2", list("A", "2")},
		{nil, strings.Repeat("n", 30), strings.Repeat("v", 200), list(strings.Repeat("n", 30), strings.Repeat("v", 200))},
		{full[:15], "new", "1", append(many(15), list("new", "1")...)},
		{full, "N", "1", append(many(16)[1:], list("N", "1")...)},
		{full, full[15].Name, "1", append(many(15), list(full[15].Name, "1")...)},
		{full, full[7].Name, full[7].Value, append(append(many(7), many(16)[8:]...), full[7])},
		{append(many(15), list("a", "1", "A", "2")...), "a", "3", append(many(15), list("a", "3")...)},
		{slices.Repeat(list("a", "1"), 16), "a", "2", list("a", "2")},
		{slices.Repeat(list("a", "1"), 17), "a", "2", list("a", "2")},
		{slices.Repeat(list("a", "1"), 1000), "A", "2", list("A", "2")},
		{list("a b", "1", "a", "\n", "", " "), "a", "2", list("a b", "1", "", " ", "a", "2")},
		{list("a b", "1", "a", "\n", "", " "), "c", "2", list("a b", "1", "a", "\n", "", " ", "c", "2")},
		{list("\u212a", "1"), "k", "2", list("\u212a", "1", "k", "2")},
	} {
		got, e := Set(c.l, c.name, c.value)
		if !slices.Equal(got, c.want) || e != api.OK {
			t.Errorf("Set(%q, %q, %q): %q, %d, not %q", c.l, c.name, c.value, got, e, c.want)
		}
	}
}

// P4.2
func TestSetThatIsRefused(t *testing.T) {
	full := many(16)
	for _, c := range []struct {
		l           []api.Head
		name, value string
		e           api.Errno
	}{
		{full, "new", "1", api.ErrLimit},
		{full, "x", "", api.ErrLimit},
		{many(17), "new", "1", api.ErrLimit},
		{many(17), "n", "1", api.ErrLimit},
		{slices.Repeat(list("a", "1"), 16), "b", "1", api.ErrLimit},
		{slices.Repeat(list("a b", "1"), 16), "b", "1", api.ErrLimit},
		{slices.Repeat(list("", "1"), 17), "b", "1", api.ErrLimit},
		{refused(), "k", "1", api.ErrLimit},
		// The name and the value come ahead of the room.
		{full, "", "1", api.ErrHead},
		{full, "a b", "1", api.ErrHead},
		{full, "new", " 1", api.ErrHead},
		{refused(), "a b", "1", api.ErrHead},
		{refused(), "k", "1\t", api.ErrHead},
		{nil, "", "", api.ErrHead},
		{nil, "a", "\n", api.ErrHead},
		{list("a b", "1"), "a b", "1", api.ErrHead},
		{list("a", "\n"), "a", "\n", api.ErrHead},
	} {
		if got, e := Set(c.l, c.name, c.value); len(got) != 0 || e != c.e {
			t.Errorf("Set(%q, %q, %q): %q, %d, not %d", c.l, c.name, c.value, got, e, c.e)
		}
	}
}

// P4.2
func TestSetOfEachNameAndValue(t *testing.T) {
	for _, c := range names() {
		got, e := Set(list("other", "1"), c.in, "v")
		if c.is && (e != api.OK || !slices.Equal(got, list("other", "1", c.in, "v"))) {
			t.Errorf("Set of the name %q: %q, %d", c.in, got, e)
		}
		if !c.is && (e != api.ErrHead || len(got) != 0) {
			t.Errorf("Set of the name %q: %q, %d", c.in, got, e)
		}
	}
	for _, c := range values() {
		got, e := Set(list("other", "1"), "n", c.in)
		if c.is && (e != api.OK || !slices.Equal(got, list("other", "1", "n", c.in))) {
			t.Errorf("Set of the value %q: %q, %d", c.in, got, e)
		}
		if !c.is && (e != api.ErrHead || len(got) != 0) {
			t.Errorf("Set of the value %q: %q, %d", c.in, got, e)
		}
	}
}

// P4.2
func TestDrop(t *testing.T) {
	l := list("A", "1", "b", "2", "a", "3", "aa", "4", "a-", "5")
	for _, c := range []struct {
		l    []api.Head
		name string
		want []api.Head
	}{
		{l, "a", list("b", "2", "aa", "4", "a-", "5")},
		{l, "A", list("b", "2", "aa", "4", "a-", "5")},
		{l, "b", list("A", "1", "a", "3", "aa", "4", "a-", "5")},
		{l, "AA", list("A", "1", "b", "2", "a", "3", "a-", "5")},
		{l, "A-", list("A", "1", "b", "2", "a", "3", "aa", "4")},
		{l, "c", l},
		{l, "a_", l},
		{l, "", l},
		{l, " a", l},
		{l, "a:", l},
		{l, strings.Repeat("a", 31), l},
		{nil, "a", nil},
		{nil, "", nil},
		{[]api.Head{}, "a", nil},
		{list("a", "1"), "a", nil},
		{slices.Repeat(list("a", "1"), 16), "A", nil},
		{slices.Repeat(list("a", "1"), 17), "A", nil},
		{many(16), "n", many(16)[1:]},
		{many(17), "N", many(17)[1:]},
		{many(20), "none", many(20)},
		{refused(), "k", slices.Delete(refused(), 3, 5)},
		{refused(), "", refused()},
		{refused(), "a b", refused()},
		{refused(), "\u212a", refused()},
		{refused(), strings.Repeat("a", 31), refused()},
	} {
		if got := Drop(c.l, c.name); !slices.Equal(got, c.want) {
			t.Errorf("Drop(%q, %q): %q, not %q", c.l, c.name, got, c.want)
		}
	}
}

// P4.2
func TestStrip(t *testing.T) {
	l := list("X-A", "1", "b", "2", "x-a", "3", "x-b", "4", "xa", "5", "a-x-", "6", "X", "7", "X-", "8")
	for _, c := range []struct {
		l      []api.Head
		prefix string
		want   []api.Head
	}{
		{l, "x-", list("b", "2", "xa", "5", "a-x-", "6", "X", "7")},
		{l, "X-", list("b", "2", "xa", "5", "a-x-", "6", "X", "7")},
		{l, "x", list("b", "2", "a-x-", "6")},
		{l, "X-A", list("b", "2", "x-b", "4", "xa", "5", "a-x-", "6", "X", "7", "X-", "8")},
		{l, "x_", l},
		{l, "B", list("X-A", "1", "x-a", "3", "x-b", "4", "xa", "5", "a-x-", "6", "X", "7", "X-", "8")},
		{l, "x-ab", l},
		{l, "q", l},
		{l, "x ", l},
		{l, " x", l},
		{l, "x-\n", l},
		{l, "é", l},
		{l, "x-a" + strings.Repeat("a", 70000), l},
		{l, "", nil},
		{nil, "", nil},
		{nil, "x", nil},
		{[]api.Head{}, "x", nil},
		{many(16), "N", nil},
		{many(16), "nx", many(1)},
		{many(16), strings.Repeat("a", 31), many(16)},
		{many(17), "", nil},
		{many(17), "NX", many(1)},
		{many(17), "o", many(17)},
		{list("k", "1", "s", "2"), "\u212a", list("k", "1", "s", "2")},
		{list("k", "1", "s", "2"), "\u017f", list("k", "1", "s", "2")},
		{list("a-", "1", "a_", "2"), "A\r", list("a-", "1", "a_", "2")},
		{refused(), "", nil},
		{refused(), "k", slices.Delete(refused(), 3, 5)},
		{refused(), "X", refused()[:7]},
		// A prefix is one whether or not it is a name, or begins one.
		{refused(), "A ", refused()[2:]},
		{refused(), strings.Repeat("A", 31), slices.Delete(refused(), 6, 7)},
		{list("\u00c9a", "1", "\u00e9a", "2", "\xff", "3"), "\u00e9A", list("\u00c9a", "1", "\xff", "3")},
		{list("\xff", "1", "\xfe", "2"), "\xfe", list("\xff", "1")},
	} {
		if got := Strip(c.l, c.prefix); !slices.Equal(got, c.want) {
			t.Errorf("Strip(%q, %.40q): %q, not %q", c.l, c.prefix, got, c.want)
		}
	}
}

// P4.3
func TestBytes(t *testing.T) {
	for _, c := range []struct {
		in   []api.Head
		want string
	}{
		{nil, ""},
		{[]api.Head{}, ""},
		{list("a", ""), "a: \r\n"},
		{list("Host", "shop.example"), "Host: shop.example\r\n"},
		{list("a", "1", "A", "1", "a", "1"), "a: 1\r\nA: 1\r\na: 1\r\n"},
		{list("b", "x: y", "a", "1  2"), "b: x: y\r\na: 1  2\r\n"},
		{slices.Repeat(list("n", "v"), 16), strings.Repeat("n: v\r\n", 16)},
		{slices.Repeat(list(strings.Repeat("n", 30), strings.Repeat("v", 200)), 16),
			strings.Repeat(strings.Repeat("n", 30)+": "+strings.Repeat("v", 200)+"\r\n", 16)},
	} {
		if got, e := Bytes(c.in); string(got) != c.want || e != api.OK {
			t.Errorf("Bytes(%q): %q, %d", c.in, got, e)
		}
	}
}

// P4.3
func TestLine(t *testing.T) {
	spaces := func(n int) string { return strings.Repeat(" \t", n/2) + strings.Repeat(" ", n%2) }
	name, value := strings.Repeat("n", 30), strings.Repeat("v", 200)
	for _, c := range []struct {
		in          string
		name, value string
	}{
		{"a:", "a", ""},
		{"a: ", "a", ""},
		{"a:\t", "a", ""},
		{"a: \t \t\t  ", "a", ""},
		{"a:1", "a", "1"},
		{"a:1 ", "a", "1"},
		{"a:\t1", "a", "1"},
		{"a:  1\t", "a", "1"},
		{"a: \t 1\t \t", "a", "1"},
		{"Host: a.b:80", "Host", "a.b:80"},
		{"a::", "a", ":"},
		{"a:: b", "a", ": b"},
		{"a: b: c :", "a", "b: c :"},
		{"a: b  c ", "a", "b  c"},
		{"_-9:~", "_-9", "~"},
		{name + ":" + value, name, value},
		{name + ": " + value + " ", name, value},
		{name + ":" + spaces(69) + value, name, value},
		{name + ":" + value + spaces(69), name, value},
		{name + ":" + spaces(30) + value + spaces(39), name, value},
		{"a:" + spaces(298), "a", ""},
		{"a:" + spaces(297) + "b", "a", "b"},
	} {
		if got, e := Line(c.in); got != (api.Head{Name: c.name, Value: c.value}) || e != api.OK {
			t.Errorf("Line(%q): %q, %d", c.in, got, e)
		}
	}
	for _, in := range []string{
		"", ":", " ", "\t", "a", "a b", " : ", ":a", "a :", "a\t: 1", " a: 1", "\ta: 1", "a b: 1", "a", "a 1",
		"a: 1\n", "a: 1\r", "a: 1\r\n", "a:\n1", "a\n: 1", "a: b\tc", "a: \tb\tc", "a: é", "é: a", "a: 1\x7f", "a: \x1f", "a:\u00a01", "a:\v1", "a:1\f",
		"nn" + name[1:] + ": 1", "n: v" + value, name + ":" + value + "v",
		"a:" + spaces(299), "a:" + spaces(298) + "b", "a:b" + spaces(298), name + ":" + spaces(70) + value, name + ":" + value + spaces(70),
		"a:" + spaces(100000), strings.Repeat("a:", 151), strings.Repeat("x", 300), strings.Repeat("x", 301),
	} {
		if got, e := Line(in); got != (api.Head{}) || e != api.ErrHead {
			t.Errorf("Line(%.40q): %q, %d", in, got, e)
		}
	}
}

// P4.3
func TestLineOfEachNameAndValue(t *testing.T) {
	for _, c := range names() {
		want, e := api.Head{Name: c.in, Value: "1"}, api.OK
		if !c.is {
			want, e = api.Head{}, api.ErrHead
		}
		// What follows the first colon belongs to no name.
		if before, after, found := strings.Cut(c.in, ":"); found && before != "" {
			want, e = api.Head{Name: before, Value: after + ": 1"}, api.OK
		}
		if got, f := Line(c.in + ": 1"); got != want || f != e {
			t.Errorf("Line(%q): %q, %d", c.in+": 1", got, f)
		}
	}
	for _, c := range values() {
		// Blanks and tabs at the ends of a value count as those around it.
		trimmed := strings.Trim(c.in, " \t")
		want, e := api.Head{Name: "n", Value: trimmed}, api.OK
		if Check([]api.Head{want}) != api.OK || len(c.in) > 290 {
			want, e = api.Head{}, api.ErrHead
		}
		for _, line := range []string{"n:" + c.in, "n: " + c.in, "n:\t" + c.in + " \t"} {
			if got, f := Line(line); got != want || f != e {
				t.Errorf("Line(%q): %q, %d, not %q, %d", line, got, f, want, e)
			}
		}
	}
}

// P4.3
func TestSame(t *testing.T) {
	l := list("A", "1", "b", "2")
	for _, c := range []struct {
		a, b []api.Head
		want bool
	}{
		{nil, nil, true},
		{nil, []api.Head{}, true},
		{l, slices.Clone(l), true},
		{l, list("A", "1", "b", "2"), true},
		{l, list("a", "1", "b", "2"), false},
		{l, list("A", "1", "B", "2"), false},
		{l, list("A", "1", "b", "3"), false},
		{l, list("A", "1", "b", ""), false},
		{l, list("b", "2", "A", "1"), false},
		{l, list("A", "1"), false},
		{l, list("A", "1", "b", "2", "b", "2"), false},
		{l, nil, false},
		{list("", ""), nil, false},
		{list("a", "b"), list("ab", ""), false},
		{list("a", "x"), list("a", "X"), false},
		{refused(), refused(), true},
		{refused(), refused()[1:], false},
		{list("a b", "\n"), list("a b", "\n"), true},
		{list("a b", "\n"), list("A b", "\n"), false},
		{many(17), many(17), true},
	} {
		if Same(c.a, c.b) != c.want || Same(c.b, c.a) != c.want {
			t.Errorf("Same(%q, %q): not %t", c.a, c.b, c.want)
		}
	}
}

// lists tells the functions that return a list of one.
func lists() map[string]func([]api.Head) []api.Head {
	return map[string]func([]api.Head) []api.Head{
		"Set of one that is there":  func(l []api.Head) []api.Head { got, _ := Set(l, "b", "new"); return got },
		"Set of one that is not":    func(l []api.Head) []api.Head { got, _ := Set(l, "new", "new"); return got },
		"Set that is refused":       func(l []api.Head) []api.Head { got, _ := Set(l, "a b", "new"); return got },
		"Drop of one that is there": func(l []api.Head) []api.Head { return Drop(l, "B") },
		"Drop of the first one":     func(l []api.Head) []api.Head { return Drop(l, "a") },
		"Drop of one that is not":   func(l []api.Head) []api.Head { return Drop(l, "new") },
		"Drop of no name":           func(l []api.Head) []api.Head { return Drop(l, "") },
		"Strip of some":             func(l []api.Head) []api.Head { return Strip(l, "a") },
		"Strip of none":             func(l []api.Head) []api.Head { return Strip(l, "x") },
		"Strip of all":              func(l []api.Head) []api.Head { return Strip(l, "") },
	}
}

// P4.4
func TestArgumentsAreOnlyRead(t *testing.T) {
	for name, f := range lists() {
		whole := list("Ab", "1", "b", "2", "ac", "3", "a", "4", "kept", "5", "too", "6")
		before := slices.Clone(whole)
		f(whole[:4])
		if !slices.Equal(whole, before) {
			t.Errorf("%s changed its argument, or what lies behind it: %q", name, whole)
		}
	}
	whole := list("Ab", "1", "b", "2", "kept", "3")
	before := slices.Clone(whole)
	Check(whole[:2])
	Get(whole[:2], "B")
	Bytes(whole[:2])
	Same(whole[:2], before)
	if !slices.Equal(whole, before) {
		t.Errorf("an argument is changed: %q", whole)
	}
}

// P4.4
func TestResultsAreNewMemory(t *testing.T) {
	in := list("Ab", "one", "b", "two", "ac", "three", "a", "four")
	for name, f := range lists() {
		first := f(in)
		want := slices.Clone(first)
		for _, h := range in {
			if !fresh(first, h.Name) || !fresh(first, h.Value) {
				t.Errorf("%s shares memory with its argument: %q", name, first)
			}
		}
		for i := range first {
			first[i] = api.Head{Name: "changed", Value: "too"}
		}
		first = append(first, list("more", "1")...)
		if !slices.Equal(in, list("Ab", "one", "b", "two", "ac", "three", "a", "four")) {
			t.Errorf("%s: the argument changed with the result: %q", name, in)
		}
		if again := f(in); !slices.Equal(again, want) {
			t.Errorf("%s answers otherwise after its earlier answer was changed: %q", name, again)
		}
	}
}

// P4.4
func TestResultsAreNotKept(t *testing.T) {
	for name, f := range lists() {
		in := list("Ab", "one", "b", "two", "ac", "three", "a", "four")
		got := f(in)
		want := slices.Clone(got)
		for i := range in {
			in[i] = api.Head{Name: "changed", Value: "too"}
		}
		if !slices.Equal(got, want) {
			t.Errorf("%s: the result changed with the argument: %q", name, got)
		}
	}
}

// P4.4
func TestTextsAreNewMemory(t *testing.T) {
	value, name := "some value", "Some-Name"
	if got, n := Get(list(name, value), name); got != value || n != 1 || shared(got, value) {
		t.Error("Get shares memory with its argument")
	}
	got, e := Set(nil, name, value)
	if e != api.OK || len(got) != 1 || !fresh(got, name) || !fresh(got, value) {
		t.Error("Set shares memory with its argument:", got, e)
	}
	for _, s := range []string{"already-small", "Not-Small"} {
		if shared(Lower(s), s) {
			t.Errorf("Lower(%q) shares memory with its argument", s)
		}
	}
	line := name + ": " + value
	h, e := Line(line)
	if e != api.OK || !fresh([]api.Head{h}, line) {
		t.Error("Line shares memory with its argument:", h, e)
	}
	l := list(name, value)
	first, _ := Bytes(l)
	for i := range first {
		first[i] = 'x'
	}
	if second, _ := Bytes(l); string(second) != line+"\r\n" {
		t.Errorf("Bytes answers otherwise after its earlier answer was changed: %q", second)
	}
}

// someLists tells lists that Check accepts.
func someLists() [][]api.Head {
	all := [][]api.Head{nil, many(1), many(16), list("A", "1", "b", "2", "a", "3"), list("a", "", "a", "", "A", "")}
	for _, n := range names() {
		for _, v := range []string{"", "v", "a: b", ": :"} {
			if n.is {
				all = append(all, list(n.in, v), list("first", "1", n.in, v, n.in, v, "last", "2"))
			}
		}
	}
	for _, v := range values() {
		if v.is {
			all = append(all, list("n", v.in), list("first", "1", "n", v.in, "N", v.in, "last", "2"))
		}
	}
	return all
}

// P4.5
func TestWrittenHeadersAreRead(t *testing.T) {
	for _, l := range someLists() {
		b, e := Bytes(l)
		if e != api.OK {
			t.Fatalf("Bytes(%q): %d", l, e)
		}
		var back []api.Head
		lines := strings.Split(string(b), "\r\n")
		if lines[len(lines)-1] != "" || !slices.Equal(lines[:len(lines)-1], written(l)) {
			t.Fatalf("Bytes(%q): %q", l, b)
		}
		for _, line := range lines[:len(lines)-1] {
			h, e := Line(line)
			if e != api.OK {
				t.Fatalf("Line(%q): %d", line, e)
			}
			back = append(back, h)
		}
		if !Same(back, l) || !slices.Equal(back, l) {
			t.Fatalf("%q was written and is read as %q", l, back)
		}
	}
}

// P4.5
func TestReadHeadersAreAccepted(t *testing.T) {
	pieces := []string{"a", "B", ":", " ", "\t", "\x7f"}
	lines := []string{""}
	for range 6 {
		var next []string
		for _, s := range lines {
			for _, p := range pieces {
				next = append(next, s+p)
			}
		}
		for _, line := range next {
			h, e := Line(line)
			if e == api.OK && Check([]api.Head{h}) != api.OK {
				t.Fatalf("Line(%q): %q", line, h)
			}
			name, rest, found := strings.Cut(line, ":")
			want := api.Head{Name: name, Value: strings.Trim(rest, " \t")}
			is := found && name != "" && !strings.ContainsAny(name, " \t\x7f") && !strings.ContainsAny(want.Value, "\t\x7f")
			if is != (e == api.OK) || is && h != want {
				t.Fatalf("Line(%q): %q, %d", line, h, e)
			}
		}
		lines = next
	}
}

// others tells the headers of which is does not hold.
func others(l []api.Head, is func(name string) bool) []api.Head {
	return slices.DeleteFunc(slices.Clone(l), func(h api.Head) bool { return is(h.Name) })
}

// P4.6
func TestOnlyWhatIsNamedIsGone(t *testing.T) {
	// All lists of up to four of these headers.
	pool := list("a", "1", "A", "2", "ab", "3", "B", "4", "a b", "5")
	all := [][]api.Head{nil}
	last := all
	for range 4 {
		var next [][]api.Head
		for _, l := range last {
			for _, h := range pool {
				next = append(next, append(slices.Clone(l), h))
			}
		}
		all = append(all, next...)
		last = next
	}
	for _, l := range all {
		for _, name := range []string{"a", "A", "AB", "b", "c", "", "a b", "a "} {
			valid := name != "" && !strings.Contains(name, " ")
			is := func(n string) bool { return valid && strings.EqualFold(n, name) }
			rest := others(l, is)
			if got := Drop(l, name); !slices.Equal(got, rest) {
				t.Fatalf("Drop(%q, %q): %q", l, name, got)
			}
			starts := func(n string) bool { return strings.HasPrefix(strings.ToLower(n), strings.ToLower(name)) }
			if got := Strip(l, name); !slices.Equal(got, others(l, starts)) {
				t.Fatalf("Strip(%q, %q): %q", l, name, got)
			}
			value, many := Get(l, name)
			if first := slices.IndexFunc(l, func(h api.Head) bool { return is(h.Name) }); many != len(l)-len(rest) || first < 0 && value != "" || first >= 0 && value != l[first].Value {
				t.Fatalf("Get(%q, %q): %q, %d", l, name, value, many)
			}
			if _, many := Get(Drop(l, name), name); many != 0 {
				t.Fatalf("%q is in %q after Drop", name, l)
			}
			if !valid {
				continue
			}
			set, e := Set(l, name, "new")
			if e != api.OK || !slices.Equal(set, append(rest, list(name, "new")...)) {
				t.Fatalf("Set(%q, %q): %q, %d", l, name, set, e)
			}
			if value, many := Get(set, name); value != "new" || many != 1 {
				t.Fatalf("Get(%q, %q): %q, %d", set, name, value, many)
			}
		}
	}
}

// P4.1: the marks say of each byte what the function says, and both what the document says.
func TestMarks(t *testing.T) {
	for b := range 256 {
		want := strings.IndexByte(nameBytes, byte(b)) >= 0
		if marked, fits := Marked(byte(b)), fitsName(byte(b)); marked != fits || fits != want {
			t.Errorf("byte %x: marked %t, fits %t, not %t", b, marked, fits, want)
		}
	}
}

// P4.1 to P4.3: what is a name does not hang on the marks.
func TestNamesWithoutMarks(t *testing.T) {
	marking.Do(mark)
	kept := inName
	defer func() { inName = kept }()
	for _, marks := range []bool{false, true} {
		for b := range inName {
			inName[b] = marks
		}
		for _, c := range names() {
			if Alike(c.in, c.in) != c.is || (Check(list(c.in, "v")) == api.OK) != c.is {
				t.Errorf("%q is a name: not %t, with all marks %t", c.in, c.is, marks)
			}
		}
	}
}

// P4.1: whoever asks first, several at a time.
func TestSeveralAtATime(t *testing.T) {
	// Earlier tests have asked: as if nobody had.
	marking, inName = sync.Once{}, [256]bool{}
	var all sync.WaitGroup
	for i := range 8 {
		all.Go(func() {
			for _, h := range many(16) {
				if !Alike(h.Name, strings.ToUpper(h.Name)) || Alike(h.Name, h.Name+" ") {
					t.Error(i, h.Name)
				}
				if !Marked(h.Name[0]) || Marked(' ') {
					t.Error(i, "marks")
				}
			}
		})
	}
	all.Wait()
}

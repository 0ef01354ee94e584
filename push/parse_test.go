package push

import (
	"bytes"
	"slices"
	"strings"
	"testing"

	"chinoiserie/api"
)

// sevens are numbers of 7 bytes each, in a row.
func sevens(numbers ...int) string {
	var b strings.Builder
	for _, n := range numbers {
		for shift := 48; shift >= 0; shift -= 8 {
			b.WriteByte(byte(n >> shift))
		}
	}
	return b.String()
}

// three is a number of 3 bytes.
func three(n int) string { return sevens(n)[4:] }

// two is a number of 2 bytes.
func two(n int) string { return sevens(n)[5:] }

// fullBytes are those of a PushFull up to its text, deltaBytes those of a PushDelta up to its lines.
const (
	fullBytes  = "\x01\x00\x00\x00\x00\x00\x00\x03\x00\x00\x00\x00\x00\x00\x09"
	deltaBytes = "\x02\x00\x00\x00\x00\x00\x00\x03\x00\x00\x00\x00\x00\x00\x02\x00\x00\x00\x00\x00\x00\x09\x00\x00\x00\x00\x00\x00\x01\x00\x00\x00\x00\x00\x00\x04"
)

// P11.2: no proper beginning of a packet's bytes is a packet, nor are its bytes with others behind them.
func TestCutAndFollowed(t *testing.T) {
	for _, p := range samples() {
		b := bytesOf(t, p)
		for n := range len(b) {
			checkNone(t, b[:n], api.ErrTrunc)
		}
		for c := range 256 {
			checkNone(t, append(slices.Clone(b), byte(c)), api.ErrForm)
		}
		checkNone(t, slices.Concat(b, b), api.ErrForm)
		checkNone(t, append(slices.Clone(b), make([]byte, 70000)...), api.ErrForm)
	}
	checkNone(t, nil, api.ErrTrunc)
	checkNone(t, []byte{}, api.ErrTrunc)
}

// P11.2: what lies behind the bytes in the same memory is not read.
func TestMemoryBehindTheBytes(t *testing.T) {
	for _, p := range samples() {
		b := bytesOf(t, p)
		whole := append(slices.Clone(b), b...)
		for n := range len(b) {
			checkNone(t, whole[:n], api.ErrTrunc)
		}
		checkParse(t, whole[:len(b)], p, api.OK)
	}
}

// P11.2, P11.5: each byte turned into each other one.
func TestEachByteTurned(t *testing.T) {
	parsed := 0
	for _, p := range samples() {
		b := bytesOf(t, p)
		for i := range b {
			was := b[i]
			for c := range 256 {
				b[i] = byte(c)
				if e := checkTold(t, b); e == api.OK {
					parsed++
				}
			}
			b[i] = was
		}
	}
	if parsed < 10000 {
		t.Error("parsed:", parsed)
	}
}

// P11.2: bytes that begin with what is no kind, or with another one.
func TestKinds(t *testing.T) {
	for c := range 256 {
		is := c >= 1 && c <= 5
		for _, rest := range []string{"", "\x00", sevens(1), sevens(1, 0), sevens(2, 1), fullBytes[1:] + "\x00\x00\x00", deltaBytes[1:] + "\x00\x00", strings.Repeat("\xff", 100)} {
			b := append([]byte{byte(c)}, rest...)
			if !is {
				checkNone(t, b, api.ErrForm)
			} else {
				checkTold(t, b)
			}
		}
	}
}

// P11.2: numbers that no packet of that kind has, in their place: ErrForm, whatever they are, but behind what is not there.
func TestNumbersThatMayNotBe(t *testing.T) {
	for _, c := range []string{
		"\x01" + sevens(0, 0) + three(0), "\x01" + sevens(1<<53, 0) + three(0), "\x01" + sevens(1<<56-1, 0) + three(0), "\x01" + sevens(1, 1<<53) + three(0), "\x01" + sevens(1, 1<<56-1) + three(0),
		"\x03" + sevens(0, 0), "\x03" + sevens(1<<53, 0), "\x03" + sevens(1<<55, 0), "\x03" + sevens(1, 1<<53), "\x03" + sevens(1, 1<<55),
		"\x04" + sevens(1<<53, 0), "\x04" + sevens(0, 7), "\x04" + sevens(0, 256), "\x04" + sevens(0, 1<<48), "\x05" + sevens(1<<53, 0), "\x05" + sevens(0, 7), "\x05" + sevens(1<<56-1, 1<<56-1),
		"\x02" + sevens(0, 0, 0, 0, 0) + two(0), "\x02" + sevens(1, 0, 0, 0, 0) + two(0), "\x02" + sevens(1, 1, 0, 0, 0) + two(0), "\x02" + sevens(2, 0, 0, 0, 0) + two(0), "\x02" + sevens(2, 2, 0, 0, 0) + two(0), "\x02" + sevens(2, 3, 0, 0, 0) + two(0),
		"\x02" + sevens(1<<53, 1, 0, 0, 0) + two(0), "\x02" + sevens(1<<53, 1<<53-1, 0, 0, 0) + two(0), "\x02" + sevens(3, 1<<56-1, 0, 0, 0) + two(0), "\x02" + sevens(3, 1, 1<<53, 0, 0) + two(0),
		"\x02" + sevens(3, 1, 0, 65537, 0) + two(0), "\x02" + sevens(3, 1, 0, 0, 65537) + two(0), "\x02" + sevens(3, 1, 0, 1<<56-1, 0) + two(0), "\x02" + sevens(3, 1, 0, 0, 1<<56-1) + two(0),
	} {
		b := []byte(c)
		checkNone(t, b, api.ErrForm)
		checkNone(t, append(b, 0), api.ErrForm)
		for n := range len(b) {
			checkNone(t, b[:n], api.ErrTrunc)
		}
	}
	for _, c := range []string{
		"\x01" + sevens(1, 0) + three(0), "\x01" + sevens(most, most) + three(0), "\x03" + sevens(1, 0), "\x03" + sevens(most, most), "\x04" + sevens(0, 0), "\x04" + sevens(most, 6), "\x05" + sevens(0, 6), "\x05" + sevens(most, 0),
		"\x02" + sevens(2, 1, 0, 0, 0) + two(0), "\x02" + sevens(most, most-1, most, 65536, 65536) + two(0), "\x02" + sevens(most, 1, 0, 65536, 0) + two(0),
	} {
		if e := checkTold(t, []byte(c)); e != api.OK {
			t.Errorf("Parse(%x): %d", c, e)
		}
	}
}

// P11.2: how long a text tells that it is, and how long it is.
func TestLengthsOfTexts(t *testing.T) {
	long := strings.Repeat("t", 70000)
	for _, told := range []int{0, 1, 2, 255, 256, 65535, 65536, 65537, 65538, 69999, 70000, 1 << 17, 1<<24 - 1} {
		for _, many := range []int{0, 1, 2, 255, 256, 65535, 65536, 65537, 65538, 70000} {
			want := api.OK
			switch {
			case told > 65536:
				want = api.ErrLimit
			case many < told:
				want = api.ErrTrunc
			case many > told:
				want = api.ErrForm
			}
			b := []byte(fullBytes + three(told) + long[:many])
			if e := checkTold(t, b); e != want {
				t.Errorf("%d bytes, of %d that are told: %d, not %d", many, told, e, want)
			}
			b = []byte(deltaBytes + two(1) + three(told) + long[:many])
			if e := checkTold(t, b); e != want {
				t.Errorf("a line of %d bytes, of %d that are told: %d, not %d", many, told, e, want)
			}
		}
	}
	for n := range 3 {
		checkNone(t, []byte(fullBytes+"\xff\xff\xff"[:n]), api.ErrTrunc)
		checkNone(t, []byte(deltaBytes+two(1)+"\xff\xff\xff"[:n]), api.ErrTrunc)
		checkNone(t, []byte(deltaBytes+two(2)+three(1)+"a"+"\xff\xff\xff"[:n]), api.ErrTrunc)
	}
}

// P11.2: how many lines there are told to be, and how many there are.
func TestNumbersOfLines(t *testing.T) {
	for _, told := range []int{0, 1, 2, 255, 256, 257, 999, 1000, 1001, 1002, 1<<15 - 1, 1<<16 - 1} {
		for _, many := range []int{0, 1, 2, 255, 256, 257, 999, 1000, 1001, 1002} {
			want := api.OK
			switch {
			case told > 1000:
				want = api.ErrLimit
			case many < told:
				want = api.ErrTrunc
			case many > told:
				want = api.ErrForm
			}
			for _, line := range []string{"\x00\x00\x00", "\x00\x00\x01a"} {
				b := []byte(deltaBytes + two(told) + strings.Repeat(line, many))
				if e := checkTold(t, b); e != want {
					t.Errorf("%d lines, of %d that are told: %d, not %d", many, told, e, want)
				}
			}
		}
	}
	checkNone(t, []byte(deltaBytes), api.ErrTrunc)
	checkNone(t, []byte(deltaBytes+"\xff"), api.ErrTrunc)
}

// P11.2: lines that are each as long as may be, but not together, and lines with line feeds, are no packet's.
func TestLinesThatMayNotBe(t *testing.T) {
	line := func(s string) string { return three(len(s)) + s }
	half, whole := strings.Repeat("h", 32768), strings.Repeat("w", 65536)
	for _, c := range []struct {
		lines []string
		e     api.Errno
	}{
		{[]string{half, half}, api.OK},
		{[]string{half, "", half, ""}, api.OK},
		{[]string{half, half, "a"}, api.ErrForm},
		{[]string{"a", half, half}, api.ErrForm},
		{[]string{whole}, api.OK},
		{[]string{"", whole, ""}, api.OK},
		{[]string{whole, whole}, api.ErrForm},
		{[]string{whole, whole, whole, "a"}, api.ErrForm},
		{[]string{"a", "b"}, api.OK},
		{[]string{"\n"}, api.ErrForm},
		{[]string{"a\n", "b"}, api.ErrForm},
		{[]string{"a", "\nb"}, api.ErrForm},
		{[]string{"\x00", "\r"}, api.OK},
	} {
		b := []byte(deltaBytes + two(len(c.lines)))
		for _, s := range c.lines {
			b = append(b, line(s)...)
		}
		if e := checkTold(t, b); e != c.e {
			t.Errorf("%s: %d, not %d", short(b), e, c.e)
		}
		checkNone(t, b[:len(b)-1], api.ErrTrunc)
		checkNone(t, append(b, 0), api.ErrForm)
	}
}

// P11.2: of two errors, the one that is met first as the bytes are read in order.
func TestWhichErrorComesFirst(t *testing.T) {
	const bad = "\xff\xff\xff\xff\xff\xff\xff"
	for _, c := range []struct {
		in string
		e  api.Errno
	}{
		{"", api.ErrTrunc},
		{"\x00", api.ErrForm},
		{"\x06", api.ErrForm},
		{"\x06" + bad + bad, api.ErrForm},
		// A number that may not be is told behind all others.
		{"\x03" + bad, api.ErrTrunc},
		{"\x03" + bad + bad[:6], api.ErrTrunc},
		{"\x03" + bad + bad, api.ErrForm},
		{"\x01" + bad + bad, api.ErrTrunc},
		{"\x01" + bad + bad + "\xff\xff", api.ErrTrunc},
		{"\x01" + bad + bad + "\xff\xff\xff", api.ErrLimit},
		{"\x01" + bad + bad + three(65537), api.ErrLimit},
		{"\x01" + bad + bad + three(65536), api.ErrTrunc},
		{"\x01" + bad + bad + three(0), api.ErrForm},
		{"\x01" + bad + bad + three(65537) + strings.Repeat("t", 70000), api.ErrLimit},
		{"\x02" + strings.Repeat(bad, 5), api.ErrTrunc},
		{"\x02" + strings.Repeat(bad, 5) + "\xff", api.ErrTrunc},
		{"\x02" + strings.Repeat(bad, 5) + "\xff\xff", api.ErrLimit},
		{"\x02" + strings.Repeat(bad, 5) + two(1001), api.ErrLimit},
		{"\x02" + strings.Repeat(bad, 5) + two(1000), api.ErrTrunc},
		{"\x02" + strings.Repeat(bad, 5) + two(0), api.ErrForm},
		// Of lines, the one that comes first.
		{deltaBytes + two(2) + three(1) + "\n" + three(65537), api.ErrLimit},
		{deltaBytes + two(2) + three(1) + "\n" + three(1), api.ErrTrunc},
		{deltaBytes + two(2) + three(65537) + three(1), api.ErrLimit},
		{deltaBytes + two(2) + three(65536) + three(65537), api.ErrTrunc},
		{deltaBytes + two(2) + three(65536) + strings.Repeat("a", 65536) + three(65537), api.ErrLimit},
		{deltaBytes + two(2) + three(65536) + strings.Repeat("a", 65536) + three(65536), api.ErrTrunc},
		{deltaBytes + two(2) + three(65536) + strings.Repeat("a", 65536) + three(1) + "a", api.ErrForm},
		{deltaBytes + two(1001) + three(65537), api.ErrLimit},
		{deltaBytes + two(1000) + three(65537), api.ErrLimit},
		{deltaBytes + two(1000) + three(65536), api.ErrTrunc},
		// Both errors are one.
		{"\x04" + sevens(0, 7) + "x", api.ErrForm},
		{"\x04" + sevens(0, 6) + "x", api.ErrForm},
	} {
		checkNone(t, []byte(c.in), c.e)
	}
}

// P11.5: what is parsed has exactly these bytes, for many that are near those of a packet.
func TestParsedPacketsHaveTheirBytes(t *testing.T) {
	for _, p := range samples() {
		b := bytesOf(t, p)
		for i := range len(b) + 1 {
			for _, piece := range []string{"\x00", "\x01", "\x0a", "\xff", "\x00\x00\x00", "\x00\x00\x01a", string(b)} {
				checkTold(t, slices.Concat(b[:i], []byte(piece), b[i:]))
			}
			for n := 1; i+n <= len(b) && n < 9; n++ {
				checkTold(t, slices.Concat(b[:i], b[i+n:]))
				checkTold(t, slices.Concat(b[:i], bytes.Repeat([]byte{0}, n), b[i+n:]))
				checkTold(t, slices.Concat(b[:i], bytes.Repeat([]byte{255}, n), b[i+n:]))
			}
		}
	}
}

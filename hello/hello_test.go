package hello

import (
	"bytes"
	"fmt"
	"math"
	"slices"
	"strings"
	"testing"

	"chinoiserie/api"
)

// plainest is the greeting of the chapter's examples.
func plainest() api.Greeting {
	return api.Greeting{Minor: 1, Suites: []int{0x1301}, Methods: []byte{0}, Host: "a"}
}

// with is the chapter's greeting with another field, or several.
func with(change func(g *api.Greeting)) api.Greeting {
	g := plainest()
	change(&g)
	return g
}

// rich is a greeting with some of everything.
func rich() api.Greeting {
	g := api.Greeting{
		Minor:   3,
		Session: []byte{1, 0, 0xff, 4},
		Suites:  []int{0x1301, 0xc02b, 0, 0xffff},
		Methods: []byte{1, 0},
		Host:    "Shop.Example.org",
		At:      1,
		Exts:    []api.Ext{{Type: 10, Data: []byte{0, 2, 0, 29}}, {Type: 23}, {Type: 0xff01, Data: []byte{0}}},
	}
	for i := range g.Random {
		g.Random[i] = byte(7*i + 200)
	}
	return g
}

// many is how many of something, each one the same.
func many[T any](n int, one T) []T {
	all := make([]T, n)
	for i := range all {
		all[i] = one
	}
	return all
}

// hostOf is a host of so many bytes, from 11 on, or what would be one but for their number.
func hostOf(size int) string {
	s := strings.Repeat("Aaaaaaa-9.", (size-1)/10-1)
	return s + strings.Repeat("c", size-len(s))
}

// The table 'Examples' of the chapter.
func TestExamples(t *testing.T) {
	text := "1603010039" + "010000350303" + strings.Repeat("00", 32) + "00" + "00021301" + "0100" + "000a" + "00000006000400000161"
	written := bytesOf(t, text)
	if b, e := Write(plainest()); e != api.OK || !bytes.Equal(b, written) {
		t.Errorf("Write: %x, %d", b, e)
	}
	body := written[:len(written)-1]
	for _, c := range []struct {
		b    []byte
		host string
		e    api.Errno
	}{
		{written, "a", api.OK},
		{append(slices.Clone(body), 0x41), "a", api.OK},
		{append(slices.Clone(body), 0x2e), "", api.ErrHello},
		{body, "", api.ErrHello},
	} {
		if host, e := Sni(c.b); host != c.host || e != c.e {
			t.Errorf("Sni(%x): %q, %d, not %q, %d", c.b, host, e, c.host, c.e)
		}
	}
	for _, g := range []api.Greeting{
		with(func(g *api.Greeting) { g.Methods = nil }),
		with(func(g *api.Greeting) { g.Exts = []api.Ext{{Type: 0}} }),
		with(func(g *api.Greeting) { g.At = 1 }),
	} {
		if b, e := Write(g); b != nil || e != api.ErrArg {
			t.Errorf("Write(%+v): %x, %d", g, b, e)
		}
	}
}

// P7.1, P7.2: each part of the bytes, as text.
func TestPartsOfTheBytes(t *testing.T) {
	g := rich()
	contents := "0303" + fmt.Sprintf("%x", g.Random) + "040100ff04" + "00081301c02b0000ffff" + "020100" + "002a" + "000a00040002001d" + "00000015001300001053686f702e4578616d706c652e6f7267" + "00170000" + "ff01000100"
	text := "160303" + "0064" + "01" + "000060" + contents
	if toldText(g) != text {
		t.Fatalf("%s, not %s", toldText(g), text)
	}
	checkWrite(t, g, true)
	checkParse(t, bytesOf(t, text), g, true)
}

// P7.1, P7.2: the record's number.
func TestMinor(t *testing.T) {
	for minor := -300; minor <= 600; minor++ {
		g := with(func(g *api.Greeting) { g.Minor = minor })
		checkWrite(t, g, minor >= 0 && minor <= 4)
		if minor >= 0 && minor <= 255 {
			checkParse(t, bytesOf(t, toldText(g)), g, minor <= 4)
		}
	}
	for _, minor := range []int{math.MinInt, math.MinInt + 1, math.MaxInt, 1 << 32, -1 << 32, 1<<32 + 1, 65536, 65537} {
		checkWrite(t, with(func(g *api.Greeting) { g.Minor = minor }), false)
	}
}

// P7.1, P7.2
func TestRandom(t *testing.T) {
	for i := range 32 {
		for _, c := range []byte{1, 0x16, 0x80, 0xff} {
			checkWrite(t, with(func(g *api.Greeting) { g.Random[i] = c }), true)
		}
	}
}

// P7.1, P7.2: 0 to 300 bytes of a session.
func TestSession(t *testing.T) {
	for n := range 300 {
		g := with(func(g *api.Greeting) { g.Session = many(n, byte(n)) })
		checkWrite(t, g, n <= 32)
		if n <= 255 {
			checkParse(t, bytesOf(t, toldText(g)), g, n <= 32)
		}
	}
	for _, n := range []int{512, 544, 65536, 1 << 20} {
		checkWrite(t, with(func(g *api.Greeting) { g.Session = make([]byte, n) }), false)
	}
}

// P7.1, P7.2
func TestSuites(t *testing.T) {
	checkWrite(t, with(func(g *api.Greeting) { g.Suites = nil }), false)
	checkWrite(t, with(func(g *api.Greeting) { g.Suites = []int{} }), false)
	for _, s := range []int{-1, -2, -255, -256, -65535, -65536, 65536, 65537, 65536 + 0x1301, 1 << 32, math.MaxInt, math.MinInt} {
		for _, all := range [][]int{{s}, {s, 1}, {1, s}, {1, s, 2}, {s, s}} {
			checkWrite(t, with(func(g *api.Greeting) { g.Suites = all }), false)
		}
	}
	for _, s := range []int{0, 1, 255, 256, 257, 0x1301, 32767, 32768, 65534, 65535} {
		for _, all := range [][]int{{s}, {s, 1}, {1, s}, {1, s, 2}, {s, s}, {0, 65535, s}} {
			checkWrite(t, with(func(g *api.Greeting) { g.Suites = all }), true)
		}
	}
	for n := 1; n < 300; n++ {
		checkWrite(t, with(func(g *api.Greeting) { g.Suites = many(n, n) }), true)
	}
}

// P7.2: no suite, or a part of one.
func TestSuitesInBytes(t *testing.T) {
	for _, suites := range []string{"", "13", "130113", "13011302c0", strings.Repeat("00", 255)} {
		checkNone(t, bytesOf(t, frame("0303"+strings.Repeat("00", 32)+"00"+counted(2, suites)+"0100"+counted(2, hostText("a")))))
	}
}

// P7.1, P7.2
func TestMethods(t *testing.T) {
	most := many(255, byte(9))
	most[254] = 0
	for _, methods := range [][]byte{{0}, {0, 0}, {1, 0}, {0, 1}, {255, 0, 255}, most, make([]byte, 255)} {
		checkWrite(t, with(func(g *api.Greeting) { g.Methods = methods }), true)
	}
	for _, methods := range [][]byte{nil, {}, {1}, {255}, {1, 2, 3}, many(255, byte(1))} {
		g := with(func(g *api.Greeting) { g.Methods = methods })
		checkWrite(t, g, false)
		checkNone(t, bytesOf(t, toldText(g)))
	}
	for _, n := range []int{256, 257, 511, 512, 513, 65536, 65537} {
		checkWrite(t, with(func(g *api.Greeting) { g.Methods = make([]byte, n) }), false)
	}
	for c := range 256 {
		g := with(func(g *api.Greeting) { g.Methods = []byte{byte(c)} })
		checkWrite(t, g, c == 0)
		checkParse(t, bytesOf(t, toldText(g)), g, c == 0)
	}
}

// hosts tells texts, and whether each is the host of a greeting.
func hosts() map[string]bool {
	l20 := strings.Repeat("l", 20)
	return map[string]bool{
		"a": true, "A": true, "Z": true, "z": true, "0": true, "9": true, "a.b": true, "Shop.EXAMPLE.org": true, "1.2.3.4": true, "a-b": true, "A--B": true, "xn--a.b": true,
		"": false, ".": false, "..": false, ".a": false, "a.": false, "a..b": false, "-": false, "-a": false, "a-": false, "A-.b": false, "a.-B": false,
		"*": false, "*.a": false, "*.example.org": false, "a.*": false, "a b": false, " a": false, "a ": false, "a\n": false, "a\x00": false, "\x00": false, "a_b": false, "a/": false,
		"a:80": false, "a:443": false, "A:80": false, "a:": false, ":80": false, ":": false, "a:1": false, "a:65535": false, "a.b:8080": false, "a:80:80": false, "[a]": false, "[::1]": false,
		"é": false, "\xc3": false, "\xff": false, "\u212a": false, "a\u212a": false, "\u017f": false, "a\uff0eb": false, "\u0130": false,
		l20: true, strings.ToUpper(l20): true, l20 + "l": false, l20 + "." + l20: true, "a." + l20 + "l": false,
		hostOf(59): true, hostOf(60): true, hostOf(61): false, hostOf(62): false, hostOf(300): false, hostOf(5000): false, hostOf(57) + ":80": false, hostOf(60) + ":80": false, "*." + hostOf(58): false,
		strings.Repeat("a.", 29) + "a": true, strings.Repeat("a.", 29) + "aB": true, strings.Repeat("a.", 30): false, strings.Repeat("a", 60): false,
	}
}

// checkName holds all functions against whether a text is the host of a greeting.
func checkName(t *testing.T, host string, is bool) {
	t.Helper()
	g := with(func(g *api.Greeting) { g.Host = host })
	checkWrite(t, g, is)
	checkParse(t, bytesOf(t, toldText(g)), g, is)
}

// P7.1, P7.2, P7.6
func TestHosts(t *testing.T) {
	for host, is := range hosts() {
		checkName(t, host, is)
	}
	for size := 11; size <= 130; size++ {
		checkName(t, hostOf(size), size <= 60)
	}
	for _, size := range []int{65536, 65537, 65540, 1 << 20} {
		checkWrite(t, with(func(g *api.Greeting) { g.Host = strings.Repeat("a", size) }), false)
		checkWrite(t, with(func(g *api.Greeting) { g.Host = hostOf(size) }), false)
	}
}

// P7.1, P7.2, P7.6: each byte alone, first, within and last.
func TestEachByteOfAHost(t *testing.T) {
	for b := range 256 {
		c := string([]byte{byte(b)})
		for _, host := range []string{c, c + "a", "a" + c + "b", "a" + c, "a." + c, c + ".a", "a" + c + "80"} {
			checkName(t, host, hostForm.MatchString(host))
		}
	}
}

// P7.1, P7.2: where the host stands among the extensions.
func TestAt(t *testing.T) {
	for n := range 5 {
		g := plainest()
		for i := range n {
			g.Exts = append(g.Exts, api.Ext{Type: 40 - i, Data: many(i, byte(i))})
		}
		for at := -3; at <= n+3; at++ {
			g.At = at
			checkWrite(t, g, at >= 0 && at <= n)
		}
		for _, at := range []int{math.MinInt, math.MaxInt, 1 << 32, -1 << 32, 256, 65536} {
			g.At = at
			checkWrite(t, g, false)
		}
	}
}

// P7.1: types of other extensions.
func TestTypes(t *testing.T) {
	for _, kind := range []int{0, -1, -2, -10, -65535, -65536, 65536, 65537, 65536 + 10, 1 << 32, 1<<32 + 10, math.MaxInt, math.MinInt} {
		for _, exts := range [][]api.Ext{{{Type: kind}}, {{Type: kind}, {Type: 2}}, {{Type: 2}, {Type: kind}}, {{Type: 2}, {Type: kind, Data: []byte{1}}, {Type: 3}}, {{Type: kind}, {Type: kind}}} {
			for at := range len(exts) + 1 {
				checkWrite(t, with(func(g *api.Greeting) { g.Exts, g.At = exts, at }), false)
			}
		}
	}
	for _, kind := range []int{1, 4, 10, 255, 256, 257, 0x1600, 32767, 32768, 65534, 65535} {
		for _, exts := range [][]api.Ext{{{Type: kind}}, {{Type: kind}, {Type: 2}}, {{Type: 2}, {Type: kind}}, {{Type: 2}, {Type: kind, Data: []byte{1}}, {Type: 3}}} {
			for at := range len(exts) + 1 {
				checkWrite(t, with(func(g *api.Greeting) { g.Exts, g.At = exts, at }), true)
			}
		}
	}
}

// P7.1, P7.2: no two extensions have the same type, wherever they stand and whatever their data are.
func TestTypesTwice(t *testing.T) {
	for _, kind := range []int{1, 10, 256, 65535} {
		for n := 2; n <= 5; n++ {
			for i := range n {
				for j := range i {
					exts := make([]api.Ext, n)
					for k := range exts {
						exts[k] = api.Ext{Type: 100*k + 20, Data: many(k, byte(k))}
					}
					exts[i].Type, exts[j].Type = kind, kind
					for at := range n + 1 {
						g := with(func(g *api.Greeting) { g.Exts, g.At = exts, at })
						checkWrite(t, g, false)
						checkNone(t, bytesOf(t, toldText(g)))
						exts[i].Type = 7
						checkWrite(t, g, true)
						exts[i].Type = kind
					}
				}
			}
		}
	}
}

// P7.1, P7.2: data of many sizes.
func TestData(t *testing.T) {
	for _, n := range []int{0, 1, 2, 4, 6, 255, 256, 257, 1000, 10000, 16384 - 61} {
		for at := range 2 {
			checkWrite(t, with(func(g *api.Greeting) { g.Exts, g.At = []api.Ext{{Type: 21, Data: many(n, byte(0x16))}}, at }), true)
		}
	}
	for _, n := range []int{16384 - 60, 16384, 65535, 65536, 65537, 1 << 20} {
		checkWrite(t, with(func(g *api.Greeting) { g.Exts = []api.Ext{{Type: 21, Data: make([]byte, n)}} }), false)
	}
	// Many that lie in the same memory are still too many bytes.
	data := make([]byte, 1<<20)
	exts := make([]api.Ext, 60000)
	for i := range exts {
		exts[i] = api.Ext{Type: i + 1, Data: data}
	}
	if b, e := Write(with(func(g *api.Greeting) { g.Exts = exts })); b != nil || e != api.ErrArg {
		t.Error(len(b), e)
	}
}

// checkFull holds that a greeting is valid whose record has 16384 bytes behind its size.
func checkFull(t *testing.T, g api.Greeting) {
	t.Helper()
	if n := len(toldText(g))/2 - 5; n != 16384 {
		t.Fatalf("a record of %d", n)
	}
	checkWrite(t, g, true)
}

// checkOver holds that a greeting is not valid whose record has more.
func checkOver(t *testing.T, g api.Greeting) {
	t.Helper()
	text := toldText(g)
	n := len(text)/2 - 5
	if n <= 16384 {
		t.Fatalf("a record of %d", n)
	}
	checkWrite(t, g, false)
	// Of more bytes the number has no room in the record.
	if n <= 65535 {
		checkNone(t, bytesOf(t, text))
	}
}

// P7.1, P7.2: records of 16384 bytes and of more, by each of what may be long.
func TestHowLongARecordMayBe(t *testing.T) {
	// In the chapter's greeting there are 57 bytes, 2 of which are a suite, 1 the host.
	suites := with(func(g *api.Greeting) { g.Suites, g.Host = many((16384-56)/2, 0x1301), "bB" })
	checkFull(t, suites)
	suites.Host = "bBc"
	checkOver(t, suites)
	suites.Host, suites.Suites = "b", append(suites.Suites, 1)
	checkOver(t, suites)

	data := with(func(g *api.Greeting) { g.Exts = []api.Ext{{Type: 21, Data: make([]byte, 16384-57-4)}} })
	checkFull(t, data)
	for _, change := range []func(g *api.Greeting){
		func(g *api.Greeting) { g.Session = []byte{1} },
		func(g *api.Greeting) { g.Suites = []int{1, 2} },
		func(g *api.Greeting) { g.Methods = []byte{0, 0} },
		func(g *api.Greeting) { g.Host = "aa" },
		func(g *api.Greeting) { g.Exts = append(slices.Clone(g.Exts), api.Ext{Type: 5}) },
		func(g *api.Greeting) { g.Exts = []api.Ext{{Type: 21, Data: make([]byte, 16384-57-4+1)}} },
	} {
		g := data
		change(&g)
		checkOver(t, g)
	}

	exts := with(func(g *api.Greeting) { g.Host, g.At = "abcd", 2000 })
	for i := range (16384 - 60) / 4 {
		exts.Exts = append(exts.Exts, api.Ext{Type: 65535 - 3*i})
	}
	checkFull(t, exts)
	exts.Exts = append(exts.Exts, api.Ext{Type: 1})
	checkOver(t, exts)

	for _, g := range []api.Greeting{
		with(func(g *api.Greeting) { g.Suites = many(32767, 1) }),
		with(func(g *api.Greeting) { g.Suites = many(32768, 1) }),
		with(func(g *api.Greeting) { g.Suites = many(32769, 1) }),
		with(func(g *api.Greeting) {
			g.Exts = []api.Ext{{Type: 1, Data: make([]byte, 40000)}, {Type: 2, Data: make([]byte, 40000)}}
		}),
	} {
		checkOver(t, g)
	}
}

// P7.1: the zero greeting is none.
func TestZeroGreeting(t *testing.T) {
	checkWrite(t, api.Greeting{}, false)
	checkNone(t, bytesOf(t, toldText(api.Greeting{})))
}

// P7.2: short bytes.
func TestShortBytes(t *testing.T) {
	checkNone(t, nil)
	checkNone(t, []byte{})
	for a := range 256 {
		checkNone(t, []byte{byte(a)})
		for b := range 256 {
			checkNone(t, []byte{byte(a), byte(b)})
		}
	}
	for _, text := range []string{"160301", "1603010000", "160301000101", "160301000401000000", "16030100060100000303", "160301002601000022" + "0303" + strings.Repeat("00", 32)} {
		checkNone(t, bytesOf(t, text))
	}
	for size := range 300 {
		checkNone(t, make([]byte, size))
		checkNone(t, many(size, byte(0xff)))
		checkNone(t, many(size, byte(0x16)))
	}
}

// P7.2: each byte in each of the 255 other ways.
func TestEachByteTurned(t *testing.T) {
	for _, g := range []api.Greeting{plainest(), rich()} {
		b := bytesOf(t, toldText(g))
		taken := 0
		for i, kept := range b {
			for c := range 256 {
				b[i] = byte(c)
				if checkTold(t, b) {
					taken++
				}
			}
			b[i] = kept
		}
		// Each byte of Random may be any, at least.
		if taken < 32*256 {
			t.Error("taken:", taken)
		}
	}
}

// P7.2: of the chapter's greeting, which bytes may be which.
func TestBytesThatMayBe(t *testing.T) {
	b := bytesOf(t, toldText(plainest()))
	for i, kept := range b {
		for c := range 256 {
			is := c == int(kept)
			switch {
			case i == 2:
				is = c <= 4
			case i >= 11 && i < 43, i == 46, i == 47:
				is = true
			case i == len(b)-1:
				is = hostForm.MatchString(string([]byte{byte(c)}))
			}
			b[i] = byte(c)
			if _, e := Parse(b); (e == api.OK) != is || e != api.OK && e != api.ErrHello {
				t.Errorf("byte %d %02x: %d", i, c, e)
			}
		}
		b[i] = kept
	}
}

// P7.2: each number of following bytes a bit too small or too great.
func TestNumbersOfFollowingBytes(t *testing.T) {
	b := bytesOf(t, toldText(rich()))
	numbers := map[string][2]int{
		"record": {3, 2}, "message": {6, 3}, "session": {43, 1}, "suites": {48, 2}, "methods": {58, 1}, "extensions": {61, 2}, "data": {65, 2}, "data of the name": {73, 2}, "names": {75, 2}, "name": {78, 2}, "no data": {98, 2}, "last data": {102, 2},
	}
	for what, place := range numbers {
		at, size := place[0], place[1]
		kept := slices.Clone(b[at : at+size])
		n := 0
		for _, c := range kept {
			n = 256*n + int(c)
		}
		all := 1<<(8*size) - 1
		for _, other := range []int{n - 300, n - 256, n - 5, n - 4, n - 2, n - 1, n + 1, n + 2, n + 4, n + 5, n + 256, n + 300, 0, 1, all - 1, all, 16384, 16385} {
			if other&all == n {
				continue
			}
			for k := range size {
				b[at+k] = byte((other & all) >> (8 * (size - 1 - k)))
			}
			// The extension without data may have the following one as its data instead.
			if checkTold(t, b) != (what == "no data" && other == 5) {
				t.Errorf("%s: %d for %d", what, other, n)
			}
		}
		copy(b[at:], kept)
	}
	checkParse(t, b, rich(), true)
}

// P7.2: the name in its extension.
func TestNames(t *testing.T) {
	one := "00" + counted(2, "61")
	for _, data := range []string{
		"", "00", "0000", "000000", "0001", "000100", "00020000", "0003000000",
		counted(2, "00"+counted(2, "")),
		counted(2, "01"+counted(2, "61")),
		counted(2, "ff"+counted(2, "61")),
		counted(2, one+one),
		counted(2, one+"00"+counted(2, "62")),
		counted(2, one+"01"+counted(2, "62")),
		counted(2, "01"+counted(2, "62")+one),
		counted(2, one+"00"),
		counted(2, one) + "00",
		counted(2, one) + counted(2, one),
		"0003" + one, "0005" + one, "0000" + one, "ffff" + one,
		counted(2, "00"+"0000"+"61"), counted(2, "00"+"0002"+"61"), counted(2, "00"+"0100"+"61"), counted(2, "00"+"ffff"+"61"),
		one, counted(1, one), counted(3, one), counted(2, counted(2, one)), counted(2, "00"+counted(1, "61")), counted(2, counted(2, "61")), counted(2, "0000"+counted(2, "61")),
		counted(2, "00"+counted(2, "6100")), counted(2, "00"+counted(2, "2e")), counted(2, "00"+counted(2, "612e")), counted(2, "00"+counted(2, "2a2e61")), counted(2, "00"+counted(2, "613a3830")),
	} {
		// With something behind it that could be the rest of it, too.
		for _, exts := range []string{nameText(data), extText(9, nil) + nameText(data), nameText(data) + extText(9, []byte{0}), nameText(data) + "6161"} {
			checkNone(t, bytesOf(t, frame(opening(plainest())+counted(2, exts))))
		}
	}
	checkParse(t, bytesOf(t, frame(opening(plainest())+counted(2, nameText(counted(2, one))))), plainest(), true)
}

// P7.2: extensions that are none, too many, or no extensions.
func TestExtensionsInBytes(t *testing.T) {
	start, name := opening(plainest()), hostText("a")
	for _, contents := range []string{
		start, start + "00", start + "0000", start + counted(2, ""), start + counted(2, extText(9, nil)), start + counted(2, extText(9, nil)+extText(10, []byte{1})),
		start + counted(2, name+name),
		start + counted(2, name+hostText("b")),
		start + counted(2, name+extText(0, nil)),
		start + counted(2, extText(0, nil)+name),
		start + counted(2, extText(0, nil)),
		start + counted(2, name+extText(9, nil)+name),
		start + counted(2, extText(9, nil)+name+extText(8, nil)+name),
		start + counted(2, name+"00"), start + counted(2, name+"0009"), start + counted(2, name+"000900"), start + counted(2, name+"00090001"), start + counted(2, "00"+name), start + counted(2, name+"0009000301"),
		start + counted(2, name) + "00", start + counted(2, name) + counted(2, name), start + counted(2, name) + counted(2, extText(9, nil)),
		start + counted(1, name), start + counted(3, name), start + name,
	} {
		checkNone(t, bytesOf(t, frame(contents)))
	}
	for i, exts := range []string{name, name + extText(9, nil), extText(9, nil) + name, extText(9, nil) + name + extText(8, nil)} {
		if !checkTold(t, bytesOf(t, frame(start+counted(2, exts)))) {
			t.Error("extensions", i)
		}
	}
}

// P7.2: other records and messages.
func TestOtherRecords(t *testing.T) {
	contents := opening(plainest()) + counted(2, hostText("a"))
	message := "01" + counted(3, contents)
	for _, text := range []string{
		"150301" + counted(2, message), "170301" + counted(2, message), "140301" + counted(2, message), "160201" + counted(2, message), "160401" + counted(2, message), "160305" + counted(2, message), "1603ff" + counted(2, message),
		"160301" + counted(2, "02"+counted(3, contents)), "160301" + counted(2, "00"+counted(3, contents)), "160301" + counted(2, "01"+counted(2, contents)), "160301" + counted(2, message+message), "160301" + counted(2, message+"00"), "160301" + counted(2, message+"01000000"), "160301" + counted(2, contents), "160301" + counted(2, ""),
		"160301" + counted(1, message), "160301" + counted(3, message), message, contents,
		frame("0302" + contents[4:]), frame("0304" + contents[4:]), frame("0203" + contents[4:]), frame("0403" + contents[4:]), frame(contents[4:]), frame("00" + contents), frame(contents + "00"), frame(contents[:len(contents)-2]),
		"8039010301" + contents, "80" + message,
	} {
		checkNone(t, bytesOf(t, text))
	}
	checkParse(t, bytesOf(t, "160301"+counted(2, message)), plainest(), true)
	checkParse(t, bytesOf(t, "160304"+counted(2, message)), with(func(g *api.Greeting) { g.Minor = 4 }), true)
}

// P7.2, P7.6: what other programs of TLS send.
func TestClientHellosOfOthers(t *testing.T) {
	for _, text := range []string{
		// OpenSSL 3.0
		"1603010200010001fc03033f42a329574f961a35f8fb53a15cd767cd79057e0e9275e3481d032c373ff16420683373a05a9a77a842f2eabf18b0c0ec5f9601726be19e560abf669991c89e240024130213031301c02cc030c02bc02fcca9cca8c024c028c023c027009f009e006b006700ff0100018f00000015001300001053686f702e4578616d706c652e6f7267000b000403000102000a00160014001d0017001e0019001801000101010201030104002300000016000000170000000d002a0028040305030603080708080809080a080b080408050806040105010601030303010302040205020602002b00050403040303002d00020101003300260024001d002001f9dee68da4bb29e8986a7cfd98e3acbbee38e54c3c11da0946700f30ab8522001500dd" + strings.Repeat("00", 221),
		// Go's crypto/tls
		"160301012d010001290303692550e6d981bd337243e0e46b9e040cd61bb96dc8861989cc32f2b1ae5ea1ec20222a4dd2686b31e6e54814a58c01c99cfc5150570a07ce60928997b651857e7c001ac02bc02fc02cc030cca9cca8c009c013c00ac014130113021303010000c600000015001300001053686f702e4578616d706c652e6f7267000b00020100ff010001000017000000120000000500050100000000000a00040002001d000d001c001a090409050906080404030807080508060401050106010503060300320020001e0904090509060804040308070805080604010501060105030603020102030010000e000c02683208687474702f312e31002b00050403040303003300260024001d0020ce6f0b7db9a921ed0777562f9b5bdb3b15b2718403ed75389c20d75189feef04",
	} {
		b := bytesOf(t, text)
		if host, e := Sni(b); host != "shop.example.org" || e != api.OK {
			t.Errorf("Sni: %q, %d", host, e)
		}
		g, e := Parse(b)
		if e != api.OK || g.Host != "Shop.Example.org" || len(g.Session) != 32 || len(g.Exts) < 10 || !slices.Contains(g.Suites, 0x1301) {
			t.Errorf("Parse: %+v, %d", g, e)
		}
		if written, e := Write(g); e != api.OK || !bytes.Equal(written, b) {
			t.Errorf("Write: %x, %d", written, e)
		}
		checkTold(t, b)
	}
}

// P7.5
func TestCutOff(t *testing.T) {
	for _, g := range []api.Greeting{plainest(), rich()} {
		b := bytesOf(t, toldText(g))
		for n := range b {
			// The rest still lies behind it, in the same memory; and once it does not.
			checkNone(t, b[:n])
			checkNone(t, bytes.Clone(b[:n]))
			checkNone(t, b[len(b)-n:])
			checkNone(t, recounted(b[:n]))
		}
		for i := range b {
			for j := i + 1; j <= len(b); j++ {
				checkTold(t, slices.Concat(b[:i], b[j:]))
			}
		}
		checkParse(t, b, g, true)
	}
}

// recounted are bytes whose record and message have numbers that fit what is left.
func recounted(b []byte) []byte {
	b = bytes.Clone(b)
	if len(b) >= 5 {
		b[3], b[4] = byte((len(b)-5)>>8), byte(len(b)-5)
	}
	if len(b) >= 9 {
		b[6], b[7], b[8] = 0, byte((len(b)-9)>>8), byte(len(b)-9)
	}
	return b
}

// P7.5
func TestMoreBytes(t *testing.T) {
	for _, g := range []api.Greeting{plainest(), rich()} {
		b := bytesOf(t, toldText(g))
		for c := range 256 {
			more := append(bytes.Clone(b), byte(c))
			checkNone(t, more)
			checkNone(t, recounted(more))
			checkNone(t, slices.Concat([]byte{byte(c)}, b))
		}
		for n := 1; n < 300; n++ {
			checkNone(t, append(bytes.Clone(b), make([]byte, n)...))
			checkNone(t, recounted(append(bytes.Clone(b), make([]byte, n)...)))
		}
		checkNone(t, append(bytes.Clone(b), make([]byte, 1<<16)...))
		checkNone(t, slices.Concat(b, b))
		for i := range b {
			checkTold(t, slices.Insert(bytes.Clone(b), i, 0))
			checkTold(t, slices.Insert(bytes.Clone(b), i, b[i]))
			checkNone(t, slices.Concat(b, b[:i+1]))
			checkNone(t, slices.Concat(b, b[i:]))
		}
		checkParse(t, b, g, true)
	}
}

// P7.5
func TestTwoRecords(t *testing.T) {
	for _, g := range []api.Greeting{plainest(), rich()} {
		text := toldText(g)
		start, message := text[:6], text[10:]
		for i := 0; i <= len(message); i += 2 {
			checkNone(t, bytesOf(t, start+counted(2, message[:i])+start+counted(2, message[i:])))
			if i < len(message) {
				checkNone(t, bytesOf(t, start+counted(2, message[:i])+message[i:]))
				checkNone(t, bytesOf(t, start+counted(2, message[:i])))
			}
		}
		for _, other := range []string{"160301" + counted(2, ""), "150301" + counted(2, "0100"), "1403010001" + "01"} {
			checkNone(t, bytesOf(t, text+other))
			checkNone(t, bytesOf(t, other+text))
		}
	}
}

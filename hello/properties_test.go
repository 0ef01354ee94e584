package hello

import (
	"bytes"
	"math/rand"
	"slices"
	"strings"
	"testing"
	"unsafe"

	"chinoiserie/api"
)

// someBytes are 0 to most bytes.
func someBytes(r *rand.Rand, most int) []byte {
	b := make([]byte, r.Intn(most+1))
	r.Read(b)
	return b
}

// someHost is some host, in which letters may be upper case.
func someHost(r *rand.Rand) string {
	const all = "abcxyzABCXYZ0189-"
	for {
		var labels []string
		for range 1 + r.Intn(4) {
			label := make([]byte, 1+r.Intn(20))
			for i := range label {
				label[i] = all[r.Intn(len(all))]
			}
			labels = append(labels, strings.Trim(string(label), "-"))
		}
		if host := strings.Join(labels, "."); hostForm.MatchString(host) && len(host) <= 60 {
			return host
		}
	}
}

// someGreeting is some greeting that is valid.
func someGreeting(r *rand.Rand) api.Greeting {
	g := api.Greeting{Minor: r.Intn(5), Session: someBytes(r, 32), Methods: someBytes(r, 9), Host: someHost(r)}
	r.Read(g.Random[:])
	g.Methods = slices.Insert(g.Methods, r.Intn(len(g.Methods)+1), 0)
	for range 1 + r.Intn(5) {
		g.Suites = append(g.Suites, r.Intn(65536))
	}
	for i := range r.Intn(5) {
		g.Exts = append(g.Exts, api.Ext{Type: 1 + 5*r.Intn(13107) + i, Data: someBytes(r, 12)})
	}
	g.At = r.Intn(len(g.Exts) + 1)
	return g
}

// changed is a greeting with one other field, which may be one that it must not have.
func changed(r *rand.Rand, g api.Greeting) api.Greeting {
	near := []int{-65536, -256, -2, -1, 0, 1, 2, 3, 4, 5, 255, 256, 65535, 65536}
	one := near[r.Intn(len(near))]
	switch r.Intn(9) {
	case 0:
		g.Minor = one
	case 1:
		g.Session = someBytes(r, 70)
	case 2:
		g.Suites = slices.Insert(slices.Clone(g.Suites), r.Intn(len(g.Suites)+1), one)
	case 3:
		g.Suites = nil
	case 4:
		g.Methods = someBytes(r, 600)
	case 5:
		g.Host = []string{"", ".", "a.", "*.a", "a:80", "-a", "a_b", g.Host + ".", g.Host + "." + g.Host, hostOf(59 + r.Intn(4))}[r.Intn(10)]
	case 6:
		g.At += r.Intn(7) - 3
	case 7:
		g.Exts = slices.Insert(slices.Clone(g.Exts), r.Intn(len(g.Exts)+1), api.Ext{Type: one, Data: someBytes(r, 3)})
	case 8:
		g.Exts = slices.Concat(g.Exts, g.Exts)
	}
	return g
}

// P7.1, P7.2, P7.4, P7.6: greetings that are valid, and those that are like them.
func TestSomeGreetings(t *testing.T) {
	r := rand.New(rand.NewSource(7))
	valid := 0
	for range 1000 {
		g := someGreeting(r)
		checkWrite(t, g, true)
		for range 10 {
			other := changed(r, g)
			is := toldValid(other)
			checkWrite(t, other, is)
			if is {
				valid++
			}
		}
	}
	if valid < 1000 || valid > 9000 {
		t.Error("valid:", valid)
	}
}

// edited are bytes with one or more of them turned, lost, doubled or added.
func edited(r *rand.Rand, b []byte) []byte {
	b = bytes.Clone(b)
	for range 1 + r.Intn(3) {
		i := r.Intn(len(b))
		switch r.Intn(6) {
		case 0:
			b[i] = byte(r.Intn(256))
		case 1:
			b[i] += byte(r.Intn(5) - 2)
		case 2:
			b = slices.Delete(b, i, i+1)
		case 3:
			b = slices.Insert(b, i, byte(r.Intn(3)))
		case 4:
			j := min(len(b), i+1+r.Intn(6))
			b = slices.Insert(b, i, bytes.Clone(b[i:j])...)
		case 5:
			j := r.Intn(len(b))
			b[i], b[j] = b[j], b[i]
		}
	}
	if r.Intn(3) > 0 {
		return recounted(b)
	}
	return b
}

// P7.2, P7.4: bytes that are like those of a ClientHello, against another reading of the document.
func TestSomeBytes(t *testing.T) {
	r := rand.New(rand.NewSource(72))
	taken := 0
	for range 500 {
		b := bytesOf(t, toldText(someGreeting(r)))
		for range 40 {
			if checkTold(t, edited(r, b)) {
				taken++
			}
		}
	}
	if taken < 1000 || taken > 19000 {
		t.Error("taken:", taken)
	}
}

// P7.4: both ways.
func TestWriteAndParseAreInverse(t *testing.T) {
	r := rand.New(rand.NewSource(74))
	for range 1000 {
		g := someGreeting(r)
		b, e := Write(g)
		if e != api.OK {
			t.Fatalf("Write(%+v): %d", g, e)
		}
		again, e := Parse(b)
		if e != api.OK || !same(again, g) {
			t.Fatalf("Parse of what Write tells: %+v, %d, not %+v", again, e, g)
		}
		written, e := Write(again)
		if e != api.OK || !bytes.Equal(written, b) {
			t.Fatalf("Write of what Parse tells: %x, %d, not %x", written, e, b)
		}
	}
}

// P7.5: of any greeting.
func TestSomeGreetingsCutOffOrWithMore(t *testing.T) {
	r := rand.New(rand.NewSource(75))
	for range 30 {
		g := someGreeting(r)
		text := toldText(g)
		b := bytesOf(t, text)
		for n := range b {
			checkNone(t, b[:n])
		}
		checkNone(t, append(bytes.Clone(b), byte(r.Intn(256))))
		checkNone(t, slices.Concat(b, someBytes(r, 9), []byte{0}))
		start, message := text[:6], text[10:]
		for i := 0; i <= len(message); i += 2 {
			checkNone(t, bytesOf(t, start+counted(2, message[:i])+start+counted(2, message[i:])))
		}
	}
}

// P7.6: whatever else there is, even what looks like another host.
func TestHostAmongAllElse(t *testing.T) {
	r := rand.New(rand.NewSource(76))
	other := bytesOf(t, hostText("other.example"))
	for range 1000 {
		g := someGreeting(r)
		copy(g.Random[:], other)
		g.Session = other[:min(32, len(other))]
		g.Methods = slices.Concat(g.Methods, other)
		g.Suites = append(g.Suites, 0, len(other)-4, 0x0010, 0x0000, 0x0d6f)
		g.Exts = append(g.Exts, api.Ext{Type: 65535, Data: other}, api.Ext{Type: 65534, Data: bytesOf(t, toldText(plainest()))})
		if !toldValid(g) {
			continue
		}
		b, e := Write(g)
		if e != api.OK {
			t.Fatalf("Write(%+v): %d", g, e)
		}
		if host, e := Sni(b); e != api.OK || host != strings.ToLower(g.Host) {
			t.Fatalf("Sni(%x): %q, %d, not of %q", b, host, e, g.Host)
		}
	}
}

// whole are bytes in memory of which there is more behind them.
func whole(b, behind []byte) []byte { return append(bytes.Clone(b), behind...)[:len(b)] }

// P7.2, P7.3: what lies behind the bytes in the same memory is none of them.
func TestUnusedCapacityIsNotRead(t *testing.T) {
	for _, g := range []api.Greeting{plainest(), rich()} {
		b := bytesOf(t, toldText(g))
		for n := range b {
			checkNone(t, whole(b[:n], b[n:]))
			checkNone(t, whole(recounted(b[:n]), b[n:]))
		}
		for _, behind := range [][]byte{{0}, b, make([]byte, 100)} {
			checkParse(t, whole(b, behind), g, true)
		}
	}
}

// roomy is a greeting whose lists all have unused capacity, in which there is something.
func roomy() api.Greeting {
	g := rich()
	g.Session = whole(g.Session, []byte{7, 8, 9})
	g.Methods = whole(g.Methods, []byte{7, 8, 9})
	g.Suites = append(slices.Clone(g.Suites), 7, 8, 9)[:len(g.Suites)]
	exts := append(slices.Clone(g.Exts), api.Ext{Type: 7, Data: []byte{7}}, api.Ext{Type: 8}, api.Ext{Type: 9})
	for i := range exts {
		exts[i].Data = whole(exts[i].Data, []byte{7, 8, 9})
	}
	g.Exts = exts[:len(g.Exts)]
	return g
}

// full is a greeting with all that its lists have room for.
func full(g api.Greeting) api.Greeting {
	g.Session, g.Methods, g.Suites, g.Exts = g.Session[:cap(g.Session)], g.Methods[:cap(g.Methods)], g.Suites[:cap(g.Suites)], slices.Clone(g.Exts[:cap(g.Exts)])
	for i, x := range g.Exts {
		g.Exts[i].Data = x.Data[:cap(x.Data)]
	}
	return g
}

// spoil turns all bytes that there is room for.
func spoil(b []byte) {
	b = b[:cap(b)]
	for i := range b {
		b[i] ^= 0x55
	}
}

// spoilGreeting turns all that a greeting's lists have room for.
func spoilGreeting(g api.Greeting) {
	spoil(g.Session)
	spoil(g.Methods)
	suites, exts := g.Suites[:cap(g.Suites)], g.Exts[:cap(g.Exts)]
	for i := range suites {
		suites[i] ^= 0x55
	}
	for i := range exts {
		spoil(exts[i].Data)
		exts[i] = api.Ext{Type: exts[i].Type ^ 0x55, Data: []byte("spoilt")}
	}
}

// P7.3: Write only reads, and what it tells is new.
func TestMemoryOfWrite(t *testing.T) {
	g := roomy()
	want := toldText(g)
	b, e := Write(g)
	if e != api.OK || !same(full(g), full(roomy())) {
		t.Fatalf("Write has changed its argument, or: %d", e)
	}
	spoil(b)
	if !same(full(g), full(roomy())) {
		t.Fatal("a change of what Write told has changed its argument")
	}
	later, e := Write(g)
	if e != api.OK || !bytes.Equal(later, bytesOf(t, want)) {
		t.Fatalf("a change of what Write told has changed what it tells later: %x, %d", later, e)
	}
	spoilGreeting(g)
	if !bytes.Equal(later, bytesOf(t, want)) {
		t.Fatal("a change of Write's argument has changed what it told")
	}
	// Neither when it refuses.
	for _, change := range []func(g *api.Greeting){
		func(g *api.Greeting) { g.At = 9 },
		func(g *api.Greeting) { g.Host = "" },
		func(g *api.Greeting) { g.Exts[1].Type = 10 },
		func(g *api.Greeting) { g.Exts[2].Type = 0 },
		func(g *api.Greeting) { g.Suites[1] = -1 },
	} {
		g, other := roomy(), roomy()
		change(&g)
		change(&other)
		if b, e := Write(g); b != nil || e != api.ErrArg || !same(full(g), full(other)) {
			t.Errorf("Write has changed its argument, or: %x, %d", b, e)
		}
	}
}

// P7.3: Parse and Sni only read, and what they tell is new.
func TestMemoryOfParse(t *testing.T) {
	original := bytesOf(t, toldText(rich()))
	b := whole(original, []byte{7, 8, 9})
	unchanged := func() bool {
		return bytes.Equal(b, original) && bytes.Equal(b[:len(b)+3], slices.Concat(original, []byte{7, 8, 9}))
	}
	g, e := Parse(b)
	if e != api.OK || !unchanged() {
		t.Fatalf("Parse has changed its argument, or: %d", e)
	}
	host, e := Sni(b)
	if e != api.OK || !unchanged() {
		t.Fatalf("Sni has changed its argument, or: %d", e)
	}
	later, _ := Parse(b)
	spoilGreeting(g)
	if !unchanged() || !same(later, rich()) {
		t.Fatal("a change of what Parse told has changed its argument, or another result")
	}
	if again, e := Parse(b); e != api.OK || !same(again, rich()) {
		t.Fatalf("a change of what Parse told has changed what it tells later: %+v, %d", again, e)
	}
	spoil(b)
	if !same(later, rich()) || host != "shop.example.org" {
		t.Fatal("a change of Parse's argument has changed what it told")
	}
	for n := range original {
		b := whole(original[:n], original[n:])
		if _, e := Parse(b); e != api.ErrHello || !bytes.Equal(b[:len(original)], original) {
			t.Fatalf("Parse has changed its argument, or: %d", e)
		}
		if _, e := Sni(b); e != api.ErrHello || !bytes.Equal(b[:len(original)], original) {
			t.Fatalf("Sni has changed its argument, or: %d", e)
		}
	}
}

// lists are a greeting's lists of bytes.
func lists(g *api.Greeting) []*[]byte {
	all := []*[]byte{&g.Session, &g.Methods}
	for i := range g.Exts {
		all = append(all, &g.Exts[i].Data)
	}
	return all
}

// P7.3: the lists of one result share nothing with each other.
func TestListsOfAResultAreApart(t *testing.T) {
	b := bytesOf(t, toldText(rich()))
	want := rich()
	for i := range lists(&want) {
		g, e := Parse(b)
		if e != api.OK {
			t.Fatal(e)
		}
		spoil(*lists(&g)[i])
		*lists(&g)[i] = *lists(&want)[i]
		if !same(g, want) {
			t.Errorf("a change of list %d: %+v, not %+v", i, g, want)
		}
	}
}

// within tells whether a text lies in the memory of bytes.
func within(s string, b []byte) bool {
	if s == "" || len(b) == 0 {
		return false
	}
	x, y := uintptr(unsafe.Pointer(unsafe.StringData(s))), uintptr(unsafe.Pointer(unsafe.SliceData(b)))
	return x < y+uintptr(len(b)) && y < x+uintptr(len(s))
}

// P7.3
func TestHostIsNewMemory(t *testing.T) {
	for _, host := range []string{"a", "A", "shop.example.org", "Shop.Example.org", hostOf(60)} {
		b := bytesOf(t, toldText(with(func(g *api.Greeting) { g.Host = host })))
		g, e := Parse(b)
		if e != api.OK || within(g.Host, b) {
			t.Errorf("Parse: %q, %d, or no new memory", g.Host, e)
		}
		if low, e := Sni(b); e != api.OK || within(low, b) {
			t.Errorf("Sni: %q, %d, or no new memory", low, e)
		}
	}
}

// P7.1, P7.2: no call hangs on an earlier one, or on one at the same time.
func TestCallsAreApart(t *testing.T) {
	good, bad := bytesOf(t, toldText(rich())), bytesOf(t, toldText(plainest()))[:30]
	for range 3 {
		checkParse(t, good, rich(), true)
		checkNone(t, bad)
		checkWrite(t, api.Greeting{}, false)
		checkWrite(t, plainest(), true)
	}
	done := make(chan bool)
	for range 8 {
		go func() {
			defer func() { done <- true }()
			for range 200 {
				checkParse(t, good, rich(), true)
				checkParse(t, bad, api.Greeting{}, false)
				checkWrite(t, rich(), true)
			}
		}()
	}
	for range 8 {
		<-done
	}
}

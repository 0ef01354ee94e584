package policy

import (
	"fmt"
	"math/rand"
	"slices"
	"strings"
	"testing"

	"chinoiserie/api"
)

// lined is the text of lines.
func lined(lines ...string) string { return strings.Join(lines, "\n") }

// checkText holds Parse of a text against what is wanted and against the second reading.
func checkText(t *testing.T, s string, line int, want api.Errno) {
	t.Helper()
	told, toldLine, toldE := toldParse(s)
	if toldLine != line || toldE != want {
		t.Errorf("%q: the second reading says %d, %d, not %d, %d", short(s), toldLine, toldE, line, want)
	}
	p, gotLine, e := Parse(s)
	if !Same(p, told) || gotLine != line || e != want {
		t.Errorf("Parse(%q): %+v, %d, %d, not %+v, %d, %d", short(s), p, gotLine, e, told, line, want)
	}
}

func short(s string) string { return s[:min(len(s), 2000)] }

// The table 'Examples' of the chapter.
func TestExamples(t *testing.T) {
	p, line, e := Parse(lined("label low", "label high", "below low high", "work w low 2", "route w.mesh / w 1"))
	want := api.Policy{
		Labels: []string{"low", "high"},
		Below:  [][2]int{{0, 1}},
		Works:  []api.Work{{Name: "w", Label: 0, Quota: 2}},
		Routes: []api.Route{{Host: "w.mesh", Prefix: "/", Work: 0, Weight: 1}},
	}
	if !Same(p, want) || line != 0 || e != api.OK {
		t.Errorf("%+v, %d, %d", p, line, e)
	}
	for _, c := range []struct {
		lines string
		line  int
		e     api.Errno
	}{
		{lined("label low", "work w mid 2"), 2, api.ErrName},
		{lined("label low", "label high"), 0, api.ErrLattice},
		{lined("label low", "work a low 1", "call a a"), 0, api.ErrCycle},
		{lined("labels low"), 1, api.ErrForm},
	} {
		checkText(t, c.lines, c.line, c.e)
	}
}

// P8.2: a text without a policy.
func TestNoPolicy(t *testing.T) {
	for _, s := range []string{"", "\n", " ", "   \n\n #\n", "# label low", "#label low\n"} {
		checkText(t, s, 0, api.ErrArg)
	}
	checkText(t, "label low", 0, api.OK)
	checkText(t, "label low\n", 0, api.OK)
	checkText(t, "label low\n\n", 0, api.OK)
}

// P8.2: each kind of line with one word less and one more, and with as many as it has.
func TestWordsOfALine(t *testing.T) {
	for i, line := range strings.Split(strings.TrimSuffix(richText, "\n"), "\n") {
		before := strings.Join(strings.SplitAfter(richText, "\n")[:i], "")
		words := strings.Split(line, " ")
		checkText(t, before+strings.Join(words[:len(words)-1], " "), i+1, api.ErrForm)
		checkText(t, before+words[0], i+1, api.ErrForm)
		checkText(t, before+line+" x", i+1, api.ErrForm)
		checkText(t, before+line+" #", i+1, api.ErrForm)
		checkText(t, before+line+" "+line, i+1, api.ErrForm)
		checkText(t, before+line+"\nwhat", i+2, api.ErrForm)
	}
	checkText(t, richText, 0, api.OK)
}

// P8.2: first words that are no kind, and lines whose words are none.
func TestNoKind(t *testing.T) {
	for _, line := range []string{"x", "labels low", "Label low", "LABEL low", "label# low", "lab el low", "below# low low", "label\tlow", "\tlabel low", "label low\r", "label l\x00w", "label l\x7fw", "label löw", "label\u00a0low", "\xff", "\t", "\r", "-", "0", "label,low"} {
		checkText(t, line, 1, api.ErrForm)
		checkText(t, lined("label low", "", line), 3, api.ErrForm)
		checkText(t, lined(line, line), 1, api.ErrForm)
	}
	// Words that are none come ahead of everything else in a line.
	for _, line := range []string{"#\t", "# \x00", "#é", "x \t", "label low high \t", "work w mid x\t"} {
		checkText(t, lined("label low", line), 2, api.ErrForm)
	}
}

// P8.2: numbers of workloads and routes.
func TestNumbers(t *testing.T) {
	for word, c := range map[string]struct {
		e    api.Errno
		line int
	}{
		"1": {api.OK, 0}, "64": {api.OK, 0},
		"0": {api.ErrArg, 0}, "101": {api.ErrArg, 0}, "9007199254740991": {api.ErrArg, 0},
		"9007199254740992": {api.ErrRange, 1}, "9223372036854775807": {api.ErrRange, 1}, "9223372036854775808": {api.ErrRange, 1}, "18446744073709551617": {api.ErrRange, 1}, "100000000000000000000000000000": {api.ErrRange, 1},
		"x": {api.ErrForm, 1}, "01": {api.ErrForm, 1}, "00": {api.ErrForm, 1}, "-1": {api.ErrForm, 1}, "+1": {api.ErrForm, 1}, "1.0": {api.ErrForm, 1}, "1e1": {api.ErrForm, 1}, "0x1": {api.ErrForm, 1}, "1_0": {api.ErrForm, 1}, "1,": {api.ErrForm, 1}, "9007199254740992x": {api.ErrForm, 1}, "low": {api.ErrForm, 1},
	} {
		checkText(t, lined("label low", "work w low "+word), 2*c.line, c.e)
		checkText(t, lined("label low", "work w low 1", "route a / w "+word), 3*c.line, c.e)
	}
}

// P8.2: names of labels that are none, or that come twice.
func TestNewLabels(t *testing.T) {
	for name, is := range names() {
		switch {
		case strings.Contains(name, "\n"):
			// It ends the line, and what is ahead of it is a name.
			checkText(t, "label "+name, 0, api.OK)
		case is:
			checkText(t, "label "+name, 0, api.OK)
		case toldLine.MatchString(name) && name != "" && !strings.Contains(name, " "):
			checkText(t, "label "+name, 1, api.ErrName)
			checkText(t, lined("label low", "label "+name), 2, api.ErrName)
		default:
			checkText(t, "label "+name, 1, api.ErrForm)
		}
	}
	checkText(t, lined("label low", "label low"), 2, api.ErrName)
	checkText(t, lined("label low", "label high", "below low high", "label low"), 4, api.ErrName)
}

// P8.2: names of labels and workloads that no earlier line introduces, but a later one, or the line itself, may.
func TestForeignNames(t *testing.T) {
	const labels = "label low\nlabel high\nbelow low high\nwork w low 1\nwork v low 1\n"
	for _, line := range []string{
		"below mid high", "below low mid", "below mid mid",
		"source s mid low", "source s low mid", "dest d mid", "work u mid 1",
		"route r / u 1", "call u w", "call w u", "call u u",
		"grant g u high low /", "grant g w mid low /", "grant g w high mid /",
		// A name of the other kind is none.
		"below w low", "source s w low", "dest d v", "work u w 1", "route r / low 1", "call low high", "grant g low high low /", "grant g w w low /",
		// Names are not taken in part, or in another case.
		"below lo high", "below lowx high", "below Low high", "below 0 1", "call 0 1", "call W v",
	} {
		checkText(t, labels+line, 6, api.ErrName)
		checkText(t, labels+line+"\nlabel mid\nwork u low 1", 6, api.ErrName)
	}
	for _, c := range []struct {
		s    string
		line int
	}{
		{lined("work w low 1", "label low"), 1},
		{lined("source web low low", "label low"), 1},
		{lined("dest d low", "label low"), 1},
		{lined("label low", "below low high", "label high"), 2},
		{lined("label low", "route r / w 1", "work w low 1"), 2},
		{lined("label low", "work a low 1", "call a b", "work b low 1"), 3},
		{lined("label low", "label high", "below low high", "grant g w high low /", "work w low 1"), 4},
		{lined("label low", "work w w 1"), 2},
	} {
		checkText(t, c.s, c.line, api.ErrName)
	}
}

// P8.2: words are checked from the left, and those behind a kind only if there are as many as it has.
func TestFromTheLeft(t *testing.T) {
	const labels = "label low\nwork w low 1\n"
	for line, e := range map[string]api.Errno{
		"work u mid x":                api.ErrName,
		"work u mid 9007199254740992": api.ErrName,
		"work u mid":                  api.ErrForm,
		"work u mid x y":              api.ErrForm,
		"work u low x":                api.ErrForm,
		"route r / u x":               api.ErrName,
		"route r / u 01":              api.ErrName,
		"route R b u":                 api.ErrForm,
		"label low low":               api.ErrForm,
		"label":                       api.ErrForm,
		"grant g u mid mid":           api.ErrForm,
	} {
		checkText(t, labels+line, 3, e)
	}
}

// P8.2: what a line of the right form has is only looked at behind all lines.
func TestErrorsBehindAllLines(t *testing.T) {
	const start = "label low\nlabel high\nbelow low high\nwork w low 1\nwork v low 1\n"
	for lines, e := range map[string]api.Errno{
		"source A low low":                   api.ErrName,
		"source s low low\nsource s low low": api.ErrName,
		"dest A low":                         api.ErrHost,
		"dest d low\ndest d high":            api.ErrName,
		"work A low 1":                       api.ErrName,
		"work w low 1":                       api.ErrName,
		"work u low 0":                       api.ErrArg,
		"work u low 65":                      api.ErrArg,
		"route A / w 1":                      api.ErrHost,
		"route r b w 1":                      api.ErrForm,
		"route r /# w 1":                     api.ErrForm,
		"route r / w 0":                      api.ErrArg,
		"route r / w 101":                    api.ErrArg,
		"route r / w 1\nroute r / w 2":       api.ErrPolicy,
		"route d / w 1\ndest d low":          api.ErrPolicy,
		"call w w":                           api.ErrCycle,
		"call w v\ncall w v":                 api.ErrPolicy,
		"call w v\ncall v w":                 api.ErrCycle,
		"grant A w high low /":               api.ErrName,
		"grant g w low high /":               api.ErrPolicy,
		"grant g w low low /":                api.ErrPolicy,
		"grant g w high low x":               api.ErrForm,
		"allow *":                            api.ErrHost,
		"allow a\nallow a":                   api.ErrName,
		"below high low":                     api.ErrCycle,
		"label mid":                          api.ErrLattice,
		"allow A\nwork u low 0\ncall w w":    api.ErrArg,
	} {
		checkText(t, start+lines, 0, e)
		// A line with an error comes ahead of all that.
		many := strings.Count(start+lines, "\n") + 1
		checkText(t, start+lines+"\nwhat", many+1, api.ErrForm)
		checkText(t, start+lines+"\nlabel low", many+1, api.ErrName)
	}
}

// P8.2: of each kind as many lines as there may be, and one more.
func TestTooManyLines(t *testing.T) {
	fullText := toldText(full())
	checkText(t, fullText, 0, api.OK)
	many := strings.Count(fullText, "\n")
	for _, line := range []string{
		"label more",
		"below " + sized("l", 0, 12) + " " + sized("l", 1, 12),
		"source more " + sized("l", 0, 12) + " " + sized("l", 0, 12),
		"dest more " + sized("l", 0, 12),
		"work more " + sized("l", 0, 12) + " 1",
		"route more / " + sized("w", 0, 12) + " 1",
		"call " + sized("w", 0, 12) + " " + sized("w", 1, 12),
		"grant more " + sized("w", 0, 12) + " " + sized("l", 1, 12) + " " + sized("l", 0, 12) + " /",
		"allow more",
	} {
		checkText(t, fullText+line, many+1, api.ErrLimit)
		checkText(t, fullText+"\n # \n"+line+"\n"+line, many+3, api.ErrLimit)
		checkText(t, fullText+line+" x", many+1, api.ErrForm)
	}
	// A line that refers to what there is not is not counted.
	checkText(t, fullText+"label "+sized("l", 0, 12), many+1, api.ErrName)
	checkText(t, fullText+"label A", many+1, api.ErrName)
	checkText(t, fullText+"work more mid 1", many+1, api.ErrName)
	checkText(t, fullText+"call more more", many+1, api.ErrName)
	checkText(t, fullText+"route more / "+sized("w", 0, 12)+" x", many+1, api.ErrForm)
	// As soon as there is one too many, whatever is wrong with the others.
	checkText(t, "label low\n"+strings.Repeat("allow A\n", 6)+"allow A", 8, api.ErrLimit)
	checkText(t, "label low\n"+strings.Repeat("below low low\n", 46), 47, api.ErrLimit)
	checkText(t, "label low\n"+strings.Repeat("below low low\n", 45), 0, api.ErrCycle)
}

// P8.2: the longest text.
func TestSizeOfText(t *testing.T) {
	fill := func(first, with string, size int) string {
		s := first + strings.Repeat(with, size)
		return s[:size]
	}
	for _, with := range []string{"\n", " ", "#\n", "#x", "\n\n label", "\xff", "label low\n"} {
		checkText(t, fill("label low\n", with, 65537), 0, api.ErrLimit)
		checkText(t, fill("label low\n", with, 1<<17), 0, api.ErrLimit)
	}
	for _, with := range []string{"\n", " ", "#", "# \n", "      \n\n#\n"} {
		checkText(t, fill("label low\n", with, 65536), 0, api.OK)
		checkText(t, fill("label low\n", with, 65530)+"\nwhat", strings.Count(fill("label low\n", with, 65530), "\n")+2, api.ErrForm)
	}
	checkText(t, "label low\nlabel "+strings.Repeat("a", 65520), 2, api.ErrName)
	checkText(t, "label low\nwork w low "+strings.Repeat("1", 65515), 2, api.ErrRange)
}

// P8.5: a parsed text is printed as the same lines, and kinds may come in another order.
func TestOrderOfKinds(t *testing.T) {
	mixed := lined("label low", "work front low 4", "", "allow *.example", "dest x.example low", "# more", "label high", "route f.mesh / front 1", "source web high low", "below low high", "work back high 2", "call front back", "source app low low", "grant g back high low /x", "route f.mesh / back 3", "allow a")
	sorted := lined("label low", "label high", "below low high", "source web high low", "source app low low", "dest x.example low", "work front low 4", "work back high 2", "route f.mesh / front 1", "route f.mesh / back 3", "call front back", "grant g back high low /x", "allow *.example", "allow a", "")
	checkText(t, mixed, 0, api.OK)
	p, _, _ := Parse(mixed)
	if s, e := Print(p); s != sorted || e != api.OK {
		t.Errorf("%q, %d, not %q", s, e, sorted)
	}
}

// spread is a text with blanks and ignored lines put in; and for each line of the text (from 1) its line.
func spread(r *rand.Rand, s string) (string, []int) {
	var b strings.Builder
	at, line := []int{0}, 0
	ignored := []string{"", " ", "     ", "#", "#label low", " # what", "  ####  x", "# work x y z"}
	for _, told := range strings.Split(s, "\n") {
		for r.Intn(3) == 0 {
			b.WriteString(ignored[r.Intn(len(ignored))] + "\n")
			line++
		}
		line++
		at = append(at, line)
		for _, word := range strings.SplitAfter(told, " ") {
			if strings.HasSuffix(word, " ") || r.Intn(2) == 0 {
				word = strings.Repeat(" ", r.Intn(4)) + word
			}
			b.WriteString(word)
		}
		b.WriteString(strings.Repeat(" ", r.Intn(3)) + "\n")
	}
	return b.String(), at
}

// P8.6
func TestBlanksAndIgnoredLines(t *testing.T) {
	r := rand.New(rand.NewSource(6))
	for range 2000 {
		s := damaged(r, someText(r))
		wide, at := spread(r, s)
		p, line, e := Parse(s)
		q, wideLine, wideE := Parse(wide)
		if !Same(p, q) || e != wideE || wideLine != at[line] {
			t.Fatalf("%q: %+v, %d, %d; %q: %+v, %d, %d", s, p, line, e, wide, q, wideLine, wideE)
		}
	}
}

// someText is a policy's text with the lines mixed, as far as names are introduced ahead of their use.
func someText(r *rand.Rand) string {
	texts := []string{richText, toldText(full()), "label low\nwork a low 1\nwork b low 2\ncall a b\nroute a.mesh / a 1\n"}
	lines := strings.Split(strings.TrimSuffix(texts[r.Intn(len(texts))], "\n"), "\n")
	for range r.Intn(4) {
		i := 1 + r.Intn(len(lines)-1)
		lines[i-1], lines[i] = lines[i], lines[i-1]
	}
	return strings.Join(lines, "\n")
}

// damaged is a text with some things changed at random.
func damaged(r *rand.Rand, s string) string {
	lines := strings.Split(s, "\n")
	words := []string{"low", "high", "a", "b", "mid", "front", "back", "0", "1", "64", "65", "100", "101", "01", "x.example", "f.mesh", "/", "/b", "#", "label", "work", "call", "9007199254740992", "*.a", "A", "g1", "\t", "é"}
	for range r.Intn(4) {
		i, j := r.Intn(len(lines)), r.Intn(len(lines))
		switch r.Intn(6) {
		case 0:
			lines = slices.Delete(lines, i, min(i+1, len(lines)-1))
		case 1:
			lines = slices.Insert(lines, i, lines[j])
		case 2:
			lines[i], lines[j] = lines[j], lines[i]
		case 3:
			lines[i] += " " + words[r.Intn(len(words))]
		default:
			all := strings.Split(lines[i], " ")
			all[r.Intn(len(all))] = words[r.Intn(len(words))]
			lines[i] = strings.Join(all, " ")
		}
	}
	return strings.Join(lines, "\n")
}

// P8.2, P8.5: many texts, held against the second reading.
func TestManyTexts(t *testing.T) {
	r := rand.New(rand.NewSource(8))
	met := map[api.Errno]int{}
	for range 8000 {
		s := damaged(r, someText(r))
		_, line, want := toldParse(s)
		checkText(t, s, line, want)
		met[want]++
		if want == api.OK {
			checkPrinted(t, s)
		}
	}
	for _, e := range []api.Errno{api.OK, api.ErrArg, api.ErrForm, api.ErrLimit, api.ErrRange, api.ErrCycle, api.ErrLattice, api.ErrName, api.ErrHost, api.ErrPolicy} {
		if met[e] == 0 {
			t.Errorf("no text with %d: %v", e, met)
		}
	}
}

// checkPrinted checks that a policy's text is printed as the same lines, in the order of kinds.
func checkPrinted(t *testing.T, s string) {
	t.Helper()
	p, _, _ := Parse(s)
	printed, e := Print(p)
	kindsInOrder := []string{"label", "below", "source", "dest", "work", "route", "call", "grant", "allow"}
	var lines []string
	for line := range strings.SplitSeq(s, "\n") {
		if line = strings.TrimSpace(line); line != "" && line[0] != '#' {
			lines = append(lines, line+"\n")
		}
	}
	slices.SortStableFunc(lines, func(a, b string) int {
		first := func(line string) int { return slices.Index(kindsInOrder, strings.Fields(line)[0]) }
		return first(a) - first(b)
	})
	if want := strings.Join(lines, ""); printed != want || e != api.OK {
		t.Errorf("%q is printed as %q, %d", s, printed, e)
	}
	if q, line, e := Parse(printed); !Same(p, q) || line != 0 || e != api.OK {
		t.Errorf("%q is parsed as %+v, %d, %d", printed, q, line, e)
	}
}

// P8.1, P8.5: many policies with some things changed at random, held against the second reading.
func TestManyPolicies(t *testing.T) {
	r := rand.New(rand.NewSource(1))
	met := map[api.Errno]int{}
	for i := range 20000 {
		p := rich()
		for range r.Intn(4) {
			shake(r, &p)
		}
		want := toldCheck(p)
		checkPolicy(t, fmt.Sprint(i), p, want)
		met[want]++
	}
	for _, e := range []api.Errno{api.OK, api.ErrArg, api.ErrForm, api.ErrRange, api.ErrCycle, api.ErrLattice, api.ErrName, api.ErrHost, api.ErrPolicy} {
		if met[e] == 0 {
			t.Errorf("no policy with %d: %v", e, met)
		}
	}
}

// shake changes one thing of a policy.
func shake(r *rand.Rand, p *api.Policy) {
	texts := []string{"", "a", "low", "web", "app", "front", "mid", "g1", "g2", "x.example", "f.mesh", "*.example", "/", "/b", "/sum", "A", "/#"}
	word := texts[r.Intn(len(texts))]
	n := r.Intn(7) - 1
	l := api.Label(r.Intn(6) - 1)
	switch r.Intn(14) {
	case 0:
		p.Labels[r.Intn(4)] = word
	case 1:
		p.Below[r.Intn(4)][r.Intn(2)] = n
	case 2:
		p.Below = append(p.Below, [2]int{r.Intn(4), r.Intn(4)})
	case 3:
		p.Sources[r.Intn(2)].Name = word
	case 4:
		p.Sources[r.Intn(2)] = api.Source{Name: "src", Label: l, Clear: api.Label(n)}
	case 5:
		p.Dests[r.Intn(2)] = api.Dest{Host: word, Clear: l}
	case 6:
		p.Works[r.Intn(3)].Name = word
	case 7:
		p.Works[r.Intn(3)] = api.Work{Name: "wrk", Label: l, Quota: n * 16}
	case 8:
		p.Routes[r.Intn(3)] = api.Route{Host: word, Prefix: texts[r.Intn(len(texts))], Work: n, Weight: 7}
	case 9:
		p.Routes = append(p.Routes, api.Route{Host: "f.mesh", Prefix: "/", Work: r.Intn(3), Weight: 25 * n})
	case 10:
		p.Calls[r.Intn(len(p.Calls))][r.Intn(2)] = n
	case 11:
		p.Grants[r.Intn(2)] = api.Grant{Name: word, Work: n, From: 3, To: l, Prefix: texts[r.Intn(len(texts))]}
	case 12:
		p.Grants[r.Intn(2)].From = l
	case 13:
		p.Allow[r.Intn(2)] = word
	}
}

package tests

import (
	"fmt"
	"math/rand"
	"regexp"
	"strconv"
	"strings"
	"testing"

	"loop.example/g00345/impl"
)

func escapedByte(c byte) string {
	switch {
	case c == '\\':
		return `\\`
	case c == '\n':
		return `\n`
	case c < 32 || c > 126:
		return fmt.Sprintf("\\x%02x", c)
	}
	return string([]byte{c})
}

// comesBack asks for what is escaped, and that it is unescaped again.
func comesBack(t *testing.T, s, want string) {
	t.Helper()
	if got := impl.Escaped(s); got != want {
		t.Errorf("%q is escaped %q, wanted %q", s, got, want)
	}
	if got, ok := impl.Unescaped(want); !ok || got != s {
		t.Errorf("%q is unescaped %q %v, wanted %q", want, got, ok, s)
	}
}

func refusesEscaped(t *testing.T, s string) {
	t.Helper()
	if got, ok := impl.Unescaped(s); ok || got != "" {
		t.Errorf("%q is unescaped %q %v", s, got, ok)
	}
}

func TestEscapedBytes(t *testing.T) {
	comesBack(t, "", "")
	comesBack(t, "a \\\n\r\t\x00\x1f ~\x7f\x80\xff\"'", `a \\\n\x0d\x09\x00\x1f ~\x7f\x80\xff"'`)
	comesBack(t, `\n\x41`, `\\n\\x41`)
	comesBack(t, "\xc3\xa4\xe2\x82\xac", `\xc3\xa4\xe2\x82\xac`)
	all := ""
	for c := range 256 {
		s := string([]byte{byte(c)})
		want := escapedByte(byte(c))
		comesBack(t, s, want)
		comesBack(t, s+s, want+want)
		comesBack(t, "x"+s+"0", "x"+want+"0")
		comesBack(t, "\\"+s, `\\`+want)
		all += s
		if s != want {
			// such a byte does not stand as it is
			refusesEscaped(t, s)
			refusesEscaped(t, "a"+s)
			refusesEscaped(t, s+"a")
		}
		for cut := 1; cut < len(want); cut++ {
			refusesEscaped(t, want[:cut])
			refusesEscaped(t, want[:cut]+" ")
		}
		low, high := fmt.Sprintf("\\x%02x", c), fmt.Sprintf("\\x%02X", c)
		if low != want {
			refusesEscaped(t, low)
		}
		if high != low {
			refusesEscaped(t, high)
		}
		if !strings.Contains("\\nx", s) {
			refusesEscaped(t, "\\"+s)
			refusesEscaped(t, "\\"+s+"00")
		}
	}
	want := ""
	for c := range 256 {
		want += escapedByte(byte(c))
	}
	comesBack(t, all, want)
	comesBack(t, strings.Repeat(all, 100), strings.Repeat(want, 100))
}

func TestNoTextsEscapedIsThis(t *testing.T) {
	for _, s := range []string{
		`\`, `a\`, `\\\`, `\n\`, // at the end
		`\x`, `\x0`, `\x4`, `\xf`, `a\x1`, `\x1 `, `\x1g`, `\xg1`, `\x-1`, `\x+1`, `\x 1`, `\x\x00`, // too few digits
		`\x0D`, `\xFF`, `\xfF`, `\xFf`, `\x7F`, `\xA0`, `\X00`, // capitals
		"\n", "a\nb", "\r", "\t", "\x00", "\x7f", "\x80", "\xff", "ä", // would be escaped
		`\x41`, `\x20`, `\x7e`, `\x5c`, `\x0a`, `\x30`, // would stand as they are, or otherwise
		`\q`, `\t`, `\r`, `\0`, `\N`, `\"`, `\ `, `\u0041`, `\b`, `\a`, `\/`, // another letter
	} {
		refusesEscaped(t, s)
		refusesEscaped(t, "a"+s)
		refusesEscaped(t, `\\`+s)
		refusesEscaped(t, `\n\xff`+s)
	}
}

// otherUnescaped takes off what a byte is escaped as, one behind the other.
func otherUnescaped(s string) (string, bool) {
	out := ""
next:
	for s != "" {
		for c := range 256 {
			if rest, ok := strings.CutPrefix(s, escapedByte(byte(c))); ok {
				out, s = out+string([]byte{byte(c)}), rest
				continue next
			}
		}
		return "", false
	}
	return out, true
}

func TestUnescapedAsOtherwise(t *testing.T) {
	const signs = "\\\\\\xn0af8A \n\xff"
	r := rand.New(rand.NewSource(130))
	fine, refused := 0, 0
	for i := range 60000 {
		var b strings.Builder
		for range 1 + i%9 {
			b.WriteByte(signs[r.Intn(len(signs))])
		}
		s := b.String()
		got, ok := impl.Unescaped(s)
		want, other := otherUnescaped(s)
		if got != want || ok != other {
			t.Fatalf("%q: %q %v, otherwise %q %v", s, got, ok, want, other)
		}
		if ok {
			fine++
			comesBack(t, got, s)
		} else {
			refused++
		}
		if again, now := impl.Unescaped(s); again != got || now != ok || impl.Escaped(s) != impl.Escaped(s) {
			t.Fatalf("another answer: %q", s)
		}
		back, ok := impl.Unescaped(impl.Escaped(s))
		if !ok || back != s {
			t.Fatalf("%q does not come back: %q", s, back)
		}
	}
	if fine < 3000 || refused < 3000 {
		t.Error(fine, refused)
	}
}

// script asks for the lines that a script says, twice.
func script(t *testing.T, lines []string, want ...string) {
	t.Helper()
	s, said := "", ""
	for _, line := range lines {
		s += line + "\n"
	}
	for _, line := range want {
		said += line + "\n"
	}
	for range 2 {
		if got := impl.RunScript(s); got != said {
			t.Errorf("%q says %q, wanted %q", s, got, said)
		}
	}
}

func TestScriptLimits(t *testing.T) {
	if impl.MaxScript != 40 || impl.MaxLines != 4000 {
		t.Error("other limits")
	}
	says := func(s, want string) {
		t.Helper()
		if got := impl.RunScript(s); got != want {
			t.Errorf("%q says %q, wanted %q", s, got, want)
		}
	}
	const tooLong = "too long\n"
	says("", "")
	for _, n := range []int{1, 2, 39, 40} {
		says(strings.Repeat("size\n", n), strings.Repeat("size 0\n", n))
		says(strings.Repeat("\n", n), "")
		says(strings.Repeat("  \n", n), "")
		says(strings.Repeat("\n", n-1)+"size\n", "size 0\n")
		says(strings.Repeat("size\n", n)[:5*n-1], tooLong)
		says(strings.Repeat("\n", n)+" ", tooLong)
		says(strings.Repeat("\n", n)+"x", tooLong)
	}
	for _, n := range []int{41, 42, 100, 4000, 4001, 100000} {
		says(strings.Repeat("size\n", n), tooLong)
		says(strings.Repeat("\n", n), tooLong)
		says(strings.Repeat(" \n", n), tooLong)
		says("size\n"+strings.Repeat("\n", n-1), tooLong)
		says(strings.Repeat("\n", n-1)+"size", tooLong)
	}
	for _, s := range []string{"size", " ", "x", "size\nsize", "size\n ", "\n\nrun 1\\n", "\\n", "size\r", "\x00"} {
		says(s, tooLong)
	}
	for n := 3998; n <= 4000; n++ {
		says(strings.Repeat(" ", n-1)+"\n", "")
		says(strings.Repeat("x", n-1)+"\n", "what\n")
		says("size\n"+strings.Repeat(" ", n-10)+"\nfly\n", "size 0\nwhat\n")
		says("run 1"+strings.Repeat(" ", n-8)+"\\n\n", "> 1\\n\n")
	}
	for n := 4001; n <= 4003; n++ {
		says(strings.Repeat(" ", n-1)+"\n", tooLong)
		says(strings.Repeat("x", n-1)+"\n", tooLong)
		says("size\n"+strings.Repeat(" ", n-10)+"\nfly\n", tooLong)
		says("run 1"+strings.Repeat(" ", n-8)+"\\n\n", tooLong)
		says(strings.Repeat(" ", n), tooLong)
	}
	says(strings.Repeat(strings.Repeat("x", 99)+"\n", 40), strings.Repeat("what\n", 40))
	says(strings.Repeat(strings.Repeat("x", 99)+"\n", 39)+strings.Repeat("x", 100)+"\n", tooLong)
}

func TestLinesOfBlanks(t *testing.T) {
	script(t, []string{"", " ", "      ", ""})
	script(t, []string{"", "size", "  ", "", "size", " "}, "size 0", "size 0")
	script(t, []string{"\t", "\r", " \t", "\x00", " x"}, "what", "what", "what", "what", "what")
	script(t, []string{"run 1\\n", "", "   ", "size", "", "again"}, `> 1\n`, "size 2", `> 1\n`)
}

func TestWordsThatAreNone(t *testing.T) {
	for _, line := range []string{"fly", "Run 1", "RUN", "runs", "run1", "run\\n", "run\t1", "run", "filter", "from", "to", "filter.", "from\tjson", "fromjson", "to-json", "size2", "Size", "sizes", "siz", "\tsize", "again2", "Again", "ag", "ain", "what", "ok", "no", ">", "> 1", "json", ".", "size\r", "again\r", "size\x00", " size", " again", " run 1\\n", "  filter .a", " from yaml", " to yaml", "froma json", "too json", "\xff", "\\n", "help me", "size,", "run,1"} {
		// nothing is changed by it
		script(t, []string{line, "run 1\\n", line, "size", "again", line}, "what", `> 1\n`, "what", "size 2", `> 1\n`, "what")
	}
}

func TestSomethingBehindAgainAndSize(t *testing.T) {
	for _, line := range []string{"again x", "again ", "again  ", "again again", "again 1\\n", "size 1", "size ", "size  ", "size size", "size 0"} {
		script(t, []string{line, "run [1]\\n", line, "size", "again"}, "what", `> [1]\n`, "what", "size 4", `> [1]\n`)
	}
}

func TestFromAndTo(t *testing.T) {
	l := readAllOf(t, `{"b":[1,null],"a":"x y"}`, "-1", `"\\\n"`)
	eachPair(func(from, to rowKind) {
		in, out := impl.Escaped(from.joined(l)), to.joined(l)
		said := []string{"> " + impl.Escaped(out), "size " + strconv.Itoa(len(out)), "> " + impl.Escaped(out)}
		script(t, []string{"from " + from.name, "to " + to.name, "run " + in, "size", "again"}, append([]string{"ok", "ok"}, said...)...)
		script(t, []string{"to " + to.name, "from " + from.name, "run " + in, "size", "again"}, append([]string{"ok", "ok"}, said...)...)
		script(t, []string{"from pack", "to pack", "from " + from.name, "to " + to.name, "run " + in, "size", "again"}, append([]string{"ok", "ok", "ok", "ok"}, said...)...)
		for _, f := range []string{"", " ", "JSON", "Json", "jso", "jsonx", " " + from.name, from.name + " ", from.name + "\t", from.name + " x", "msgpack", "yml", "none", "1", "0", "json,cbor", "\xff", "json\x00"} {
			// what is no format leaves the formats as they were
			lines := []string{"from " + from.name, "to " + to.name, "from " + f, "to " + f, "run " + in, "size", "again"}
			script(t, lines, append([]string{"ok", "ok", "what", "what"}, said...)...)
		}
	})
}

func TestFilterLines(t *testing.T) {
	script(t, []string{"filter .[]|.+1", "run [1,2]\\n", "size", "again"}, "ok .[] | . + 1", `> 2\n3\n`, "size 4", `> 2\n3\n`)
	script(t, []string{"filter   ((.a))  ", "run {\"a\":[]}\\n"}, "ok .a", `> []\n`)
	script(t, []string{"filter {a:.,b:\"x\\ny\"}", "run 1\\n2\\n"}, `ok {a: ., b: "x\ny"}`, `> {"a":1,"b":"x\\ny"}\n{"a":2,"b":"x\\ny"}\n`)
	script(t, []string{"filter \"\x7f\\u0000\""}, `ok "\u007f\u0000"`)
	script(t, []string{"filter empty", "run 1\\n2\\n", "size", "again"}, "ok empty", "> ", "size 0", "> ")
	for _, line := range []string{"filter ", "filter  ", "filter a", "filter .a.b", "filter 1 < 2 < 3", "filter .a |", "filter \\n.", "filter .\t", "filter .\\n", "filter \xff", "filter ." + strings.Repeat(" ", 1000), "filter " + strings.Repeat("(", 900)} {
		// what is no filter leaves the filter as it was
		script(t, []string{line, "run [7]\\n", "filter .[0]", line, "run [7]\\n", "size"}, "no", `> [7]\n`, "ok .[0]", "no", `> 7\n`, "size 2")
	}
	script(t, []string{"filter ." + strings.Repeat(" ", 999), "run 1\\n"}, "ok .", `> 1\n`)
}

// The text of a filter may be longer than what it was read of; it is the filter all the same.
func TestFiltersOfLongTexts(t *testing.T) {
	long := strings.Repeat("\x7f", 60)
	filter := "\"" + long + "\",\"" + long + "\",\"" + long + "\""
	one := `"` + strings.Repeat(`\u007f`, 60) + `"`
	row := impl.Escaped(one + "\n" + one + "\n" + one + "\n")
	script(t, []string{"filter " + filter, "run 1\\n", "size", "again"}, "ok "+one+", "+one+", "+one, "> "+row, "size 1089", "> "+row)
}

func TestRunLines(t *testing.T) {
	script(t, []string{"run "}, "> ")
	script(t, []string{"run 1\\n", "run ", "size", "again"}, `> 1\n`, "> ", "size 0", "> ")
	script(t, []string{"run  1\\n", "run    [ 2 ] \\n", "run   "}, `> 1\n`, `> [2]\n`, "no 2")
	script(t, []string{`run "\\n\\\\"\n`, `run "a\nb"\n`, `run "\\u0041"\n`, `run \x091\x0d\n`}, `> "\\n\\\\"\n`, "no 2", `> "A"\n`, `> 1\n`)
	// a blank is a number in CBOR
	script(t, []string{"from cbor", "run  ", `run   \x01`, `run  \n`}, "ok", `> -1\n`, `> -1\n-1\n1\n`, `> -1\n10\n`)
	script(t, []string{"from pack", "to yaml", "run \\x81\\xa1a!"}, "ok", "ok", `> ---\na: 33\n`)
	// nothing is left by a run that says no
	for line, want := range map[string]string{
		"run 1": "no 2", "run ?\\n": "no 2", "run \\n": "no 2", "run 1\\n2": "no 2", "run x": "no 2", "run ---\\n1\\n": "no 2", "run " + strings.Repeat(`1\n`, 41): "no 2",
		"run \\": "no", "run \\q": "no", "run 1\\x0A": "no", "run 1\\x0a": "no", "run \\x31\\n": "no", "run 1\t\\n": "no", "run \xff": "no", "run 1\r": "no", "run \\x": "no", "run 1\\n\x7f": "no",
	} {
		script(t, []string{line, "size", "again", "run [1]\\n", line, "size", "again"}, want, "size 0", "> ", `> [1]\n`, want, "size 4", `> [1]\n`)
	}
}

func TestRunCodes(t *testing.T) {
	list41 := impl.JsonText(wideList(42)) + `\n`
	for _, r := range [][3]string{
		{".a", "1\\n", "no 4"},
		{".a", "{}\\n1\\n", "no 4"},
		{". + 1000000000000000", "1\\n", "no 5"},
		{".[]", list41, "no 5"},
		{".[]", strings.Repeat("[1,2,3]\\n", 14), "no 5"},
		{".[] | (1, 2, 3, 4, 5, 6) + (1, 2, 3, 4, 5, 6) | empty", list41[:1] + list41[3:], "no 6"},
		{".a", "1\\n?", "no 2"},
		{".a", "1\\n\\q", "no"},
	} {
		script(t, []string{"run 5\\n", "filter " + r[0], "run " + r[1], "size", "again"}, `> 5\n`, "ok "+r[0], r[2], "size 2", `> 5\n`)
	}
	// two nodes, and 81 for each part: 24 parts use 1946 of MaxFuel, 25 would use 2027
	const dear = ".[] | [(1, 2, 3, 4, 5, 6) + (1, 2, 3, 4, 5, 6)] | empty"
	script(t, []string{"filter " + dear, "run " + impl.JsonText(wideList(25)) + `\n`, "run " + impl.JsonText(wideList(26)) + `\n`}, "ok "+dear, "> ", "no 6")
}

func TestAgainLines(t *testing.T) {
	script(t, []string{"again", "size", "again"}, "> ", "size 0", "> ")
	for _, k := range rowKinds() {
		script(t, []string{"to " + k.name, "again", "size"}, "ok", "> ", "size 0")
	}
	// by . and not by the filter, from the second format and not from the first one
	script(t, []string{"to yaml", "filter .a", "run {\"a\":{\"a\":1}}\\n", "again", "again", "size"}, "ok", "ok .a", `> ---\na: 1\n`, `> ---\na: 1\n`, `> ---\na: 1\n`, "size 9")
	script(t, []string{"run 1\\n", "from cbor", "filter empty", "again", "size"}, `> 1\n`, "ok", "ok empty", `> 1\n`, "size 2")
	// what was said is in the format that was the second one then
	script(t, []string{"run 1\\n", "to yaml", "again", "size", "to json", "again", "size"}, `> 1\n`, "ok", "no 2", "size 2", "ok", `> 1\n`, "size 2")
	script(t, []string{"to pack", "run 1\\n10\\n", "to cbor", "again", "size", "again", "to json", "again", "to pack", "again"}, "ok", `> \x01\n`, "ok", `> \x01\n`, "size 2", `> \x01\n`, "ok", "no 2", "ok", `> \x01\n`)
	// said again it may be other bytes; what was said last stays
	script(t, []string{"to pack", "run \"\\\\u0018 \"\\n24\\n", "to cbor", "again", "size", "to pack", "again"}, "ok", `> \xa2\x18 \x18`, "ok", "no 2", "size 4", "ok", `> \xa2\x18 \x18`)
	script(t, []string{"to pack", "run 24\\n1\\n", "size", "to cbor", "again", "size", "again", "to pack", "again"}, "ok", `> \x18\x01`, "size 2", "ok", `> \x01`, "size 2", `> \x01`, "ok", `> \x18\x01`)
}

// listOfBytes is a list whose JSON text has n bytes, some 2000.
func listOfBytes(n int) string {
	s := "[" + strings.Repeat(`"`+strings.Repeat("a", 57)+`",`, 33)
	return s + `"` + strings.Repeat("b", n-len(s)-3) + `"]`
}

func TestAgainOfMoreThanMaxIn(t *testing.T) {
	for n := 1997; n <= 2000; n++ {
		in := listOfBytes(n) + `\n`
		for last, more := range map[string]int{"empty": 0, "10": 3} {
			f, out, size := "., ., "+last, in+in, 2*(n+1)+more
			if more > 0 {
				out += `10\n`
			}
			again := "> " + out
			if size > 4000 {
				again = "no 2"
			}
			script(t, []string{"filter " + f, "run " + in, "size", "again", "size"}, "ok "+f, "> "+out, "size "+strconv.Itoa(size), again, "size "+strconv.Itoa(size))
		}
	}
}

// A scriptMaker makes lines, most of which say something of what is there.
type scriptMaker struct {
	r      *rand.Rand
	from   int
	values [][]impl.VNode
}

var someScriptFilters = []string{".", ".[]", ".a", ".a?", ".[0]?, 1", "[.]", "length", "keys?", "empty", "., .", "select(.)", ". + .", "{a:.}", "a", "", "1 < 2 < 3", ".[]|.[]", ". // 0", "-1", "\"\x7f\"", "1000000000000000 + 1"}

func (m *scriptMaker) line() string {
	r := m.r
	names := []string{"json", "cbor", "pack", "yaml"}
	switch r.Intn(14) {
	case 0:
		m.from = r.Intn(4)
		return "from " + names[m.from]
	case 1, 2:
		return "to " + names[r.Intn(4)]
	case 3, 4:
		return "filter " + someScriptFilters[r.Intn(len(someScriptFilters))]
	case 5:
		return []string{"again", "size"}[r.Intn(2)]
	case 6:
		return []string{"", " ", "   ", "fly", "run", "from x", "to ", "size ", "again 1", " size", "filter", "run \\q", "run 1", "run ", "\xff", "from json ", "to  cbor", "run  ", "filter  . "}[r.Intn(19)]
	}
	s := ""
	for range r.Intn(3) {
		s += rowKinds()[m.from].loose(r, m.values[r.Intn(len(m.values))])
	}
	if r.Intn(10) == 0 {
		s = rowKinds()[m.from].spoil(r, s)
	}
	return "run " + impl.Escaped(s)
}

// someScripts are rows of lines that are scripts, not too long.
func someScripts(t *testing.T, seed int64, count int) [][]string {
	t.Helper()
	r := rand.New(rand.NewSource(seed))
	var values [][]impl.VNode
	for _, v := range append(inputs(t), dressedValues(seed, 100)...) {
		if len(impl.YamlText(v)) < 120 {
			values = append(values, v)
		}
	}
	var all [][]string
	for len(all) < count {
		m := scriptMaker{r, 0, values}
		var lines []string
		size := 0
		for range r.Intn(41) {
			line := m.line()
			if size += len(line) + 1; size > 4000 {
				break
			}
			lines = append(lines, line)
		}
		all = append(all, lines)
	}
	return all
}

func joinedLines(lines []string) string {
	s := ""
	for _, line := range lines {
		s += line + "\n"
	}
	return s
}

var scriptForm = regexp.MustCompile(`^(?:(from|to) (json|cbor|pack|yaml)|(filter|run) (.*)|(again)|(size)| *)$`)

// otherScript goes by the form of a line.
func otherScript(lines []string) string {
	formats := map[string]int64{"json": 1, "cbor": 2, "pack": 3, "yaml": 4}
	set := map[string]int64{"from": 1, "to": 1}
	filter, last, out := ".", "", ""
	told := func(s string, code int64) string {
		if code != 0 {
			return fmt.Sprintf("no %d\n", code)
		}
		return "> " + impl.Escaped(s) + "\n"
	}
	for _, line := range lines {
		m := scriptForm.FindStringSubmatch(line)
		switch {
		case m == nil:
			out += "what\n"
		case m[1] != "":
			set[m[1]] = formats[m[2]]
			out += "ok\n"
		case m[3] == "filter":
			if f, ok := otherFilter(m[4]); ok && impl.FilterOk(f) {
				filter = m[4]
				out += "ok " + otherFilterText(f, int64(len(f)-1)) + "\n"
			} else {
				out += "no\n"
			}
		case m[3] == "run":
			if input, ok := otherUnescaped(m[4]); !ok {
				out += "no\n"
			} else {
				s, code := otherTranscoded(set["from"], set["to"], filter, input, 2000)
				if code == 0 {
					last = s
				}
				out += told(s, code)
			}
		case m[5] != "":
			out += told(otherTranscoded(set["to"], set["to"], ".", last, 2000))
		case m[6] != "":
			out += fmt.Sprintf("size %d\n", len(last))
		}
	}
	return out
}

func TestScriptsAsOtherwise(t *testing.T) {
	heads := map[string]int{}
	for _, lines := range someScripts(t, 131, 1500) {
		s := joinedLines(lines)
		got, want := impl.RunScript(s), otherScript(lines)
		if got != want {
			t.Fatalf("%q says %q, otherwise %q", s, got, want)
		}
		if impl.RunScript(s) != got {
			t.Fatalf("another answer: %q", s)
		}
		for _, line := range strings.Split(got, "\n") {
			head, _, blank := strings.Cut(line, " ")
			if head == "no" && blank {
				head = line
			}
			heads[head]++
		}
	}
	for _, head := range []string{">", "ok", "no", "no 2", "no 4", "no 5", "size", "what"} {
		if heads[head] < 50 {
			t.Error(head, heads)
		}
	}
}

// What was said stays said, whatever stands behind.
func TestMoreLinesBehindAScript(t *testing.T) {
	for _, lines := range someScripts(t, 132, 300) {
		whole := impl.RunScript(joinedLines(lines))
		ahead := ""
		for n := range len(lines) + 1 {
			said := impl.RunScript(joinedLines(lines[:n]))
			if !strings.HasPrefix(said, ahead) || !strings.HasPrefix(whole, said) {
				t.Fatalf("%q: %q, %q, %q", lines[:n], ahead, said, whole)
			}
			// a line says one line, or none when it is of blanks
			more := 1
			if n == 0 || strings.Trim(lines[n-1], " ") == "" {
				more = 0
			}
			if strings.Count(said, "\n")-strings.Count(ahead, "\n") != more {
				t.Fatalf("%q says %q behind %q", lines[:n], said, ahead)
			}
			ahead = said
		}
	}
}

// Lines that ask, or say nothing, change nothing of what the others say.
func TestLinesThatAskChangeNothing(t *testing.T) {
	for _, asks := range [][]string{{"size"}, {"again"}, {"size", "again"}, {"again", "size"}, {"fly"}, {"", "  "}, {"again", "again 1", "from x", "to", "run \\q", "filter a", "size"}} {
		for _, lines := range someScripts(t, 133, 200) {
			var all []string
			places := map[int]bool{}
			count := 0
			add := func(line string, own bool) {
				all = append(all, line)
				if strings.Trim(line, " ") != "" {
					places[count] = own
					count++
				}
			}
			lines = lines[:min(len(lines), 40/(1+len(asks)))]
			for _, line := range lines {
				add(line, true)
				for _, ask := range asks {
					add(ask, false)
				}
			}
			s := joinedLines(all)
			if len(s) > 4000 {
				continue
			}
			own := ""
			for i, line := range strings.SplitAfter(impl.RunScript(s), "\n") {
				if places[i] {
					own += line
				}
			}
			if want := impl.RunScript(joinedLines(lines)); own != want {
				t.Fatalf("%q says %q, without %q it says %q", s, own, asks, want)
			}
		}
	}
}

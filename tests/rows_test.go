package tests

import (
	"math"
	"math/rand"
	"regexp"
	"slices"
	"strings"
	"testing"

	"loop.example/g00345/impl"
)

// A rowKind is one of the four formats: how a value stands in a row of it, as
// it is written and as it may be, another reader of rows, and what spoils one.
type rowKind struct {
	name   string
	format int64
	write  func(v []impl.VNode) string
	loose  func(r *rand.Rand, v []impl.VNode) string
	other  func(s string) ([][]impl.VNode, bool)
	spoil  func(r *rand.Rand, s string) string
}

func rowKinds() []rowKind {
	return []rowKind{
		{"json", 1, func(v []impl.VNode) string { return impl.JsonText(v) + "\n" }, looseJsonLine, otherJsonRow, mutated},
		{"cbor", 2, impl.CborText, looseCbor, otherBytesRow(otherCbor), changed},
		{"pack", 3, impl.PackText, loosePack, otherBytesRow(otherPack), changed},
		{"yaml", 4, func(v []impl.VNode) string { return "---\n" + impl.YamlText(v) }, looseYamlLines, otherYamlRow, changedLines},
	}
}

// noFormats are numbers of none.
var noFormats = []int64{0, 5, -1, 6, -4, 257, math.MinInt64, math.MaxInt64}

func looseJsonLine(r *rand.Rand, v []impl.VNode) string {
	blanks := func() string { return []string{"", " ", "\t", "\r", " \r\t "}[r.Intn(5)] }
	s := impl.JsonText(v)
	if v[len(v)-1].Kind == impl.VlText {
		s = `"` + looseQuotes(r, v[len(v)-1].S) + `"`
	}
	return blanks() + s + blanks() + "\n"
}

func looseYamlLines(r *rand.Rand, v []impl.VNode) string { return "---\n" + looseLines(r, v, "") }

func otherJsonRow(s string) ([][]impl.VNode, bool) {
	all := strings.SplitAfter(s, "\n")
	if all[len(all)-1] != "" {
		return nil, false
	}
	return eachOf(all[:len(all)-1], func(line string) ([]impl.VNode, bool) {
		v, ok := byLibrary(strings.TrimSuffix(line, "\n"))
		return v, ok && impl.ValueOk(v)
	})
}

func otherBytesRow(read func([]byte) ([]impl.VNode, []byte, bool)) func(string) ([][]impl.VNode, bool) {
	return func(s string) ([][]impl.VNode, bool) {
		var all [][]impl.VNode
		for b := []byte(s); len(b) > 0; {
			v, rest, ok := read(b)
			if !ok {
				return nil, false
			}
			all, b = append(all, v), rest
		}
		return all, true
	}
}

var yamlBegins = regexp.MustCompile(`(?m)^---\n`)

func otherYamlRow(s string) ([][]impl.VNode, bool) {
	if s == "" {
		return nil, true
	}
	all := yamlBegins.Split(s, -1)
	if all[0] != "" || len(all) == 1 {
		return nil, false
	}
	return eachOf(all[1:], otherYaml)
}

func eachOf(all []string, read func(string) ([]impl.VNode, bool)) ([][]impl.VNode, bool) {
	var l [][]impl.VNode
	for _, s := range all {
		v, ok := read(s)
		if !ok {
			return nil, false
		}
		l = append(l, v)
	}
	return l, true
}

// otherAll is what ReadAll must answer.
func (k rowKind) otherAll(s string) ([][]impl.VNode, bool) {
	if len(s) > 4000 {
		return nil, false
	}
	l, ok := k.other(s)
	if !ok || len(l) > 40 {
		return nil, false
	}
	return l, true
}

func (k rowKind) joined(l [][]impl.VNode) string {
	s := ""
	for _, v := range l {
		s += k.write(v)
	}
	return s
}

func (k rowKind) refuses(t *testing.T, s string) {
	t.Helper()
	if l, ok := impl.ReadAll(k.format, s); ok || len(l) != 0 {
		t.Errorf("%s: %q is read: %v %v", k.name, s, l, ok)
	}
}

func (k rowKind) reads(t *testing.T, s string, want ...[]impl.VNode) {
	t.Helper()
	l, ok := impl.ReadAll(k.format, s)
	if !ok || !sameAll(l, want) {
		t.Errorf("%s: %q: %v %v, wanted %v", k.name, s, l, ok, want)
	}
}

func (k rowKind) writes(t *testing.T, l [][]impl.VNode, want string) {
	t.Helper()
	if s, ok := impl.WrittenAll(k.format, l); !ok || s != want {
		t.Errorf("%s: %v is written %q %v, wanted %q", k.name, l, s, ok, want)
	}
}

func (k rowKind) writesNot(t *testing.T, l [][]impl.VNode) {
	t.Helper()
	if s, ok := impl.WrittenAll(k.format, l); ok || s != "" {
		t.Errorf("%s: %v is written %q %v", k.name, l, s, ok)
	}
}

// readAllOf reads JSON texts.
func readAllOf(t *testing.T, texts ...string) [][]impl.VNode {
	t.Helper()
	var l [][]impl.VNode
	for _, s := range texts {
		l = append(l, read(t, s))
	}
	return l
}

func TestTranscodingNumbers(t *testing.T) {
	if impl.FmJson != 1 || impl.FmCbor != 2 || impl.FmPack != 3 || impl.FmYaml != 4 || impl.MaxIn != 4000 {
		t.Error("other formats or limits")
	}
	if impl.TcDone != 0 || impl.TcFormat != 1 || impl.TcInput != 2 || impl.TcFilter != 3 || impl.TcKind != 4 || impl.TcLimit != 5 || impl.TcFuel != 6 {
		t.Error("other codes")
	}
}

func TestRowsOfEachFormat(t *testing.T) {
	l := readAllOf(t, "null", "true", "-1", `"a b"`, `"---"`, `"\n"`, "[]", "{}", `[1,{"b":"x"}]`, `{"bb":[],"c":-300}`)
	for i, want := range []string{
		"null\ntrue\n-1\n\"a b\"\n\"---\"\n\"\\n\"\n[]\n{}\n[1,{\"b\":\"x\"}]\n{\"bb\":[],\"c\":-300}\n",
		"\xf6\xf5\x20\x63a b\x63---\x61\n\x80\xa0\x82\x01\xa1\x61b\x61x\xa2\x61c\x39\x01\x2b\x62bb\x80",
		"\xc0\xc3\xff\xa3a b\xa3---\xa1\n\x90\x80\x92\x01\x81\xa1b\xa1x\x82\xa2bb\x90\xa1c\xd1\xfe\xd4",
		"---\nnull\n---\ntrue\n---\n-1\n---\na b\n---\n\"---\"\n---\n\"\\n\"\n---\n[]\n---\n{}\n---\n- 1\n-\n  b: x\n---\nbb: []\nc: -300\n",
	} {
		k := rowKinds()[i]
		k.writes(t, l, want)
		k.reads(t, want, l...)
		for _, v := range l {
			k.writes(t, [][]impl.VNode{v}, k.write(v))
			k.reads(t, k.write(v), v)
			k.reads(t, k.write(v)+k.write(v), v, v)
		}
	}
}

func TestRowsOfHowMany(t *testing.T) {
	for _, k := range rowKinds() {
		for _, n := range []int{0, 1, 2, 3, 39, 40, 41, 42, 80, 81, 500} {
			for _, v := range [][]impl.VNode{null(), num(7), text("x"), read(t, `{"a":[1]}`)} {
				l := slices.Repeat([][]impl.VNode{v}, n)
				s := k.joined(l)
				if n > 40 {
					k.writesNot(t, l)
					k.refuses(t, s)
					continue
				}
				k.writes(t, l, s)
				k.reads(t, s, l...)
			}
		}
		k.writes(t, nil, "")
		k.writes(t, [][]impl.VNode{}, "")
	}
}

func TestRowsOfNoFormat(t *testing.T) {
	for _, format := range noFormats {
		k := rowKind{name: "none", format: format}
		for _, l := range [][][]impl.VNode{nil, {null()}, {null(), num(1)}, {nil}, slices.Repeat([][]impl.VNode{null()}, 41)} {
			k.writesNot(t, l)
		}
		for _, s := range []string{"", "1\n", "\x01", "---\n1\n", "?", strings.Repeat("\x01", 41), strings.Repeat(" ", 4001)} {
			k.refuses(t, s)
		}
	}
}

func TestRowsWithAWrongValue(t *testing.T) {
	right := readAllOf(t, "1", `"a"`, "[2]")
	for _, k := range rowKinds() {
		for _, wrong := range wrongValues() {
			k.writesNot(t, [][]impl.VNode{wrong})
			for at := range len(right) + 1 {
				k.writesNot(t, slices.Insert(slices.Clone(right), at, wrong))
			}
			k.writesNot(t, append(slices.Repeat(right, 13), wrong))
			k.writesNot(t, slices.Repeat([][]impl.VNode{wrong}, 41))
		}
	}
}

// rowOfBytes is a row of several values that has n bytes, some 4000.
func (k rowKind) rowOfBytes(t *testing.T, n int) [][]impl.VNode {
	t.Helper()
	long := slices.Repeat([][]impl.VNode{text(strings.Repeat("a", 60))}, 20)
	l := [][]impl.VNode{list(t, long...), num(1), list(t, long...)}
	for more := range 25 {
		some := append(slices.Clone(l), list(t, slices.Repeat(long[:1], more)...))
		if len(k.joined(some)) < n-100 {
			continue
		}
		for last := range 61 {
			whole := append(slices.Clone(some), text(strings.Repeat("b", last)))
			// no text has just one byte more than one of 23 bytes in CBOR, or of 31 in MessagePack
			for range 3 {
				if whole = append(whole, null()); len(k.joined(whole)) == n {
					return whole
				}
			}
		}
	}
	t.Fatal(k.name, n)
	return nil
}

func TestRowsOfMaxIn(t *testing.T) {
	for _, k := range rowKinds() {
		for n := 3998; n <= 4000; n++ {
			l := k.rowOfBytes(t, n)
			k.writes(t, l, k.joined(l))
			k.reads(t, k.joined(l), l...)
		}
		for n := 4001; n <= 4003; n++ {
			l := k.rowOfBytes(t, n)
			k.writes(t, l, k.joined(l))
			k.refuses(t, k.joined(l))
		}
		k.refuses(t, strings.Repeat(k.write(num(1)), 5000))
		k.refuses(t, strings.Repeat("\x00", 1000000))
	}
	json, yaml := rowKinds()[0], rowKinds()[3]
	json.reads(t, "1\n2"+strings.Repeat(" ", 3996)+"\n", num(1), num(2))
	json.refuses(t, "1\n2"+strings.Repeat(" ", 3997)+"\n")
	yaml.reads(t, "---\n1\n#"+strings.Repeat("x", 3992)+"\n", num(1))
	yaml.refuses(t, "---\n1\n#"+strings.Repeat("x", 3993)+"\n")
}

func TestJsonLines(t *testing.T) {
	k := rowKinds()[0]
	k.reads(t, "")
	k.reads(t, " 1\t\n\r2 \n", num(1), num(2))
	k.reads(t, "\t[ 1 ,\r2 ]\r\nnull\r\n", read(t, "[1,2]"), null())
	k.reads(t, `"a\nb"`+"\n"+`"\u000a"`+"\n", text("a\nb"), text("\n"))
	k.reads(t, `"\"" `+"\n"+`"\\"`+"\n"+`"\/\u007F`+"\x7f\"\n", text(`"`), text(`\`), text("/\x7f\x7f"))
	k.reads(t, `{ "b" : "\t", "a" : -0 }`+"\n", read(t, `{"a":0,"b":"\t"}`))
	k.reads(t, "\"---\"\n", text("---"))
	for _, s := range []string{
		"\n", "\n\n", " \n", "\r\n", "1\n\n", "\n1\n", "1\n\n2\n", "1\n \n2\n", // empty
		"1", "1\n2", "1\n ", " ", "null", "[]\n[]", "1\n\r", "\"a\"", "1\n\x00", // not ended
		"\"a\nb\"\n", "\"a\n", "\"\n\"\n", "\"a\\\nb\"\n", "\"a\\", "\"a\\\n", "\"\\q\"\n", "\"\\u00\n0a\"\n", "\"\t\"\n", // in quotes
		"[1,\n2]\n", "{\n}\n", "{\"a\":\n1}\n", "[\n", "1 2\n", "1,\n2\n", "[1]]\n", "1;\n", "1 #\n", "# a\n", // over two lines, or more than one
		"---\n1\n", "\x00\n", "\xff\n", "1\x00\n", "1\f\n", "1\v\n", "01\n", "1.0\n", "nul\n", "True\n", "~\n", "a\n", "{\"a\":1,\"a\":2}\n", "1000000000000001\n",
	} {
		k.refuses(t, s)
		k.refuses(t, "1\n"+s)
		if strings.HasSuffix(s, "\n") {
			k.refuses(t, s+"1\n")
		}
	}
}

func TestBytesThatAreCut(t *testing.T) {
	for _, k := range rowKinds()[1:3] {
		l := readAllOf(t, "1", `"abc"`, "[1,[2],-300]", `{"a":{"b":null},"cc":true}`, "1000000", "[]", "-1000000000000000", "false")
		s := k.joined(l)
		ends := map[int]int{}
		for n := range len(l) + 1 {
			ends[len(k.joined(l[:n]))] = n
		}
		for cut := range len(s) + 1 {
			if n, ok := ends[cut]; ok || cut == 0 {
				k.reads(t, s[:cut], l[:n]...)
			} else {
				k.refuses(t, s[:cut])
			}
		}
	}
}

func TestBytesBehindTheLastValue(t *testing.T) {
	for i, none := range [][]string{
		{"\xff", "\x1c", "\x40", "\xf7", "\xc0\x01", "\xa1\x01\x02", "\xa2\x61a\x01\x61a\x02", "\x61\x80", "\x9f\xff", "\x1b\xff\xff\xff\xff\xff\xff\xff\xff"},
		{"\xc1", "\xc4\x00", "\xca\x00\x00\x00\x00", "\x81\x01\x02", "\x82\xa1a\x01\xa1a\x02", "\xa1\x80", "\xd4\x00\x00", "\xc7\x00\x00", "\xcf\xff\xff\xff\xff\xff\xff\xff\xff"},
	} {
		k := rowKinds()[1+i]
		for _, s := range none {
			k.refuses(t, s)
			k.refuses(t, "\x01"+s)
			k.refuses(t, s+"\x01")
			k.refuses(t, "\x01\x02"+s+"\x03")
			k.refuses(t, strings.Repeat("\x01", 40)+s)
		}
		k.reads(t, strings.Repeat("\x01", 40), slices.Repeat([][]impl.VNode{num(1)}, 40)...)
		// what JSON and YAML have between two values says something here
		k.reads(t, "\x01\n\x02", num(1), num(10), num(2))
	}
}

func TestYamlRows(t *testing.T) {
	k := rowKinds()[3]
	k.reads(t, "")
	k.reads(t, "---\n1\n", num(1))
	k.reads(t, "---\n1\n---\na: ~\n---\n- x\n", num(1), read(t, `{"a":null}`), read(t, `["x"]`))
	k.reads(t, "---\n# a\n\n1\n   \n # b\n---\n#---\n-\n\n  b: 1\n# c\n  a: 2\n\n\n# ---\n---\n\n~\n  #\n", num(1), read(t, `[{"a":2,"b":1}]`), null())
	k.reads(t, "---\n\"---\"\n---\n- \"---\"\n---\n\"---\": a---\n", text("---"), read(t, `["---"]`), read(t, `{"---":"a---"}`))
	k.reads(t, "---\na---\n---\na -\n", text("a---"), text("a -"))
	for _, s := range []string{
		"1\n", "a: 1\n- 2\n", "\n", "# a\n", "  \n", // no line ---
		"1\n---\n2\n", "\n---\n1\n", "# a\n---\n1\n", "  \n---\n1\n", " # a\n\n---\n1\n", // lines ahead
	} {
		k.refuses(t, s)
	}
	for _, s := range []string{
		"---\n", "---\n---\n", "---\n---\n1\n", "---\n1\n---\n", "---\n1\n---\n---\n2\n", "---\n\n---\n1\n", "---\n# a\n---\n1\n", "---\n1\n---\n # a\n \n", // nothing behind one
		"--- \n1\n", "---\n1\n--- \n2\n", " ---\n1\n", "---\n1\n ---\n2\n", "----\n1\n", "---\n1\n----\n2\n", "---x\n1\n", "---\n1\n---x\n2\n", "---#\n1\n", "--- # a\n1\n", "---\n1\n--- # a\n2\n", "--- 1\n", "---1\n", "--\n1\n", "---\n1\n--\n2\n", "-\n", "---\t\n1\n", "---\r\n1\n", "---\n1\n---\r\n2\n", "---\n1\n...\n", "\"---\"\n1\n", "---\x00\n1\n", // not just ---
		"---", "---\n1", "---\n1\n---", "---\n1\n---\n2", "---\n1\n#", "---\n1\n ", "-", "--", "1", // not ended
		"---\n1\n2\n", "---\n\"a\n---\nb\"\n", "---\na:\n---\n  b: 1\n", "---\n-\n---\n", "---\n [x\n", "---\n[1]\n", "---\n1\r\n", "---\n1\n---\n? a\n", "---\n1\x00\n", "---\n\xff\n",
	} {
		k.refuses(t, s)
		k.refuses(t, "---\n1\n"+s)
	}
}

// someRows are rows of up to 40 values, most of which have few.
func someRows(seed int64, count int) [][][]impl.VNode {
	r := rand.New(rand.NewSource(seed))
	values := append(dressedValues(seed, 400), someValues(seed+1, 200)...)
	big, _ := impl.ListOf(slices.Repeat([][]impl.VNode{text(strings.Repeat("x", 20))}, 79))
	values = append(values, slices.Repeat([][]impl.VNode{big, deepList(8)}, 60)...)
	var rows [][][]impl.VNode
	for len(rows) < count {
		var l [][]impl.VNode
		for range []int{r.Intn(4), r.Intn(4), r.Intn(10), r.Intn(41)}[len(rows)%4] {
			l = append(l, values[r.Intn(len(values))])
		}
		rows = append(rows, l)
	}
	return rows
}

func TestRowsComeBack(t *testing.T) {
	for _, k := range rowKinds() {
		back, long := 0, 0
		for _, l := range someRows(110, 1200) {
			s := k.joined(l)
			k.writes(t, l, s)
			if len(s) > 4000 {
				k.refuses(t, s)
				long++
				continue
			}
			k.reads(t, s, l...)
			back++
			if t.Failed() {
				t.FailNow()
			}
		}
		if back < 600 || long < 20 {
			t.Error(k.name, back, long)
		}
	}
}

func TestLooseRowsComeBack(t *testing.T) {
	r := rand.New(rand.NewSource(111))
	for _, k := range rowKinds() {
		back := 0
		for _, l := range someRows(112, 1000) {
			s := ""
			for _, v := range l {
				s += k.loose(r, v)
			}
			if len(s) > 4000 {
				k.refuses(t, s)
				continue
			}
			k.reads(t, s, l...)
			got, _ := impl.ReadAll(k.format, s)
			again, _ := impl.WrittenAll(k.format, got)
			if len(again) <= 4000 {
				back++
				k.reads(t, again, got...)
				k.writes(t, got, again)
			}
			if t.Failed() {
				t.FailNow()
			}
		}
		if back < 500 {
			t.Error(k.name, back)
		}
	}
}

func TestRowsReadAsTheOtherReaderReads(t *testing.T) {
	r := rand.New(rand.NewSource(113))
	for _, k := range rowKinds() {
		some, refused := 0, 0
		for _, l := range someRows(114, 2000) {
			s := ""
			for _, v := range l[:min(len(l), 6)] {
				s += k.loose(r, v)
			}
			for range 6 {
				spoilt := k.spoil(r, s)
				got, ok := impl.ReadAll(k.format, spoilt)
				want, fine := k.otherAll(spoilt)
				if ok != fine || !sameAll(got, want) {
					t.Fatalf("%s: %q: %v %v, the other one: %v %v", k.name, spoilt, got, ok, want, fine)
				}
				if !ok {
					refused++
				} else if len(got) > 0 {
					some++
				}
			}
		}
		if some < 400 || refused < 2000 {
			t.Error(k.name, some, refused)
		}
	}
}

func TestRowArgumentsStay(t *testing.T) {
	for _, k := range rowKinds() {
		rows := append(someRows(115, 200), slices.Repeat([][]impl.VNode{num(1)}, 41))
		for _, wrong := range wrongValues() {
			rows = append(rows, [][]impl.VNode{num(1), wrong, num(2)})
		}
		for _, l := range rows {
			a := make([][]impl.VNode, 0, len(l)+2)
			for _, v := range l {
				a = append(a, roomy(v))
			}
			room := a[:len(l)+2][len(l):]
			room[0], room[1] = num(mark), num(mark)
			s, ok := impl.WrittenAll(k.format, a)
			again, fine := impl.WrittenAll(k.format, a)
			if s != again || ok != fine {
				t.Fatal(k.name, "another answer", l)
			}
			if len(room) != 2 || !same(room[0], num(mark)) || !same(room[1], num(mark)) || !sameAll(a, l) {
				t.Fatal(k.name, "an argument was written", l)
			}
			for i, v := range a {
				if !untouched(v, l[i]) {
					t.Fatal(k.name, "an argument was written", l)
				}
			}
			rowsShareNothing(t, k, s)
		}
	}
}

// rowsShareNothing reads s again when what was read of it has been written over.
func rowsShareNothing(t *testing.T, k rowKind, s string) {
	t.Helper()
	first, ok := impl.ReadAll(k.format, s)
	second, fine := impl.ReadAll(k.format, s)
	if ok != fine || !sameAll(first, second) {
		t.Fatalf("%s: another answer: %q", k.name, s)
	}
	if shared(append(slices.Clone(first), second...)...) {
		t.Fatalf("%s: lists of answers share memory: %q", k.name, s)
	}
	for i := range first[:cap(first)] {
		first[:cap(first)][i] = nil
	}
	if slices.ContainsFunc(second, func(v []impl.VNode) bool { return len(v) == 0 }) {
		t.Fatalf("%s: answers share memory: %q", k.name, s)
	}
	want, _ := k.otherAll(s)
	if third, _ := impl.ReadAll(k.format, s); !sameAll(third, want) {
		t.Fatalf("%s: something was kept: %q", k.name, s)
	}
}

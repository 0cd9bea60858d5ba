package tests

import (
	"encoding/json"
	"math/rand"
	"regexp"
	"slices"
	"strconv"
	"strings"
	"testing"

	"loop.example/g00345/impl"
)

func readLines(t *testing.T, s string) []impl.VNode {
	t.Helper()
	v, ok := impl.ReadYaml(s)
	if !ok {
		t.Fatalf("not read: %q", s)
	}
	return v
}

func refusesLines(t *testing.T, s string) {
	t.Helper()
	if v, ok := impl.ReadYaml(s); ok || len(v) != 0 {
		t.Errorf("read: %q: %v %v", s, v, ok)
	}
}

func TestPlain(t *testing.T) {
	for _, s := range []string{
		"a", "z", "A", "Z", "_", "_1", "a1", "a-", "a.", "a/", "a_", "a  b", "a - b", "a-b/c.d e_1", "x.", "no", "yes", "on",
		"nul", "nulls", "nnull", "null_", "null null", "tru", "truer", "_true", "fals", "falsely", "true false", "n", "t", "f", "None", "inf",
		strings.Repeat("a", 59), strings.Repeat("a", 60), "a" + strings.Repeat(" ", 58) + "b",
	} {
		if !impl.PlainOk(s) {
			t.Errorf("not plain: %q", s)
		}
	}
	for _, s := range []string{
		"", " ", "  ", " a", "a ", "a  ", "0", "9", "1a", "-", "-a", ".", ".a", "/", "/a", "- a", "~", "-1", "---", "a:", "a: b", "a:b", ":", "#", "a #b", "a#",
		"\"", "\"a\"", "a\"", "'a'", "a'", "[]", "{}", "a,b", "a[0]", "a{", "a\\", "a\tb", "\ta", "a\t", "a\n", "\na", "a\nb", "a\r", "a\x00", "a\x1f", "a\x7f", "a\x80", "a\xff", "\u00e9", "a\u00e9", "a\u00a0b", "fal\u017fe",
		"null", "true", "false", "Null", "True", "False", "NULL", "TRUE", "FALSE", "nULL", "tRuE", "fALSe", "nuLl", "trUe", "falsE",
		strings.Repeat("a", 61), strings.Repeat("a", 62), "a" + strings.Repeat(" ", 59) + "b", strings.Repeat("a", 5000),
	} {
		if impl.PlainOk(s) {
			t.Errorf("plain: %q", s)
		}
	}
}

func TestEachByteOfAPlainText(t *testing.T) {
	const begins = "abcdefghijklmnopqrstuvwxyzABCDEFGHIJKLMNOPQRSTUVWXYZ_"
	for c := range 256 {
		raw := string([]byte{byte(c)})
		first := strings.Contains(begins, raw)
		inner := first || strings.Contains("0123456789-./ ", raw)
		if impl.PlainOk(raw) != first || impl.PlainOk(raw+"x") != first {
			t.Error("first", c)
		}
		if impl.PlainOk("x"+raw+"x") != inner {
			t.Error("inside", c)
		}
		if impl.PlainOk("x"+raw) != (inner && c != ' ') {
			t.Error("last", c)
		}
	}
}

func TestYamlLines(t *testing.T) {
	for s, want := range map[string]string{
		"null":                         "null\n",
		"false":                        "false\n",
		"true":                         "true\n",
		"0":                            "0\n",
		"-1":                           "-1\n",
		"1000000000000000":             "1000000000000000\n",
		"-1000000000000000":            "-1000000000000000\n",
		`"a"`:                          "a\n",
		`"a-b/c.d e_1"`:                "a-b/c.d e_1\n",
		`""`:                           "\"\"\n",
		`" a"`:                         "\" a\"\n",
		`"a "`:                         "\"a \"\n",
		`"a: b"`:                       "\"a: b\"\n",
		`"a:"`:                         "\"a:\"\n",
		`"a #b"`:                       "\"a #b\"\n",
		`"#"`:                          "\"#\"\n",
		`"a\"b"`:                       "\"a\\\"b\"\n",
		`"a\u0000\n\t\u001f\u007f\\"`:  "\"a\\u0000\\n\\t\\u001f\\u007f\\\\\"\n",
		`"null"`:                       "\"null\"\n",
		`"Null"`:                       "\"Null\"\n",
		`"TRUE"`:                       "\"TRUE\"\n",
		`"fAlse"`:                      "\"fAlse\"\n",
		`"nulls"`:                      "nulls\n",
		`"~"`:                          "\"~\"\n",
		`"-"`:                          "\"-\"\n",
		`"- a"`:                        "\"- a\"\n",
		`"-1"`:                         "\"-1\"\n",
		`"0"`:                          "\"0\"\n",
		`"[]"`:                         "\"[]\"\n",
		`"{}"`:                         "\"{}\"\n",
		`"---"`:                        "\"---\"\n",
		"[]":                           "[]\n",
		"{}":                           "{}\n",
		"[1]":                          "- 1\n",
		"[-1,null,true]":               "- -1\n- null\n- true\n",
		"[[],{}]":                      "- []\n- {}\n",
		"[[1]]":                        "-\n  - 1\n",
		"[[[]]]":                       "-\n  - []\n",
		"[[1,2],3,[4]]":                "-\n  - 1\n  - 2\n- 3\n-\n  - 4\n",
		`[{"a":1,"b":2},{"c":3}]`:      "-\n  a: 1\n  b: 2\n-\n  c: 3\n",
		`{"a":1}`:                      "a: 1\n",
		`{"a":[],"b":{}}`:              "a: []\nb: {}\n",
		`{"a":[1,2],"b":3}`:            "a:\n  - 1\n  - 2\nb: 3\n",
		`{"a":{"b":{"c":"d"}}}`:        "a:\n  b:\n    c: d\n",
		`{"b":1,"a":2,"B":3,"":4}`:     "\"\": 4\nB: 3\na: 2\nb: 1\n",
		`{"null":1,"a b":2,"1":3}`:     "\"1\": 3\na b: 2\n\"null\": 1\n",
		`{"a:":"b:","-":"-","#":"#"}`:  "\"#\": \"#\"\n\"-\": \"-\"\n\"a:\": \"b:\"\n",
		`{"~":[{"True":["x y"," "]}]}`: "\"~\":\n  -\n    \"True\":\n      - x y\n      - \" \"\n",
		`{"a\n":{"\"":[null]}}`:        "\"a\\n\":\n  \"\\\"\":\n    - null\n",
	} {
		v := read(t, s)
		if got := impl.YamlText(v); got != want {
			t.Errorf("%s: %q, wanted %q", s, got, want)
		}
		if w := readLines(t, want); !same(v, w) {
			t.Errorf("%q: %v", want, w)
		}
	}
	for _, n := range []int{1, 59, 60} {
		plain := strings.Repeat("p", n)
		if s := impl.YamlText(mapped(t, []string{plain}, text(plain))); s != plain+": "+plain+"\n" {
			t.Errorf("%q", s)
		}
	}
	for name, v := range wrongValues() {
		if s := impl.YamlText(v); s != "" {
			t.Errorf("%s: %q", name, s)
		}
	}
}

// nested answers the lines of a whole, the one head in the other, with the last part beside the innermost.
func nested(head string, count int, last string) string {
	s := ""
	for i := range count - 1 {
		s += strings.Repeat("  ", i) + head + "\n"
	}
	return s + strings.Repeat("  ", count-1) + head + " " + last + "\n"
}

func TestDeepLines(t *testing.T) {
	for _, head := range []string{"-", "a:", "\"a\":"} {
		v := readLines(t, nested(head, 7, "1"))
		if len(v) != 8 || v[0].N != 1 {
			t.Error(v)
		}
		if again := readLines(t, impl.YamlText(v)); !same(v, again) {
			t.Error(v, again)
		}
		refusesLines(t, nested(head, 8, "1"))
		refusesLines(t, nested(head, 9, "[]"))
		refusesLines(t, nested(head, 50, "1"))
	}
	if v := readLines(t, nested("-", 7, "[]")); !same(v, deepList(8)) || impl.YamlText(v) != nested("-", 7, "[]") {
		t.Error(v)
	}
	eight := "a:\n  -\n    b:\n      -\n        c:\n          -\n            d: {}\n"
	if v := readLines(t, eight); impl.JsonText(v) != `{"a":[{"b":[{"c":[{"d":{}}]}]}]}` || impl.YamlText(v) != eight {
		t.Error(v)
	}
	many := strings.Repeat("- 0\n", 79)
	if v := readLines(t, many); len(v) != 80 || impl.YamlText(v) != many {
		t.Error(v)
	}
	refusesLines(t, many+"- 0\n")
	refusesLines(t, strings.Repeat("- 0\n", 1000))
}

func TestReadYaml(t *testing.T) {
	sixty := strings.Repeat("a", 60)
	for s, want := range map[string]string{
		"~\n":                                `null`,
		"null\n":                             `null`,
		"- ~\n":                              `[null]`,
		"a: ~\n":                             `{"a":null}`,
		"true\n":                             `true`,
		"0\n":                                `0`,
		"- -1\n":                             `[-1]`,
		"\"a\"\n":                            `"a"`,
		"\"null\"\n":                         `"null"`,
		"\"~\"\n":                            `"~"`,
		"\"\\u0041\\u007f\\u007F\\/\x7f\"\n": `"A\u007f\u007f/\u007f"`,
		"\"a: b\"\n":                         `"a: b"`,
		"\"a\": \"b\"\n":                     `{"a":"b"}`,
		"\"\\u0061\": 1\n":                   `{"a":1}`,
		"\"a: 1\": 2\n":                      `{"a: 1":2}`,
		"\"\\\": \": 2\n":                    `{"\": ":2}`,
		"\":\": 2\n":                         `{":":2}`,
		"\"a\":\n  - 1\n":                    `{"a":[1]}`,
		"\"\": 1\n":                          `{"":1}`,
		"\"- 1\"\n":                          `"- 1"`,
		"\"-\": 1\n":                         `{"-":1}`,
		"\"#\": 1\n":                         `{"#":1}`,
		"b: 1\na: 2\n":                       `{"a":2,"b":1}`,
		"c: 1\n\"a\": 2\nb:\n  z: 1\n  y: 2\n\"\": 3\nA: 4\n": `{"":3,"A":4,"a":2,"b":{"y":2,"z":1},"c":1}`,
		"nulls: 1\ntrue_: 2\n":                                `{"nulls":1,"true_":2}`,
		"a b c: 1\n":                                          `{"a b c":1}`,
		"a-: 1\n":                                             `{"a-":1}`,
		"- a - b\n":                                           `["a - b"]`,
		"- \"- 1\"\n":                                         `["- 1"]`,
		sixty + ": " + sixty + "\n":                           `{"` + sixty + `":"` + sixty + `"}`,
		"\"" + sixty + "\": \"" + sixty + "\"\n":              `{"` + sixty + `":"` + sixty + `"}`,
		"\"" + strings.Repeat("\\u0061", 60) + "\"\n":         `"` + sixty + `"`,
		"1000000000000000\n":                                  `1000000000000000`,
		"- -1000000000000000\n":                               `[-1000000000000000]`,
		"-\n  -\n    - 1\n  - 2\n-\n  a:\n    - 3\n  b: 4\n":  `[[[1],2],{"a":[3],"b":4}]`,
	} {
		if got := impl.JsonText(readLines(t, s)); got != want {
			t.Errorf("%q: %s, wanted %s", s, got, want)
		}
	}
}

func TestReadNoYaml(t *testing.T) {
	sixtyOne := strings.Repeat("a", 61)
	for _, s := range []string{
		// nothing said
		"", "\n", " \n", "\n\n", "# x\n", "#\n", " #\n\n", "  ", "#",
		// not ended
		"a", "1", "[]", "\"a\"", "- 1", "a: 1", "a: 1\nb: 2", "-\n  - 1", "a\n ", "a\n#", "a\n# x", "a\n  # x", "# x\na", "a\r", "a\x00",
		// blanks ahead
		" a\n", "  a\n", " 1\n", " []\n", " - 1\n", "  - 1\n", " a: 1\n", "  a: 1\n", "  \"a\"\n",
		"-\n- 1\n", "-\n - 1\n", "-\n   - 1\n", "-\n    - 1\n", "a:\nb: 1\n", "a:\n b: 1\n", "a:\n   b: 1\n", "a:\n    b: 1\n", "a:\n- 1\n", "a:\n - 1\n", "a:\n   - 1\n",
		"- 1\n - 2\n", "- 1\n  - 2\n", "- 1\n   - 2\n", " - 1\n- 2\n", "  - 1\n- 2\n", "a: 1\n b: 2\n", "a: 1\n  b: 2\n", "-\n  - 1\n - 2\n", "-\n  - 1\n   - 2\n", "-\n  - 1\n    - 2\n", "-\n  -\n    - 1\n   - 2\n",
		// nothing below, or what would be short
		"-\n", "a:\n", "-\n-\n", "- 1\n-\n", "a: 1\nb:\n", "-\n\n", "-\n  # x\n", "-\n  -\n", "a:\n  b:\n", "-\n  1\n", "-\n  a\n", "-\n  []\n", "-\n  {}\n", "-\n  ~\n", "a:\n  b\n", "a:\n  \"b\"\n", "a:\n  null\n",
		// parts on the line that are not short
		"- - 1\n", "- a: 1\n", "a: - 1\n", "a: b: c\n", "a: b:\n", "- -\n", "a: -\n", "- \"a\": 1\n", "- [1]\n", "- {a: 1}\n", "- [[]]\n", "a: [1]\n", "a: {\"b\":1}\n", "[1]\n", "{\"a\":1}\n", "- - 1\n  - 2\n", "- a: 1\n  b: 2\n",
		// wrong blanks within
		"-  1\n", "- 1 \n", "- \n", "-  \n", "a: 1 \n", "a:  1\n", "a: \n", "a:  \n", "a :1\n", "a : 1\n", "a:1\n", "-1\n-2\n", "-a\n", "-a: 1\n", "\"a\" : 1\n", "\"a\":1\n", "\"a\" \n", "a \n", "1 \n", "[] \n", "[ ]\n", "{ }\n", "null \n", "~ \n", "- a \n",
		// remarks are lines of their own
		"a # x\n", "- 1 # x\n", "a: 1 #x\n", "a: #x\n", "- # x\n", "a: # x\n  - 1\n", "[] # x\n", "\"a\" # x\n",
		// two keys that are the same
		"a: 1\na: 2\n", "a: 1\n\"a\": 2\n", "a: 1\nb: 2\na: 1\n", "\"\": 1\n\"\": 1\n", "\"\\u0061\": 1\na: 2\n", "-\n  a: 1\n  a: 1\n", "x:\n  a: 1\n  a: 2\n",
		// lists and maps mixed, bytes behind
		"a: 1\n- 2\n", "- 1\na: 2\n", "-\n  - 1\n  a: 2\n", "a\nb\n", "a\n- 1\n", "- 1\nb\n", "a: 1\nb\n", "b\na: 1\n", "1\n2\n", "[]\n[]\n", "{}\na: 1\n", "\"a\"\n\"b\"\n", "\"a\"b\n", "\"a\"\"b\"\n", "[]x\n", "nullx:\n", "1a\n", "1:\n", "---\na\n", "a\n---\n", "- 1\n...\n",
		// keys that must stand in quotes
		"null: 1\n", "True: 1\n", "FALSE: 1\n", "~: 1\n", "1: 1\n", "-1: 1\n", ": 1\n", "#: 1\n", "[]: 1\n", "a#: 1\n", "a\"b: 1\n", "'a': 1\n", "a:b: 1\n", sixtyOne + ": 1\n", "\"" + sixtyOne + "\": 1\n",
		// words in other letters, other words for null
		"Null\n", "NULL\n", "True\n", "TRUE\n", "False\n", "nULL\n", "- True\n", "a: NULL\n", "~~\n", "~null\n",
		// texts
		sixtyOne + "\n", "\"" + sixtyOne + "\"\n", "- " + sixtyOne + "\n", "\"\n", "\"a\n", "a\"\n", "\"a\\\"\n", "\"\\q\"\n", "\"\\u0080\"\n", "\"\\u00e9\"\n", "\"\x80\"\n", "\"\xff\"\n", "\"\u00e9\"\n", "\u00e9\n", "a\x80\n", "\x80\n", "- \x80\n", "a: \xff\n", "a\x80: 1\n", "\"\x80\": 1\n", "\"\t\"\n", "\"\x00\"\n", "\"\x1f\"\n", "\"\r\"\n", "\"a\nb\"\n", "'a'\n", "a,b\n", "a\\b\n", "a\x7f\n", "|\n", ">\n", "&a\n", "*a\n", "!a\n", "?\n", "@\n", "`\n", "%\n",
		// tabs and the like
		"\ta\n", "a\t\n", "\t\n", "\t# x\n", " \t\na\n", "a\n\t\n", "a\n\t# x\n", "-\t1\n", "a:\t1\n", "-\n\t- 1\n", "a: 1\t\n", "a\r\n", "- 1\r\n", "\r\na\n", "a\n\r", "a\n\x00\n", "\v\na\n", "\xef\xbb\xbfa\n", "\u00a0a\n",
		// numbers
		"1000000000000001\n", "-1000000000000001\n", "- 1000000000000001\n", "a: -1000000000000001\n", "9223372036854775807\n", "9223372036854775808\n", "18446744073709551617\n", strings.Repeat("9", 200) + "\n", "01\n", "00\n", "-01\n", "-0\n", "- -0\n", "+1\n", "1.5\n", "1.\n", ".5\n", "1e3\n", "1_0\n", "0x10\n", "--1\n", "- --1\n", "1,2\n", "-\x001\n",
	} {
		refusesLines(t, s)
	}
}

func TestRemarksAndEmptyLines(t *testing.T) {
	nothing := []string{"\n", " \n", "   \n", "#\n", "# x\n", "#x: - \"\n", " # - 1\n", "     # a: 1\n", "##\n", "  #\t\x80\x00\xff\n", "#" + strings.Repeat(" ", 70) + "\n"}
	for s, want := range map[string]string{"a\n": `"a"`, "~\n": "null", "[]\n": "[]", "- 1\n- 2\n": "[1,2]", "a:\n  -\n    b: 1\n    c: 2\n  - 3\nd: 4\n": `{"a":[{"b":1,"c":2},3],"d":4}`} {
		lines := strings.SplitAfter(s, "\n")
		for _, remark := range nothing {
			for at := range lines {
				more := strings.Join(lines[:at], "") + remark + strings.Join(lines[at:], "")
				if v := readLines(t, more); impl.JsonText(v) != want {
					t.Errorf("%q: %v", more, v)
				}
				if cut := more[:len(more)-1]; !strings.HasSuffix(cut, "\n") {
					refusesLines(t, cut)
				}
			}
			full := remark + strings.Join(lines, remark)
			if v := readLines(t, full+remark); impl.JsonText(v) != want {
				t.Errorf("%q: %v", full, v)
			}
			refusesLines(t, s+remark[:len(remark)-1]+" ")
			refusesLines(t, remark)
		}
	}
}

func TestEachByteOfALine(t *testing.T) {
	for c := range 256 {
		raw := string([]byte{byte(c)})
		for _, form := range []string{"?\n", "??\n", "?a\n", "a?\n", "- ?\n", "-?\n", "-?1\n", "- 1?\n", "?- 1\n", "a: ?\n", "a?: 1\n", "a:?1\n", "?a: 1\n", "a: 1?\n", "\"?\"\n", "\"\\?\"\n", "\"a\"?\n", "\"a\"? 1\n", "a\n?\n", "?\na\n", "-\n  - 1\n?\n", "-\n ?- 1\n", "[?]\n", "[]?\n", "{?}\n", "a?b\n", "- a?b\n", "-\n?  - 1\n"} {
			s := strings.ReplaceAll(form, "?", raw)
			want, fine := otherYaml(s)
			got, ok := impl.ReadYaml(s)
			if ok != fine || ok && !same(got, want) {
				t.Errorf("%q: %v %v, the other one: %v %v", s, got, ok, want, fine)
			}
		}
	}
}

func TestLinesOfMaxIn(t *testing.T) {
	for _, s := range []string{"1\n", "[]\n", "a: 1\nb:\n  - x\n"} {
		for _, fill := range []string{" ", "#", "\n"} {
			full := s + strings.Repeat(fill, 3999-len(s)) + "\n"
			if v := readLines(t, full); len(full) != 4000 || !same(v, readLines(t, s)) {
				t.Errorf("%q: %v", s, v)
			}
			refusesLines(t, full+"\n")
		}
	}
}

// linesOfBytes is a list whose lines have n bytes in all, some 4000.
func linesOfBytes(t *testing.T, n int) []impl.VNode {
	t.Helper()
	var l [][]impl.VNode
	for range 62 {
		l = append(l, text(strings.Repeat("a", 60)))
	}
	for last := 1; last <= 60; last++ {
		v := list(t, append(l, text(strings.Repeat("b", last)), text(strings.Repeat("c", 50)))...)
		if len(impl.YamlText(v)) == n {
			return v
		}
	}
	t.Fatal(n)
	return nil
}

func TestLinesInMaxIn(t *testing.T) {
	for n := 3998; n < 4004; n++ {
		v := linesOfBytes(t, n)
		w, ok := impl.ReadYaml(impl.YamlText(v))
		if ok != (n <= 4000) || ok && !same(v, w) || !ok && len(w) != 0 {
			t.Error(n, ok)
		}
	}
}

// lookalikes are texts that look like something else in a line, and some that do not.
var lookalikes = []string{
	"", " ", "a", "b", "ab", "a b", "a  b", " a", "a ", "x-1", "x/y.z_", "_", "-", "--", "---", "- ", "- a", "-a", "-1", "0", "1", "-0", "10", "1.5", "1e3",
	"null", "Null", "NULL", "nulls", "true", "True", "tRUE", "truer", "false", "False", "FALSE", "~", "no", "yes",
	"a:", "a: b", "a:b", ":", ": ", "a: 1", "#", "# a", "a #", "a#b", "\"", "\"a\"", "a\"", "'", "\\", "\\n", "\n", "a\n", "a\nb: c", "\t", "\ta", "\x00", "\x1f", "\x7f", "[]", "[a]", "{}", "{a: b}", "?", "|", "&a", "*", "!",
	strings.Repeat("p", 60), strings.Repeat("p", 59) + " ", strings.Repeat("#", 60),
}

// dressed answers v with other texts and keys.
func dressed(r *rand.Rand, v []impl.VNode) []impl.VNode {
	out := slices.Clone(v)
	for i, n := range v {
		switch n.Kind {
		case impl.VlText:
			out[i].S = lookalikes[r.Intn(len(lookalikes))]
		case impl.VlMap:
			out[i].Keys = nil
			for _, at := range r.Perm(len(lookalikes))[:len(n.Keys)] {
				out[i].Keys = append(out[i].Keys, lookalikes[at])
			}
			slices.Sort(out[i].Keys)
		}
	}
	return out
}

func dressedValues(seed int64, count int) [][]impl.VNode {
	r := rand.New(rand.NewSource(seed))
	all := someValues(seed, count)
	for i, v := range all {
		if i%4 > 0 {
			all[i] = dressed(r, v)
		}
	}
	return all
}

func TestLookalikesStandForThemselves(t *testing.T) {
	for _, s := range lookalikes {
		plain := impl.PlainOk(s)
		if got := impl.YamlText(text(s)); (got == s+"\n") != plain {
			t.Errorf("%q: %q", s, got)
		}
		for _, v := range [][]impl.VNode{text(s), list(t, text(s)), mapped(t, []string{s}, text(s)), mapped(t, []string{s}, list(t, text(s))), list(t, mapped(t, []string{s}, text(s)))} {
			if w := readLines(t, impl.YamlText(v)); !same(v, w) {
				t.Errorf("%q: %v", s, w)
			}
		}
		if v, ok := impl.ReadYaml(s + "\n"); plain && (!ok || !same(v, text(s))) || !plain && ok && same(v, text(s)) {
			t.Errorf("%q: %v", s, v)
		}
	}
}

func TestYamlComesBack(t *testing.T) {
	for _, v := range append(dressedValues(31, 2000), wideList(80), deepList(8)) {
		s := impl.YamlText(v)
		w, ok := impl.ReadYaml(s)
		if s == "" || ok != (len(s) <= impl.MaxIn) || ok && !same(v, w) {
			t.Fatalf("%v: %q, %v %v", v, s, w, ok)
		}
		if want := otherLines(v, ""); s != want {
			t.Fatalf("%v: %q, wanted %q", v, s, want)
		}
		if ok {
			refusesLines(t, s[:len(s)-1])
			refusesLines(t, " "+s)
			if s[0] != '-' {
				refusesLines(t, s+s)
			}
		}
	}
}

// otherLines writes by the exported functions alone.
func otherLines(v []impl.VNode, ahead string) string {
	parts := impl.PartsOf(v)
	whole := v[len(v)-1]
	if len(parts) == 0 {
		return ahead + otherText(v) + "\n"
	}
	s := ""
	for i, part := range parts {
		head := "-"
		if whole.Kind == impl.VlMap {
			head = otherText(text(whole.Keys[i])) + ":"
		}
		if len(impl.PartsOf(part)) == 0 {
			s += ahead + head + " " + otherText(part) + "\n"
		} else {
			s += ahead + head + "\n" + otherLines(part, ahead+"  ")
		}
	}
	return s
}

func otherText(v []impl.VNode) string {
	if v[0].Kind == impl.VlText && isPlain(v[0].S) {
		return v[0].S
	}
	return impl.JsonText(v)
}

var (
	plainForm  = regexp.MustCompile(`^[A-Za-z_]([-A-Za-z0-9_./ ]*[-A-Za-z0-9_./])?$`)
	wordForm   = regexp.MustCompile(`^(?i:null|true|false)$`)
	numberForm = regexp.MustCompile(`^(0|-?[1-9][0-9]*)$`)
	quotedForm = regexp.MustCompile(`^"([ !#-\[\]-\x7f]|\\(["\\/bfnrt]|u00[0-7][0-9a-fA-F]))*"`)
)

func isPlain(s string) bool {
	return plainForm.MatchString(s) && !wordForm.MatchString(s) && len(s) <= 60
}

// otherYaml reads block by block, and asks at each value whether it is right.
func otherYaml(s string) ([]impl.VNode, bool) {
	if len(s) > impl.MaxIn || !strings.HasSuffix(s, "\n") {
		return nil, false
	}
	var lines []string
	for _, line := range strings.Split(strings.TrimSuffix(s, "\n"), "\n") {
		if bare := strings.Trim(line, " "); bare != "" && bare[0] != '#' {
			lines = append(lines, line)
		}
	}
	if len(lines) == 1 {
		if v, ok := otherShort(lines[0]); ok {
			return v, true
		}
	}
	return otherBlock(lines)
}

func otherBlock(lines []string) ([]impl.VNode, bool) {
	var heads, keys []string
	var l [][]impl.VNode
	for len(lines) > 0 {
		end := 1
		for end < len(lines) && strings.HasPrefix(lines[end], "  ") {
			end++
		}
		head, key, rest, ok := otherHead(lines[0])
		if !ok || len(heads) > 0 && heads[0] != head {
			return nil, false
		}
		var below []string
		for _, line := range lines[1:end] {
			below = append(below, line[2:])
		}
		v, ok := otherPart(rest, below)
		if !ok {
			return nil, false
		}
		heads, keys, l = append(heads, head), append(keys, key), append(l, v)
		lines = lines[end:]
	}
	switch {
	case len(heads) == 0:
		return nil, false
	case heads[0] == "-":
		return impl.ListOf(l)
	}
	return impl.MapOf(keys, l)
}

func otherPart(rest string, below []string) ([]impl.VNode, bool) {
	if rest == "" {
		return otherBlock(below)
	}
	if rest[0] != ' ' || len(below) > 0 {
		return nil, false
	}
	return otherShort(rest[1:])
}

// otherHead answers - or a colon, the key ahead of that, and what stands behind.
func otherHead(line string) (head, key, rest string, ok bool) {
	if strings.HasPrefix(line, "-") {
		return "-", "", line[1:], true
	}
	if q := quotedForm.FindString(line); q != "" {
		v, _ := otherShort(q)
		if len(v) == 0 || !strings.HasPrefix(line[len(q):], ":") {
			return "", "", "", false
		}
		return ":", v[0].S, line[len(q)+1:], true
	}
	key, rest, ok = strings.Cut(line, ":")
	return ":", key, rest, ok && isPlain(key)
}

func otherShort(s string) ([]impl.VNode, bool) {
	switch {
	case s == "~" || s == "null":
		return null(), true
	case s == "false" || s == "true":
		return truth(int64(5 - len(s))), true
	case s == "[]":
		return []impl.VNode{{Kind: impl.VlList}}, true
	case s == "{}":
		return []impl.VNode{{Kind: impl.VlMap}}, true
	case isPlain(s):
		return text(s), true
	case numberForm.MatchString(s):
		n, err := strconv.ParseInt(s, 10, 64)
		return num(n), err == nil && impl.ValueOk(num(n))
	case s != "" && quotedForm.FindString(s) == s:
		var out string
		err := json.Unmarshal([]byte(s), &out)
		return text(out), err == nil && impl.ValueOk(text(out))
	}
	return nil, false
}

// looseLines writes v with keys in an order that r chooses, plain texts now
// and then in quotes, null as ~, remarks and empty lines in between.
func looseLines(r *rand.Rand, v []impl.VNode, ahead string) string {
	parts := impl.PartsOf(v)
	whole := v[len(v)-1]
	if len(parts) == 0 {
		return looseRemark(r) + ahead + looseShort(r, v) + "\n" + looseRemark(r)
	}
	places := r.Perm(len(parts))
	if whole.Kind == impl.VlList {
		slices.Sort(places)
	}
	s := ""
	for _, i := range places {
		head := "-"
		if whole.Kind == impl.VlMap {
			head = looseShort(r, text(whole.Keys[i])) + ":"
		}
		s += looseRemark(r)
		if len(impl.PartsOf(parts[i])) == 0 {
			s += ahead + head + " " + looseShort(r, parts[i]) + "\n"
		} else {
			s += ahead + head + "\n" + looseLines(r, parts[i], ahead+"  ")
		}
	}
	return s + looseRemark(r)
}

func looseShort(r *rand.Rand, v []impl.VNode) string {
	whole := v[0]
	switch {
	case r.Intn(2) == 0:
		return otherText(v)
	case whole.Kind == impl.VlNull:
		return "~"
	case whole.Kind == impl.VlText:
		return `"` + looseQuotes(r, whole.S) + `"`
	}
	return impl.JsonText(v)
}

func looseQuotes(r *rand.Rand, s string) string {
	var out strings.Builder
	for _, c := range []byte(s) {
		switch {
		case r.Intn(4) == 0:
			out.WriteString(`\u00` + strconv.FormatInt(int64(c/16), 16) + strconv.FormatInt(int64(c%16), 16))
		case c == '/' && r.Intn(2) == 0:
			out.WriteString(`\/`)
		case c == 127:
			out.WriteByte(c)
		default:
			quoted := impl.JsonText(text(string([]byte{c})))
			out.WriteString(quoted[1 : len(quoted)-1])
		}
	}
	return out.String()
}

func looseRemark(r *rand.Rand) string {
	if r.Intn(4) > 0 {
		return ""
	}
	return strings.Repeat(" ", r.Intn(5)) + []string{"", "#", "# - a", "#\"\xff"}[r.Intn(4)] + "\n"
}

func TestLooseLinesComeBack(t *testing.T) {
	r := rand.New(rand.NewSource(32))
	count, longer := 0, 0
	for _, v := range dressedValues(33, 2500) {
		s := looseLines(r, v, "")
		if len(s) > impl.MaxIn {
			refusesLines(t, s)
			continue
		}
		if w := readLines(t, s); !same(v, w) {
			t.Fatalf("%q: %v, wanted %v", s, w, v)
		}
		count++
		if len(s) > len(impl.YamlText(v)) {
			longer++
		}
	}
	if count < 2000 || longer < 500 {
		t.Error(count, longer)
	}
}

// changedLines answers s with some bytes or lines changed.
func changedLines(r *rand.Rand, s string) string {
	const bytesToTry = "-: #\"\\~[]{}nt0129u_a./TN,'\t\r\n\x00\x7f\x80 "
	for range 1 + r.Intn(2) {
		lines := strings.SplitAfter(s, "\n")
		at := r.Intn(len(lines))
		line := lines[at]
		switch r.Intn(9) {
		case 0:
			lines[at] = strings.Repeat(" ", r.Intn(4)) + line
		case 1:
			lines[at] = strings.TrimPrefix(line, strings.Repeat(" ", r.Intn(4)))
		case 2:
			lines[at] = ""
		case 3:
			lines = slices.Insert(lines, r.Intn(len(lines)), line)
		case 4:
			to := r.Intn(len(lines))
			lines[at], lines[to] = lines[to], line
		default:
			b := []byte(line)
			c := bytesToTry[r.Intn(len(bytesToTry))]
			if place := r.Intn(len(b) + 1); place == len(b) || r.Intn(3) == 0 {
				b = slices.Insert(b, place, c)
			} else if r.Intn(2) == 0 {
				b = slices.Delete(b, place, place+1)
			} else {
				b[place] = c
			}
			lines[at] = string(b)
		}
		s = strings.Join(lines, "")
	}
	return s
}

func TestYamlReadAsTheOtherReaderReads(t *testing.T) {
	r := rand.New(rand.NewSource(34))
	read, refused := 0, 0
	for _, v := range dressedValues(35, 2000) {
		for range 15 {
			s := changedLines(r, looseLines(r, v, ""))
			want, fine := otherYaml(s)
			got, ok := impl.ReadYaml(s)
			if ok != fine || ok && !same(got, want) || !ok && len(got) > 0 {
				t.Fatalf("%q: %v %v, the other one: %v %v", s, got, ok, want, fine)
			}
			if !ok {
				refused++
				continue
			}
			read++
			if again, ok := impl.ReadYaml(impl.YamlText(got)); !ok || !same(again, got) {
				t.Fatalf("%q does not come back from its own lines", s)
			}
		}
	}
	if read < 2000 || refused < 2000 {
		t.Error(read, refused)
	}
}

func TestYamlArgumentsStay(t *testing.T) {
	for _, v := range dressedValues(36, 200) {
		a := roomy(v)
		s := impl.YamlText(a)
		if !untouched(a, v) || impl.YamlText(a) != s {
			t.Fatal("an argument was written", v)
		}
		w, ok := impl.ReadYaml(s)
		again, fine := impl.ReadYaml(s)
		if ok != fine || ok && (!same(w, v) || !same(again, v)) {
			t.Fatal("another answer", v)
		}
		if ok && shared(w, again) {
			t.Fatal("lists of answers share memory", v)
		}
	}
}

func TestSameJustWhereTheirBytesAre(t *testing.T) {
	writers := map[string]func([]impl.VNode) string{"json": impl.JsonText, "lines": impl.Indented, "cbor": impl.CborText, "pack": impl.PackText, "yaml": impl.YamlText}
	all := dressedValues(37, 400)
	for _, s := range rising {
		all = append(all, read(t, s))
	}
	for _, s := range lookalikes {
		all = append(all, text(s), list(t, text(s)), mapped(t, []string{s}, text(s)))
	}
	for name, write := range writers {
		var written []string
		for _, v := range all {
			written = append(written, write(v))
		}
		alike := 0
		for i, a := range all {
			for j, b := range all {
				if (impl.Order(a, b) == 0) != (written[i] == written[j]) {
					t.Fatalf("%s: %v and %v: %q and %q", name, a, b, written[i], written[j])
				}
				if i != j && written[i] == written[j] {
					alike++
				}
			}
		}
		if alike < 100 {
			t.Error(name, alike)
		}
	}
}

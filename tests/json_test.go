package tests

import (
	"bytes"
	"encoding/json"
	"fmt"
	"math/rand"
	"strconv"
	"strings"
	"testing"

	"loop.example/g00345/impl"
)

func TestJsonTexts(t *testing.T) {
	for _, c := range []struct {
		v    []impl.VNode
		want string
	}{
		{null(), "null"},
		{truth(0), "false"},
		{truth(1), "true"},
		{num(0), "0"},
		{num(-7), "-7"},
		{num(impl.MaxInt), "1000000000000000"},
		{num(-impl.MaxInt), "-1000000000000000"},
		{text(""), `""`},
		{text("a b/c~'"), `"a b/c~'"`},
		{text("\"\\\b\t\n\f\r"), `"\"\\\b\t\n\f\r"`},
		{text("\x00\x01\x0b\x0e\x1a\x1f\x7f"), `"\u0000\u0001\u000b\u000e\u001a\u001f\u007f"`},
		{list(t), "[]"},
		{mapped(t, nil), "{}"},
		{list(t, list(t), mapped(t, nil)), "[[],{}]"},
		{list(t, num(1), null(), text("x")), `[1,null,"x"]`},
		{mapped(t, []string{"b", "a\n", ""}, num(1), list(t, num(2)), truth(1)), `{"":true,"a\n":[2],"b":1}`},
	} {
		if s := impl.JsonText(c.v); s != c.want {
			t.Errorf("%q, wanted %q", s, c.want)
		}
		if v := read(t, c.want); !same(v, c.v) {
			t.Errorf("%q: %v", c.want, v)
		}
	}
}

func TestIndented(t *testing.T) {
	for s, want := range map[string]string{
		"null":                       "null\n",
		"-5":                         "-5\n",
		`"a"`:                        "\"a\"\n",
		"[]":                         "[]\n",
		"{}":                         "{}\n",
		"[1]":                        "[\n  1\n]\n",
		"[[],{}]":                    "[\n  [],\n  {}\n]\n",
		"[[1,2],3]":                  "[\n  [\n    1,\n    2\n  ],\n  3\n]\n",
		`{"a":{"b":[true]},"c\n":0}`: "{\n  \"a\": {\n    \"b\": [\n      true\n    ]\n  },\n  \"c\\n\": 0\n}\n",
		`[{"a":1},{"":[]}]`:          "[\n  {\n    \"a\": 1\n  },\n  {\n    \"\": []\n  }\n]\n",
	} {
		if got := impl.Indented(read(t, s)); got != want {
			t.Errorf("%s: %q", s, got)
		}
	}
}

func TestReadJson(t *testing.T) {
	sixty := strings.Repeat("a", 60)
	for s, want := range map[string]string{
		" \t\n\r1 \t\n\r":                        "1",
		"-0":                                     "0",
		"[-0]":                                   "[0]",
		"1000000000000000":                       "1000000000000000",
		"-1000000000000000":                      "-1000000000000000",
		"\t[\n1\r, 2\t,\n[ ]\r, { }\t]\n":        "[1,2,[],{}]",
		"\t{\n\"b\"\r: 1\t,\n\"a\" :\r2\t}\n":    `{"a":2,"b":1}`,
		`{"c":3,"":0,"b":{"z":1,"y":2},"a":1}`:   `{"":0,"a":1,"b":{"y":2,"z":1},"c":3}`,
		`"\"\\\/\b\f\n\r\t"`:                     `"\"\\/\b\f\n\r\t"`,
		`"\u0000\u0041\u007f\u007F\u004a\u004A"`: `"\u0000A\u007f\u007fJJ"`,
		`"\u0022\u005c\u002f\u000a"`:             `"\"\\/\n"`,
		"\"\x7f\"":                               `"\u007f"`,
		"\"/\"":                                  `"/"`,
		`{"\u0061\n":1}`:                         `{"a\n":1}`,
		`"` + sixty + `"`:                        `"` + sixty + `"`,
		`"` + strings.Repeat(`\u0061`, 60) + `"`: `"` + sixty + `"`,
		`{"` + sixty + `":[]}`:                   `{"` + sixty + `":[]}`,
		"[[[[[[[1]]]]]]]":                        "[[[[[[[1]]]]]]]",
		"[[[[[[[[]]]]]]]]":                       "[[[[[[[[]]]]]]]]",
		"[" + strings.Repeat("0,", 78) + "0]":    "[" + strings.Repeat("0,", 78) + "0]",
		`{"a":` + strings.Repeat("[", 7) + strings.Repeat("]", 7) + "}": `{"a":` + strings.Repeat("[", 7) + strings.Repeat("]", 7) + "}",
	} {
		if got := impl.JsonText(read(t, s)); got != want {
			t.Errorf("%q: %q", s, got)
		}
	}
}

func TestReadNoJson(t *testing.T) {
	sixtyOne := strings.Repeat("a", 61)
	for _, s := range []string{
		"", " ", "\n", "nul", "nulll", "Null", "NULL", "tru", "falsee", "None", "nan", "undefined", "'a'", "a", "#", "/**/1", "1//",
		"-", "- 1", "--1", "+1", "01", "00", "-01", "-00", "1.5", "1.", ".5", "1.0", "1e3", "1E3", "0e0", "0x10", "1_0", "1 2", "1,2", "1,", ",1",
		"1000000000000001", "-1000000000000001", "9223372036854775808", "18446744073709551617", "-" + strings.Repeat("9", 100), strings.Repeat("0", 3), "1" + strings.Repeat("0", 64),
		`"`, `"a`, `a"`, `"a"b`, `"a""b"`, `"\"`, `"\`, `"\q"`, `"\'"`, `"\0"`, `"\x41"`, `"\a"`, `"\v"`, `"\N"`, `"\U0041"`,
		`"\u"`, `"\u004"`, `"\u00`, `"\u004g"`, `"\u004G"`, `"\u 041"`, `"\u-041"`, `"\u0080"`, `"\u00ff"`, `"\u0100"`, `"\u1000"`, `"\uFFFF"`, `"\ud83d\ude00"`, "\"\\u00\x101\"",
		"\"\t\"", "\"\n\"", "\"\r\"", "\"\x00\"", "\"\x1f\"", "\"\x80\"", "\"\xff\"", "\"\u00e9\"", "\xef\xbb\xbf1", "\xa01", "1\x00", "\x001", "\v1", "\f1", "1\f",
		`"` + sixtyOne + `"`, `"` + strings.Repeat(`\u0061`, 61) + `"`, `{"` + sixtyOne + `":1}`,
		"[", "]", "[]]", "[[]", "[1", "[1,", "[1,]", "[,1]", "[,]", "[1,,2]", "[1 2]", "[1;2]", "[1:2]", "[1}", "(1)", "[] []",
		"{", "}", "{}}", `{"a"`, `{"a":`, `{"a":1`, `{"a":1,`, `{"a":1,}`, `{,"a":1}`, `{,}`, `{"a":1,,"b":1}`, `{"a":1 "b":1}`, `{"a" 1}`, `{"a",1}`, `{"a"::1}`, `{"a":}`, `{:1}`, `{"a":1]`, `{"a"}`,
		"{a:1}", "{'a':1}", "{1:1}", "{null:1}", "{[]:1}", `{"a":1;"b":1}`, `{"a"=1}`, "{\"\x80\":1}", "{\"\t\":1}",
		`{"a":1,"a":1}`, `{"a":1,"b":2,"a":1}`, `{"a":1,"\u0061":2}`, `{"":1,"":2}`, `[{"x":{"a":1,"a":2}}]`,
		"[[[[[[[[1]]]]]]]]", "[[[[[[[[[]]]]]]]]]", `{"a":[[[[[[[[]]]]]]]]}`, strings.Repeat("[", 2000) + strings.Repeat("]", 2000), strings.Repeat("[", 4000), strings.Repeat(`{"a":`, 800),
		"[" + strings.Repeat("0,", 79) + "0]", "[" + strings.Repeat("0,", 1900) + "0]",
	} {
		if v, ok := impl.ReadJson(s); ok || len(v) != 0 {
			t.Errorf("%q: %v", s, v)
		}
	}
}

func TestEachByteInATextAndAround(t *testing.T) {
	for c := range 256 {
		raw := string([]byte{byte(c)})
		_, ok := impl.ReadJson("\"" + raw + "\"")
		if want := c >= 32 && c <= 127 && c != '"' && c != '\\'; ok != want {
			t.Error("in a text", c, ok)
		}
		_, ok = impl.ReadJson(raw + "[]")
		if want := c == 9 || c == 10 || c == 13 || c == 32; ok != want {
			t.Error("around a value", c, ok)
		}
		_, ok = impl.ReadJson(`"\` + raw + `"`)
		if want := strings.Contains(`"\/bfnrt`, raw); ok != want {
			t.Error("behind a \\", c, ok)
		}
		_, ok = impl.ReadJson(`"\u00` + raw + `0"`)
		if want := c >= '0' && c <= '7'; ok != want {
			t.Error("a third digit", c, ok)
		}
		_, ok = impl.ReadJson(`"\u000` + raw + `"`)
		if want := strings.Contains("0123456789abcdefABCDEF", raw); ok != want {
			t.Error("a fourth digit", c, ok)
		}
		if c > 127 {
			continue
		}
		v := text(raw)
		s := impl.JsonText(v)
		if !same(read(t, s), v) || !same(read(t, fmt.Sprintf("\"\\u%04x\"", c)), v) || !same(read(t, fmt.Sprintf("\"\\u%04X\"", c)), v) {
			t.Error("comes back", c)
		}
		if escaped := len(s) > 3; escaped != (c < 32 || c == 127 || c == '"' || c == '\\') {
			t.Error("escaped", s)
		}
	}
}

func TestInputsOfMaxIn(t *testing.T) {
	for _, s := range []string{"1", "[]", `{"b":1,"a":"x"}`} {
		full := s + strings.Repeat(" ", 4000-len(s))
		if v := read(t, full); !same(v, read(t, s)) {
			t.Error(s, v)
		}
		if v, ok := impl.ReadJson(full + " "); ok || len(v) != 0 {
			t.Error(s, "of 4001 bytes")
		}
	}
}

// ofBytes is a right value whose JSON text has n bytes, 3998 .. 4010 or so.
func ofBytes(t *testing.T, n int) []impl.VNode {
	t.Helper()
	var l [][]impl.VNode
	for range 10 {
		l = append(l, text(strings.Repeat("\x01", 60)))
	}
	rest := n - len(impl.JsonText(list(t, l...))) - len(`,""`)
	for rest > 60 {
		l = append(l, text(strings.Repeat("a", 57)))
		rest -= 60
	}
	return list(t, append(l, text(strings.Repeat("b", rest)))...)
}

func TestTextsOfMaxIn(t *testing.T) {
	for n := 3998; n < 4004; n++ {
		v := ofBytes(t, n)
		s := impl.JsonText(v)
		if len(s) != n {
			t.Fatal(len(s), n)
		}
		w, ok := impl.ReadJson(s)
		if ok != (n <= impl.MaxIn) || ok && !same(v, w) || !ok && len(w) != 0 {
			t.Error(n, ok)
		}
	}
}

func TestValuesComeBack(t *testing.T) {
	for _, v := range append(someValues(8, 1500), wideList(80), deepList(8)) {
		for _, s := range []string{impl.JsonText(v), impl.Indented(v)} {
			w, ok := impl.ReadJson(s)
			if ok != (len(s) <= impl.MaxIn) || ok && !same(v, w) {
				t.Fatalf("%v: %q, %v", v, s, w)
			}
			if !json.Valid([]byte(s)) {
				t.Fatalf("no JSON: %q", s)
			}
		}
	}
}

// byLibrary reads s by the library's reader, and then asks what chapter 2 asks beyond RFC 8259.
func byLibrary(s string) ([]impl.VNode, bool) {
	if len(s) > impl.MaxIn || !json.Valid([]byte(s)) {
		return nil, false
	}
	d := json.NewDecoder(bytes.NewReader([]byte(s)))
	d.UseNumber()
	return nextByLibrary(d)
}

func nextByLibrary(d *json.Decoder) ([]impl.VNode, bool) {
	token, err := d.Token()
	if err != nil {
		return nil, false
	}
	switch x := token.(type) {
	case nil:
		return null(), true
	case bool:
		if x {
			return truth(1), true
		}
		return truth(0), true
	case json.Number:
		n, err := strconv.ParseInt(string(x), 10, 64)
		return num(n), err == nil && n >= -impl.MaxInt && n <= impl.MaxInt
	case string:
		return text(x), true
	case json.Delim:
		return partsByLibrary(d, x == '{')
	}
	return nil, false
}

func partsByLibrary(d *json.Decoder, named bool) ([]impl.VNode, bool) {
	var keys []string
	var l [][]impl.VNode
	for d.More() {
		if named {
			key, err := d.Token()
			if err != nil {
				return nil, false
			}
			keys = append(keys, key.(string))
		}
		v, ok := nextByLibrary(d)
		if !ok {
			return nil, false
		}
		l = append(l, v)
	}
	if _, err := d.Token(); err != nil {
		return nil, false
	}
	if named {
		return impl.MapOf(keys, l)
	}
	return impl.ListOf(l)
}

func mutated(r *rand.Rand, s string) string {
	const bytesToTry = "[]{},:\"\\u0019-+.eE ntfl/b\t\n\r\x00\x7f\x80ad"
	b := []byte(s)
	for range 1 + r.Intn(2) {
		at := r.Intn(len(b) + 1)
		c := bytesToTry[r.Intn(len(bytesToTry))]
		switch r.Intn(4) {
		case 0:
			b = append(b[:at:at], append([]byte{c}, b[at:]...)...)
		case 1:
			b = append(b[:at:at], b[min(at+1, len(b)):]...)
		case 2:
			if at < len(b) {
				b[at] = c
			}
		case 3:
			b = append(b, b[at:]...)
		}
	}
	return string(b)
}

func TestReadAsTheLibraryReads(t *testing.T) {
	r := rand.New(rand.NewSource(9))
	read, refused := 0, 0
	for _, v := range someValues(10, 1500) {
		for range 20 {
			s := mutated(r, impl.JsonText(v))
			want, fine := byLibrary(s)
			fine = fine && impl.ValueOk(want)
			got, ok := impl.ReadJson(s)
			if ok != fine || ok && !same(got, want) {
				t.Fatalf("%q: %v %v, by the library %v %v", s, got, ok, want, fine)
			}
			if !ok {
				refused++
				continue
			}
			read++
			if again, ok := impl.ReadJson(impl.JsonText(got)); !ok || !same(again, got) {
				t.Fatalf("%q does not come back from its own text", s)
			}
		}
	}
	if read < 1000 || refused < 1000 {
		t.Error(read, refused)
	}
}

func TestJsonArgumentsStay(t *testing.T) {
	for _, v := range someValues(11, 200) {
		a := roomy(v)
		s, lines := impl.JsonText(a), impl.Indented(a)
		w, ok := impl.ReadJson(s)
		if ok && shared(w) {
			t.Fatal("lists of one answer share memory", v)
		}
		if !untouched(a, v) || impl.JsonText(a) != s || impl.Indented(a) != lines {
			t.Fatal("an argument was written", v)
		}
		if w, _ := impl.ReadJson(s); ok && !same(w, v) {
			t.Fatal("another answer", s)
		}
	}
}

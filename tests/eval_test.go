package tests

import (
	"math"
	"slices"
	"strconv"
	"strings"
	"testing"

	"loop.example/g00345/impl"
)

func filter(t *testing.T, s string) []impl.FNode {
	t.Helper()
	f, ok := impl.ReadFilter(s)
	if !ok {
		t.Fatalf("not read: %q", s)
	}
	return f
}

// outcomes are the JSON texts of what Eval answered, a blank between two; or its code.
func outcomes(t *testing.T, f []impl.FNode, v []impl.VNode, fuel int64) string {
	t.Helper()
	l, code := impl.Eval(f, v, fuel)
	if code != impl.EvDone {
		if len(l) != 0 {
			t.Error("code", code, "with", l)
		}
		return "code " + strconv.FormatInt(code, 10)
	}
	var all []string
	for _, out := range l {
		if !impl.ValueOk(out) {
			t.Error("not right", out)
		}
		all = append(all, impl.JsonText(out))
	}
	return strings.Join(all, " ")
}

// evaluates asks for these outcomes of a filter for a value, both told by their texts.
func evaluates(t *testing.T, s string, v string, want string) {
	t.Helper()
	if got := outcomes(t, filter(t, s), read(t, v), impl.MaxFuel); got != want {
		t.Errorf("%s of %s: %s, not %s", s, v, got, want)
	}
}

func TestLeavesAtEachKind(t *testing.T) {
	values := []string{"null", "false", "true", "0", "-7", `"ab"`, "[]", "[3,[4],5]", "{}", `{"a":[1],"b":null}`}
	for s, row := range map[string][]string{
		".":      values,
		".a":     {"null", evKind, evKind, evKind, evKind, evKind, evKind, evKind, "null", "[1]"},
		".b":     {"null", evKind, evKind, evKind, evKind, evKind, evKind, evKind, "null", "null"},
		".ab":    {"null", evKind, evKind, evKind, evKind, evKind, evKind, evKind, "null", "null"},
		".[0]":   {"null", evKind, evKind, evKind, evKind, evKind, "null", "3", evKind, evKind},
		".[2]":   {"null", evKind, evKind, evKind, evKind, evKind, "null", "5", evKind, evKind},
		".[3]":   {"null", evKind, evKind, evKind, evKind, evKind, "null", "null", evKind, evKind},
		".[80]":  {"null", evKind, evKind, evKind, evKind, evKind, "null", "null", evKind, evKind},
		".[-1]":  {"null", evKind, evKind, evKind, evKind, evKind, "null", "5", evKind, evKind},
		".[-3]":  {"null", evKind, evKind, evKind, evKind, evKind, "null", "3", evKind, evKind},
		".[-4]":  {"null", evKind, evKind, evKind, evKind, evKind, "null", "null", evKind, evKind},
		".[-80]": {"null", evKind, evKind, evKind, evKind, evKind, "null", "null", evKind, evKind},
		".[]":    {evKind, evKind, evKind, evKind, evKind, evKind, "", "3 [4] 5", "", "[1] null"},
		"null":   slices.Repeat([]string{"null"}, 10),
		"false":  slices.Repeat([]string{"false"}, 10),
		"-12":    slices.Repeat([]string{"-12"}, 10),
		`"x\n"`:  slices.Repeat([]string{`"x\n"`}, 10),
		"empty":  slices.Repeat([]string{""}, 10),
		"length": {"0", evKind, evKind, "0", "7", "2", "0", "3", "0", "2"},
		"keys":   {evKind, evKind, evKind, evKind, evKind, evKind, "[]", "[0,1,2]", "[]", `["a","b"]`},
		"not":    {"true", "true", "false", "false", "false", "false", "false", "false", "false", "false"},
		"[]":     slices.Repeat([]string{"[]"}, 10),
		"{}":     slices.Repeat([]string{"{}"}, 10),
	} {
		for i, v := range values {
			evaluates(t, s, v, row[i])
		}
	}
}

func TestKidsAtEachKind(t *testing.T) {
	values := []string{"null", "false", "true", "0", "-7", `"ab"`, "[]", "[3,[4],5]", "{}", `{"a":[1],"b":null}`}
	for i, v := range values {
		evaluates(t, ". | .", v, v)
		evaluates(t, "., .", v, v+" "+v)
		evaluates(t, "[.]", v, "["+v+"]")
		evaluates(t, "[., .]", v, "["+v+","+v+"]")
		evaluates(t, "{a: ., b: 1}", v, `{"a":`+v+`,"b":1}`)
		evaluates(t, "select(true)", v, v)
		evaluates(t, "select(false)", v, "")
		evaluates(t, "select(null, 1, false, 2, true)", v, v+" "+v+" "+v)
		evaluates(t, ". + null", v, v)
		evaluates(t, "null + .", v, v)
		evaluates(t, ". == .", v, "true")
		evaluates(t, ". != .", v, "false")
		evaluates(t, ". < .", v, "false")
		evaluates(t, ". <= .", v, "true")
		evaluates(t, ".?", v, v)
		if i < 2 {
			evaluates(t, "select(.)", v, "")
			evaluates(t, ". // 9", v, "9")
			evaluates(t, "if . then 1 else 2 end", v, "2")
		} else {
			evaluates(t, "select(.)", v, v)
			evaluates(t, ". // 9", v, v)
			evaluates(t, "if . then 1 else 2 end", v, "1")
		}
		for j, w := range values {
			both := "[" + v + "," + w + "]"
			truths := []string{strconv.FormatBool(i == j), strconv.FormatBool(i != j)}
			c := impl.Order(read(t, v), read(t, w))
			truths = append(truths, strconv.FormatBool(c == -1), strconv.FormatBool(c == -1 || c == 0))
			evaluates(t, ".[0] == .[1], .[0] != .[1], .[0] < .[1], .[0] <= .[1]", both, strings.Join(truths, " "))
			evaluates(t, ".[0] + .[1]", both, sum(t, read(t, v), read(t, w)))
			evaluates(t, ".[0] - .[1]", both, difference(t, read(t, v), read(t, w)))
		}
	}
}

func TestEvalByKind(t *testing.T) {
	v := `{"a":[1,2,3],"b":{"c":null},"d":"xy"}`
	for _, c := range [][2]string{
		// keys and places
		{".a", "[1,2,3]"},
		{".A", "null"},
		{".b | .c", "null"},
		{".b | .c | .x", "null"},
		{".b | .c | .[7]", "null"},
		{".b | .c | .x | .[0] | .y", "null"},
		{".a | .[-2]", "2"},
		{".a | .x", evKind},
		{".b | .[0]", evKind},
		{".[]", `[1,2,3] {"c":null} "xy"`},
		// behind each other
		{".a | .[] | . + 10", "11 12 13"},
		{"empty | 1", ""},
		{"1 | empty", ""},
		{"empty | (true | length)", ""},
		{"(1, 2) | ., . + 10", "1 11 2 12"},
		{"(1, 2, 3) | (4, 5)", "4 5 4 5 4 5"},
		{"(1, 2) | (empty, 3) | (., 4)", "3 4 3 4"},
		{".a | length | . - 1", "2"},
		{"(true | length) | 1", evKind},
		{"(1, true) | length", evKind},
		{"(null, true) | length?", "0"},
		// beside each other
		{"empty, empty", ""},
		{"empty, 1", "1"},
		{"1, empty", "1"},
		{"1, (2, 3), 4", "1 2 3 4"},
		{".a, .q, .d", `[1,2,3] null "xy"`},
		{"1, (true | length)", evKind},
		{"(true | length), 1", evKind},
		// lists
		{"[empty]", "[]"},
		{"[1]", "[1]"},
		{"[.a | .[], 7]", "[1,2,3,7]"},
		{"[.a | .[] | ., 7]", "[1,7,2,7,3,7]"},
		{"[[]], []", "[[]] []"},
		{"[[.a | .[]], .d]", `[[1,2,3],"xy"]`},
		{"[1, (true | length)]", evKind},
		// maps
		{"{a: empty}", ""},
		{"{a: 1}", `{"a":1}`},
		{"{a: (1, 2)}", `{"a":1} {"a":2}`},
		{"{a: 1, b: empty}", ""},
		{"{a: empty, b: (true | length)}", ""},
		{"{a: (true | length), b: empty}", evKind},
		{"{a: 1, b: (true | length)}", evKind},
		{"{a: (1, 2), b: (3, 4)}", `{"a":1,"b":3} {"a":1,"b":4} {"a":2,"b":3} {"a":2,"b":4}`},
		{"{a: (1, 2), b: 0, c: (3, 4)}", `{"a":1,"b":0,"c":3} {"a":1,"b":0,"c":4} {"a":2,"b":0,"c":3} {"a":2,"b":0,"c":4}`},
		{"{A: (1, 2), _: (3, 4), a: (5, 6)} | .A + ._ + .a - 9", "0 1 1 2 1 2 2 3"},
		{"{x: .a, y: .b, z: .d}", `{"x":[1,2,3],"y":{"c":null},"z":"xy"}`},
		{"{a: 1, b: 2, c: 3, d: 4, e: (5, 6)}", `{"a":1,"b":2,"c":3,"d":4,"e":5} {"a":1,"b":2,"c":3,"d":4,"e":6}`},
		{"{a: null}", `{"a":null}`},
		{"{a: 1, b: 2, c: 3, d: (4, 5)}", `{"a":1,"b":2,"c":3,"d":4} {"a":1,"b":2,"c":3,"d":5}`},
		{"[{a: (1, 2), b: (1, 2), c: (1, 2), d: (1, 2), e: (1, 2)} | .a + .b + .c + .d + .e]", "[5,6,6,7,6,7,7,8,6,7,7,8,7,8,8,9,6,7,7,8,7,8,8,9,7,8,8,9,8,9,9,10]"},
		{"[{a: (1, 2), b: 0, c: 0, d: (1, 2), e: (1, 2)} | .d - .e - .a]", "[-1,-2,0,-1,-2,-3,-1,-2]"},
		// select
		{".a | .[] | select(. != 2)", "1 3"},
		{"select(empty)", ""},
		{".d | select(true, false, 0)", `"xy" "xy"`},
		{".d | select(null, false)", ""},
		{".d | select([], {}, \"\", 0, -1)", `"xy" "xy" "xy" "xy" "xy"`},
		{".d | select(.x)", evKind},
		{"select(1, (true | length))", evKind},
		// not, length, keys
		{"null, false, 0, true, [], \"\" | not", "true true false false false false"},
		{"keys", `["a","b","d"]`},
		{".a | keys", "[0,1,2]"},
		{".d | keys", evKind},
		{"-5, 5, null, \"\", \"abc\", [1], {}, {x: 1} | length", "5 5 0 0 3 1 0 1"},
		{"false | length", evKind},
	} {
		evaluates(t, c[0], v, c[1])
	}
}

func TestEvalOfTwo(t *testing.T) {
	v := `{"a":[1,2,3],"d":"xy"}`
	for _, c := range [][2]string{
		{"(1, 2) + (10, 20)", "11 21 12 22"},
		{"(1, 2) - (10, 20)", "-9 -19 -8 -18"},
		{"(1, 2) == (2, 1)", "false true true false"},
		{"(1, 2) != (2, 1)", "true false false true"},
		{"(1, 2) < (1, 2)", "false true false false"},
		{"(1, 2) <= (1, 2)", "true true false true"},
		{"(1, 2, 3) + 1", "2 3 4"},
		{"1 - (1, 2, 3)", "0 -1 -2"},
		{"empty + 1", ""},
		{"1 + empty", ""},
		{"empty + (true | length)", ""},
		{"(true | length) + empty", evKind},
		{"empty == empty", ""},
		{"1 <= empty", ""},
		{"empty < 1", ""},
		{"1 - 2 - 3", "-4"},
		{"1 - (2 - 3)", "2"},
		{".a + [4]", "[1,2,3,4]"},
		{".a - [2]", "[1,3]"},
		{".d + .d", `"xyxy"`},
		{".d + .q", `"xy"`},
		{"{a: 1, c: 1} + {a: 2, b: 3}", `{"a":2,"b":3,"c":1}`},
		{"null - null", evKind},
		{"1 + \"a\"", evKind},
		{"(null, 1) + (\"a\", 1)", evKind},
		{"(1, true) + 1", evKind},
		{"1 + (1, true)", evKind},
		{"1000000000000000 + 1", evLimit},
		{"-1000000000000000 - 1", evLimit},
		{"1 + 999999999999999", "1000000000000000"},
		{"(1000000000000000, true) + 1", evLimit},
		{"(true, 1000000000000000) + 1", evKind},
		{"1 + (1000000000000000, true)", evLimit},
		{"1 + (true, 1000000000000000)", evKind},
		// what the one ends with comes ahead of what the other one would
		{"(true | length) + (1000000000000000 + 1)", evKind},
		{"(1000000000000000 + 1) + (true | length)", evLimit},
		{"(1, (true | length)) + (1000000000000000 + 1)", evKind},
		{"(1, (true | length)) == (1000000000000000 + 1)", evKind},
		{"true + (1, (1000000000000000 + 1))", evLimit},
		{"(1, true) + (1, (1000000000000000 + 1))", evLimit},
		{"null < false, false < true, true < 0, 0 < \"\", \"\" < [], [] < {}", "true true true true true true"},
		{"{} < [], [] <= \"\", \"a\" < \"ab\", \"B\" < \"a\", [1] < [1, 0], [2] <= [1, 0]", "false false true true true false"},
		{"{b: 1} < {a: 2}, {a: 2} <= {a: 1}, {a: 1} <= {a: 1}, {a: 9} < {a: 1, b: 1}", "false false true true"},
		{"[1, [2]] == [1, [2]], [1, [2]] != [1, [3]], {a: 1} == {a: 1}, \"a\" == \"a\", 1 == \"1\"", "true true true true false"},
	} {
		evaluates(t, c[0], v, c[1])
	}
}

func TestEvalOfAlternatives(t *testing.T) {
	v := `{"a":[1,2,3],"d":"xy","n":null}`
	for _, c := range [][2]string{
		// a has outcomes that count
		{"1 // 9", "1"},
		{"(null, 1, false, 2) // 9", "1 2"},
		{"(1, null) // (true | length)", "1"},
		{"(0, \"\", [], {}) // 9", `0 "" [] {}`},
		{".a // .d", "[1,2,3]"},
		{"(.a | .[]) // 9", "1 2 3"},
		// has only others
		{"null // 9", "9"},
		{"(null, false) // 9", "9"},
		{"(null, false) // (8, null, false)", "8 null false"},
		{".n // .d", `"xy"`},
		{".q // empty", ""},
		{"null // (true | length)", evKind},
		{"null // null // 3", "3"},
		{"null // 2 // 3", "2"},
		{"(1 // 2) // 3", "1"},
		{"(null // false) // 3", "3"},
		// has none
		{"empty // 9", "9"},
		{"empty // empty", ""},
		{"empty // (1, 2)", "1 2"},
		// ends with EvKind
		{"(.d | .x) // 9", "9"},
		{"(1, (true | length)) // 9", "9"},
		{"(1, (true | length), 2) // (3, 4)", "3 4"},
		{"(true | length) // (true | length)", evKind},
		{"(true | length) // (false | length) // 3", "3"},
		// ends with another code
		{"(1000000000000000 + 1) // 9", evLimit},
		{"(1, (1000000000000000 + 1)) // 9", evLimit},
		{"((true | length), (1000000000000000 + 1)) // 9", "9"},
		{"((1000000000000000 + 1), (true | length)) // 9", evLimit},
		{"(true | length) // (1000000000000000 + 1)", evLimit},
		// ?
		{"1?", "1"},
		{"(1, 2)?", "1 2"},
		{"empty?", ""},
		{"(null, false)?", "null false"},
		{"(.d | .x)?", ""},
		{"(1, (true | length))?", ""},
		{"(1, (true | length)?, 2)", "1 2"},
		{"(1, (true | length)?, 2)?", "1 2"},
		{"(1, (.d | .x)?), 7", "1 7"},
		{"(1000000000000000 + 1)?", evLimit},
		{"((true | length), (1000000000000000 + 1))?", ""},
		{"((1000000000000000 + 1), (true | length))?", evLimit},
		{"(1000000000000000 + 1)??", evLimit},
		{".x?, .[0]?, .[]?, 5", `null [1,2,3] "xy" null 5`},
		{".d | .x?, .[0]?, .[]?, keys?, 5", "5"},
		{"(\"a\" + 1)?, (\"a\" - \"a\")?, 5", "5"},
		{"(1, \"a\" | . + 1)?", ""},
		{"(1, \"a\") | (. + 1)?", "2"},
		// a is evaluated to its end ahead of what is behind it
		{"((1, (1000000000000000 + 1)) | .x)?", evLimit},
		{"((1, (true | length)) | (1000000000000000 + 1))?", ""},
		{"((1, (1000000000000000 + 1)) | .x) // 9", evLimit},
	} {
		evaluates(t, c[0], v, c[1])
	}
}

func TestEvalOfIf(t *testing.T) {
	v := `{"a":[1,2,3],"b":{"c":null},"d":"xy"}`
	for _, c := range [][2]string{
		{"if true then 1 else 2 end", "1"},
		{"if false then 1 else 2 end", "2"},
		{"if null then 1 else 2 end", "2"},
		{"if 0 then 1 else 2 end", "1"},
		{"if [] then 1 else 2 end", "1"},
		{"if empty then 1 else 2 end", ""},
		{"if (true, false) then 1 else 2 end", "1 2"},
		{"if (null, 1, false, 2) then (3, 4) else 5 end", "5 3 4 5 3 4"},
		{"if (true, false, true) then empty else 1 end", "1"},
		{"if .b | .c then .a else .d end", `"xy"`},
		// what follows is of v, not of what was asked
		{"if .d then .a else .b end", "[1,2,3]"},
		{"if .q then .a else .b end", `{"c":null}`},
		{"if .a | .[] then .d else . end", `"xy" "xy" "xy"`},
		{"if true then 1 else (true | length) end", "1"},
		{"if false then (true | length) else 1 end", "1"},
		{"if (true, false) then 1 else (true | length) end", evKind},
		{"if (true | length) then 1 else 2 end", evKind},
		{"if (true, (true | length)) then (1000000000000000 + 1) else 2 end", evKind},
		{"if (false, (1000000000000000 + 1)) then 1 else (true | length) end", evLimit},
		{"if if true then false else true end then 1 else if 1 then 2 else 3 end end", "2"},
	} {
		evaluates(t, c[0], v, c[1])
	}
}

func TestConstantsAreThemselves(t *testing.T) {
	for _, c := range [][]impl.VNode{null(), truth(0), truth(1), num(0), num(impl.MaxInt), num(-impl.MaxInt), text(""), text(strings.Repeat("\x7f", 60))} {
		for _, s := range eachKind {
			if got := outcomes(t, constant(c), read(t, s), 1); got != impl.JsonText(c) {
				t.Error(c, s, got)
			}
		}
	}
}

func TestPlacesOfGreatLists(t *testing.T) {
	v := wideList(80)
	for n := int64(-80); n <= 80; n++ {
		want := "null"
		if n >= 0 && n < 79 {
			want = strconv.FormatInt(n, 10)
		}
		if n < 0 && n >= -79 {
			want = strconv.FormatInt(79+n, 10)
		}
		if got := outcomes(t, placed(n), v, 1); got != want {
			t.Error(n, got)
		}
	}
	if got := outcomes(t, kind(impl.FlKeys), v, 1); got != impl.JsonText(v) {
		t.Error(got)
	}
	keys := keyed(t, 79)
	got, code := impl.Eval(kind(impl.FlKeys), keys, 1)
	if code != impl.EvDone || len(got) != 1 || len(got[0]) != 80 || got[0][78].S != keys[79].Keys[78] {
		t.Error(got, code)
	}
}

// each of these has a hole for a filter; the outcomes are those of . in it, for 3
var around = map[string]string{
	"HOLE | . + 1":                      "4",
	". | HOLE":                          "3",
	"HOLE, 1":                           "3 1",
	"1, HOLE":                           "1 3",
	"[HOLE]":                            "[3]",
	"{a: HOLE}":                         `{"a":3}`,
	"{a: (1, 2), b: HOLE}":              `{"a":1,"b":3} {"a":2,"b":3}`,
	"{a: HOLE, b: (1, 2)}":              `{"a":3,"b":1} {"a":3,"b":2}`,
	"select(HOLE)":                      "3",
	"HOLE + 2":                          "5",
	"2 + HOLE":                          "5",
	"HOLE - 2":                          "1",
	"2 - HOLE":                          "-1",
	"HOLE == 3":                         "true",
	"3 == HOLE":                         "true",
	"HOLE != 3":                         "false",
	"3 != HOLE":                         "false",
	"HOLE < 4":                          "true",
	"4 < HOLE":                          "false",
	"HOLE <= 4":                         "true",
	"4 <= HOLE":                         "false",
	"HOLE // 1":                         "3",
	"null // HOLE":                      "3",
	"if HOLE then 1 else 2 end":         "1",
	"if 1 then HOLE else 2 end":         "3",
	"if null then 1 else HOLE end":      "3",
	"HOLE?":                             "3",
	"[HOLE, HOLE] | .[1]":               "3",
	"if (1, null) then HOLE else 2 end": "3 2",
}

func TestEachKindInEachPlace(t *testing.T) {
	for hole, want := range around {
		in := func(s string) string { return strings.ReplaceAll(hole, "HOLE", s) }
		evaluates(t, in("."), "3", want)
		// filters of each kind that say 3 for 3
		for _, s := range []string{"({x: .} | .x)", "([.] | .[0])", "([.] | .[])", "3", "(. | .)", "(empty, .)", "(., empty)", "([.] | .[-1])", "({a: .} | .[])", "select(.)", "length", "([1, 2, 3] | length)", "([0, 1, 2, 3] | keys | .[-1])", "(if (. | not) then 1 else . end)", "(1 + 2)", "(. - 0)", "(if . == 3 then . else 1 end)", "(if . != 3 then 1 else . end)", "(if . < 3 then 1 else . end)", "(if . <= 3 then . else 1 end)", "(. // 1)", "(.x // .)", ".?", "((.x?), .)"} {
			evaluates(t, in(s), "3", want)
		}
	}
	// and what ends does so from within each place that is reached
	for hole := range around {
		in := func(s string) string { return strings.ReplaceAll(hole, "HOLE", s) }
		if want := evKind; hole != "HOLE // 1" && hole != "HOLE?" {
			evaluates(t, in("(true | length)"), "3", want)
		}
		evaluates(t, in("(1000000000000000 + 1)"), "3", evLimit)
	}
	evaluates(t, "(true | length) // 1", "3", "1")
	evaluates(t, "(true | length)?", "3", "")
}

func TestEvalOfWhatIsNotRight(t *testing.T) {
	self, one := kind(impl.FlSelf), num(1)
	for name, v := range wrongValues() {
		for _, fuel := range []int64{0, 1, impl.MaxFuel, impl.MaxFuel + 1, -1} {
			for _, f := range filled() {
				if got := outcomes(t, f, v, fuel); got != evForm {
					t.Error(name, f, fuel, got)
				}
			}
		}
	}
	for name, f := range wrongFilters() {
		for _, fuel := range []int64{0, 1, impl.MaxFuel, impl.MaxFuel + 1, -1} {
			if got := outcomes(t, f, one, fuel); got != evForm {
				t.Error(name, fuel, got)
			}
			if got := outcomes(t, f, truth(2), fuel); got != evForm {
				t.Error(name, fuel, got)
			}
		}
	}
	for _, fuel := range []int64{-1, -2, math.MinInt64, impl.MaxFuel + 1, math.MaxInt64} {
		for _, f := range append(filled(), self) {
			if got := outcomes(t, f, one, fuel); got != evForm {
				t.Error(f, fuel, got)
			}
		}
	}
}

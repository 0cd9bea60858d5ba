package tests

import (
	"math/rand"
	"slices"
	"strconv"
	"strings"
	"testing"

	"loop.example/g00345/impl"
)

// answered is the JSON text of what a call answered, or its code.
func answered(t *testing.T, v []impl.VNode, code int64) string {
	t.Helper()
	if code != impl.EvDone {
		if len(v) != 0 {
			t.Error("code", code, "with", v)
		}
		return "code " + strconv.FormatInt(code, 10)
	}
	if !impl.ValueOk(v) {
		t.Error("not right", v)
	}
	return impl.JsonText(v)
}

func sum(t *testing.T, a, b []impl.VNode) string {
	t.Helper()
	v, code := impl.Plus(a, b)
	return answered(t, v, code)
}

func difference(t *testing.T, a, b []impl.VNode) string {
	t.Helper()
	v, code := impl.Minus(a, b)
	return answered(t, v, code)
}

func length(t *testing.T, a []impl.VNode) string {
	t.Helper()
	v, code := impl.LengthOf(a)
	return answered(t, v, code)
}

const (
	evForm  = "code 1"
	evKind  = "code 2"
	evLimit = "code 3"
	evFuel  = "code 4"
)

// eachKind are values of each of the six kinds, empty and not.
var eachKind = []string{"null", "false", "true", "0", "7", "-7", `""`, `"ab"`, "[]", `[1,"x",[2]]`, "{}", `{"a":1,"b":[2]}`}

func TestEvalCodes(t *testing.T) {
	if impl.EvDone != 0 || impl.EvForm != 1 || impl.EvKind != 2 || impl.EvLimit != 3 || impl.EvFuel != 4 || impl.MaxOuts != 40 || impl.MaxFuel != 2000 {
		t.Error("other numbers")
	}
}

func TestPlusOfNull(t *testing.T) {
	for _, s := range eachKind {
		if got := sum(t, null(), read(t, s)); got != s {
			t.Error("null +", s, got)
		}
		if got := sum(t, read(t, s), null()); got != s {
			t.Error(s, "+ null", got)
		}
	}
	for _, v := range [][]impl.VNode{wideList(80), deepList(8), keyed(t, 79), text(strings.Repeat("x", 60)), num(impl.MaxInt), num(-impl.MaxInt)} {
		if sum(t, null(), v) != impl.JsonText(v) || sum(t, v, null()) != impl.JsonText(v) {
			t.Error(v)
		}
	}
}

func TestPlus(t *testing.T) {
	for _, c := range []struct{ a, b, want string }{
		{"1", "2", "3"},
		{"0", "0", "0"},
		{"5", "-8", "-3"},
		{"-1", "1", "0"},
		{"999999999999999", "1", "1000000000000000"},
		{"1000000000000000", "0", "1000000000000000"},
		{"1000000000000000", "-1000000000000000", "0"},
		{"1000000000000000", "1", evLimit},
		{"1", "1000000000000000", evLimit},
		{"1000000000000000", "1000000000000000", evLimit},
		{"-999999999999999", "-1", "-1000000000000000"},
		{"-1000000000000000", "-1", evLimit},
		{"-1000000000000000", "-1000000000000000", evLimit},
		{`""`, `""`, `""`},
		{`"ab"`, `""`, `"ab"`},
		{`""`, `"ab"`, `"ab"`},
		{`"ab"`, `"ba"`, `"abba"`},
		{`"\u0000"`, `"\u007f"`, `"\u0000\u007f"`},
		{"[]", "[]", "[]"},
		{"[]", "[1]", "[1]"},
		{"[1]", "[]", "[1]"},
		{"[1,2]", "[2,1]", "[1,2,2,1]"},
		{`[null,[1]]`, `[{"a":[]},[[]]]`, `[null,[1],{"a":[]},[[]]]`},
		{"{}", "{}", "{}"},
		{"{}", `{"a":1}`, `{"a":1}`},
		{`{"a":1}`, "{}", `{"a":1}`},
		{`{"a":1}`, `{"a":2}`, `{"a":2}`},
		{`{"a":1}`, `{"b":2}`, `{"a":1,"b":2}`},
		{`{"b":2}`, `{"a":1}`, `{"a":1,"b":2}`},
		{`{"b":2,"d":4}`, `{"a":1,"c":3,"e":5}`, `{"a":1,"b":2,"c":3,"d":4,"e":5}`},
		{`{"a":1,"b":2,"c":3}`, `{"b":null,"c":[7]}`, `{"a":1,"b":null,"c":[7]}`},
		{`{"a":null,"b":false}`, `{"a":1,"b":2}`, `{"a":1,"b":2}`},
		// maps in maps are b's, not plus each other
		{`{"a":{"x":1}}`, `{"a":{"y":2}}`, `{"a":{"y":2}}`},
		{`{"":1,"a":2,"ab":3}`, `{"A":4,"a":5,"b":6}`, `{"":1,"A":4,"a":5,"ab":3,"b":6}`},
		{"true", "true", evKind},
		{"true", "false", evKind},
		{"false", "false", evKind},
	} {
		if got := sum(t, read(t, c.a), read(t, c.b)); got != c.want {
			t.Error(c.a, "+", c.b, got)
		}
	}
}

func TestMergingUnlikeKinds(t *testing.T) {
	for _, s := range eachKind {
		for _, w := range eachKind {
			a, b := read(t, s), read(t, w)
			x, y := a[len(a)-1].Kind, b[len(b)-1].Kind
			if x != y && x != impl.VlNull && y != impl.VlNull && sum(t, a, b) != evKind {
				t.Error(s, "+", w, sum(t, a, b))
			}
			if (x != y || x != impl.VlInt && x != impl.VlList) && difference(t, a, b) != evKind {
				t.Error(s, "-", w, difference(t, a, b))
			}
		}
	}
}

func TestPlusWithinTheLimits(t *testing.T) {
	x := func(n int) []impl.VNode { return text(strings.Repeat("x", n)) }
	for n := range 61 {
		if got := sum(t, x(n), x(60-n)); got != impl.JsonText(x(60)) {
			t.Error(n, got)
		}
		if n > 0 && sum(t, x(n), x(61-n)) != evLimit {
			t.Error(n)
		}
	}
	if sum(t, x(60), x(60)) != evLimit {
		t.Error("120 bytes")
	}
	// lists of m and n nodes make one of m + n - 1
	for m := 1; m <= 80; m++ {
		got, ok := impl.ListOf(append(impl.PartsOf(wideList(m)), impl.PartsOf(wideList(81-m))...))
		if !ok || sum(t, wideList(m), wideList(81-m)) != impl.JsonText(got) {
			t.Error(m)
		}
		if m > 1 && sum(t, wideList(m), wideList(82-m)) != evLimit {
			t.Error(m)
		}
	}
	if sum(t, wideList(80), wideList(80)) != evLimit {
		t.Error("159 nodes")
	}
	manyKeys(t)
	// what is not deeper than either is not deeper together
	if got := sum(t, deepList(8), deepList(8)); got != "["+strings.Repeat("[", 7)+strings.Repeat("]", 7)+","+strings.Repeat("[", 7)+strings.Repeat("]", 8) {
		t.Error(got)
	}
	deep := mapped(t, []string{"a"}, deepList(7))
	if got := sum(t, deep, mapped(t, []string{"b"}, deepList(7))); got != `{"a":[[[[[[[]]]]]]],"b":[[[[[[[]]]]]]]}` {
		t.Error(got)
	}
}

// manyKeys asks for maps of 79 and 80 keys, and for those whose keys are the other's, too.
func manyKeys(t *testing.T) {
	t.Helper()
	of := func(from, to int) []impl.VNode {
		var keys []string
		for i := from; i < to; i++ {
			keys = append(keys, "k"+strconv.Itoa(100+i))
		}
		return mapped(t, keys, slices.Repeat([][]impl.VNode{num(int64(to))}, len(keys))...)
	}
	for n := range 80 {
		all, code := impl.Plus(of(0, n), of(n, 79))
		if code != impl.EvDone || len(all) != 80 || len(all[79].Keys) != 79 {
			t.Error(n, code)
		}
		if sum(t, of(0, 79), of(n, 79)) == evLimit || sum(t, of(n, 79), of(0, 79)) == evLimit {
			t.Error(n, "keys of both")
		}
		if n > 0 && sum(t, of(0, n), of(n, 80)) != evLimit {
			t.Error(n, "80 keys")
		}
	}
	// b's part in place of a's may be too much, or less
	small, great := mapped(t, []string{"a", "b"}, num(1), wideList(40)), mapped(t, []string{"a"}, wideList(39))
	if got := sum(t, small, great); got == evLimit {
		t.Error(got)
	}
	if got := sum(t, small, mapped(t, []string{"a"}, wideList(40))); got != evLimit {
		t.Error(got)
	}
	if got := sum(t, mapped(t, []string{"a"}, wideList(79)), small); got != impl.JsonText(small) {
		t.Error(got)
	}
}

func TestMinus(t *testing.T) {
	for _, c := range []struct{ a, b, want string }{
		{"3", "2", "1"},
		{"2", "3", "-1"},
		{"0", "0", "0"},
		{"5", "-8", "13"},
		{"-1000000000000000", "0", "-1000000000000000"},
		{"-999999999999999", "1", "-1000000000000000"},
		{"-1000000000000000", "1", evLimit},
		{"0", "-1000000000000000", "1000000000000000"},
		{"1", "-1000000000000000", evLimit},
		{"999999999999999", "-1", "1000000000000000"},
		{"1000000000000000", "-1", evLimit},
		{"1000000000000000", "-1000000000000000", evLimit},
		{"-1000000000000000", "1000000000000000", evLimit},
		{"1000000000000000", "1000000000000000", "0"},
		{"[]", "[]", "[]"},
		{"[]", "[1]", "[]"},
		{"[1]", "[]", "[1]"},
		{"[1,2,3]", "[2]", "[1,3]"},
		{"[1,2,3]", "[2,2]", "[1,3]"},
		{"[1,2,3]", "[4]", "[1,2,3]"},
		{"[3,1,2,1,3]", "[1,9]", "[3,2,3]"},
		{"[2,2,1,2]", "[2]", "[1]"},
		{"[1,1]", "[2]", "[1,1]"},
		{"[1,2]", "[2,1]", "[]"},
		{`[0,false,null,"",[],{}]`, "[null]", `[0,false,"",[],{}]`},
		{`[0,false,null,"",[],{}]`, "[0]", `[false,null,"",[],{}]`},
		{`[0,false,null,"",[],{}]`, "[false]", `[0,null,"",[],{}]`},
		{`[0,false,null,"",[],{}]`, `[""]`, `[0,false,null,[],{}]`},
		{`[0,false,null,"",[],{}]`, "[[]]", `[0,false,null,"",{}]`},
		{`[0,false,null,"",[],{}]`, "[{}]", `[0,false,null,"",[]]`},
		{"[[1,2],[2,1],[1],1]", "[[1,2]]", "[[2,1],[1],1]"},
		{"[[1,2],[2,1],[1],1]", "[1,2]", "[[1,2],[2,1],[1]]"},
		{`[{"a":1,"b":2},{"a":1},{"b":2}]`, `[{"b":2,"a":1}]`, `[{"a":1},{"b":2}]`},
		{`[{"a":1},{"a":2}]`, `[{"a":2},{"a":2},{"c":1}]`, `[{"a":1}]`},
		{`["a","A","aa"]`, `["a"]`, `["A","aa"]`},
		{"null", "null", evKind},
		{"null", "1", evKind},
		{"1", "null", evKind},
		{"null", "[]", evKind},
		{"[]", "null", evKind},
		{`"a"`, `"a"`, evKind},
		{"{}", "{}", evKind},
		{`{"a":1}`, `{"a":1}`, evKind},
		{"true", "true", evKind},
		{"[1]", "1", evKind},
		{"1", "[1]", evKind},
	} {
		if got := difference(t, read(t, c.a), read(t, c.b)); got != c.want {
			t.Error(c.a, "-", c.b, got)
		}
	}
	if got := difference(t, wideList(80), wideList(2)); got != impl.JsonText(list(t, impl.PartsOf(wideList(80))[1:]...)) {
		t.Error(got)
	}
}

func TestLengthOf(t *testing.T) {
	for s, want := range map[string]string{
		"null":              "0",
		"true":              evKind,
		"false":             evKind,
		"0":                 "0",
		"7":                 "7",
		"-7":                "7",
		"1000000000000000":  "1000000000000000",
		"-1000000000000000": "1000000000000000",
		`""`:                "0",
		`"ab"`:              "2",
		`"\n\u0000\u007f"`:  "3",
		"[]":                "0",
		"[null]":            "1",
		`[[1,2],[3]]`:       "2",
		"{}":                "0",
		`{"a":[1,2,3]}`:     "1",
		`{"":1,"b":2}`:      "2",
	} {
		if got := length(t, read(t, s)); got != want {
			t.Error(s, got)
		}
	}
	if length(t, wideList(80)) != "79" || length(t, keyed(t, 79)) != "79" || length(t, deepList(8)) != "1" || length(t, text(strings.Repeat("x", 60))) != "60" {
		t.Error("great values")
	}
}

func TestMergingWhatIsNotRight(t *testing.T) {
	for name, v := range wrongValues() {
		for _, s := range eachKind {
			w := read(t, s)
			if sum(t, v, w) != evForm || sum(t, w, v) != evForm || difference(t, v, w) != evForm || difference(t, w, v) != evForm {
				t.Error(name, s)
			}
		}
		if sum(t, v, v) != evForm || difference(t, v, v) != evForm || length(t, v) != evForm {
			t.Error(name)
		}
	}
}

// otherSum makes what Plus should of parts and keys, by the functions of chapter 1.
func otherSum(a, b []impl.VNode) ([]impl.VNode, int64) {
	x, y := a[len(a)-1], b[len(b)-1]
	if x.Kind == impl.VlNull {
		return b, impl.EvDone
	}
	if y.Kind == impl.VlNull {
		return a, impl.EvDone
	}
	if x.Kind != y.Kind || x.Kind == impl.VlBool {
		return nil, impl.EvKind
	}
	v, ok := []impl.VNode{{Kind: x.Kind, N: x.N + y.N, S: x.S + y.S}}, true
	switch x.Kind {
	case impl.VlList:
		v, ok = impl.ListOf(slices.Concat(impl.PartsOf(a), impl.PartsOf(b)))
	case impl.VlMap:
		keys, parts := slices.Clone(x.Keys), impl.PartsOf(a)
		for i, part := range impl.PartsOf(b) {
			if at := slices.Index(keys, y.Keys[i]); at >= 0 {
				parts[at] = part
			} else {
				keys, parts = append(keys, y.Keys[i]), append(parts, part)
			}
		}
		v, ok = impl.MapOf(keys, parts)
	}
	if !ok || !impl.ValueOk(v) {
		return nil, impl.EvLimit
	}
	return v, impl.EvDone
}

func otherDifference(a, b []impl.VNode) ([]impl.VNode, int64) {
	x, y := a[len(a)-1], b[len(b)-1]
	if x.Kind == impl.VlInt && y.Kind == impl.VlInt {
		if v := num(x.N - y.N); impl.ValueOk(v) {
			return v, impl.EvDone
		}
		return nil, impl.EvLimit
	}
	if x.Kind != impl.VlList || y.Kind != impl.VlList {
		return nil, impl.EvKind
	}
	var left [][]impl.VNode
	for _, part := range impl.PartsOf(a) {
		if !slices.ContainsFunc(impl.PartsOf(b), func(v []impl.VNode) bool { return same(v, part) }) {
			left = append(left, part)
		}
	}
	v, _ := impl.ListOf(left)
	return v, impl.EvDone
}

func TestMergedAsOtherwise(t *testing.T) {
	r := rand.New(rand.NewSource(81))
	all := append(slices.Concat(someValues(82, 150), wholes(83, 150), dressedValues(84, 100)), wideList(80), wideList(41), wideList(40), deepList(8), keyed(t, 79), keyed(t, 40))
	for range 60000 {
		a, b := all[r.Intn(len(all))], all[r.Intn(len(all))]
		v, code := impl.Plus(a, b)
		if w, want := otherSum(a, b); code != want || !same(v, w) {
			t.Fatal(impl.JsonText(a), "+", impl.JsonText(b), v, code)
		}
		v, code = impl.Minus(a, b)
		if w, want := otherDifference(a, b); code != want || !same(v, w) {
			t.Fatal(impl.JsonText(a), "-", impl.JsonText(b), v, code)
		}
	}
}

func TestMergedArgumentsStay(t *testing.T) {
	r := rand.New(rand.NewSource(85))
	all := append(wholes(86, 200), wideList(40), deepList(8), keyed(t, 40), keyed(t, 20), num(1), text("x"), null())
	for range 4000 {
		v, w := all[r.Intn(len(all))], all[r.Intn(len(all))]
		a, b := roomy(v), roomy(w)
		var answers [][]impl.VNode
		for range 2 {
			x, _ := impl.Plus(a, b)
			y, _ := impl.Minus(a, b)
			z, _ := impl.LengthOf(a)
			twice, _ := impl.Plus(a, a)
			answers = append(answers, x, y, z, twice)
		}
		if !sameAll(answers[:4], answers[4:]) {
			t.Fatal("another answer", v, w)
		}
		if shared(answers...) {
			t.Fatal("answers share memory", v, w)
		}
		if !untouched(a, v) || !untouched(b, w) {
			t.Fatal("an argument was written", v, w)
		}
	}
}

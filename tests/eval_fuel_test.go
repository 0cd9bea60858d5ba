package tests

import (
	"slices"
	"strconv"
	"strings"
	"testing"

	"loop.example/g00345/impl"
)

func TestLeastFuel(t *testing.T) {
	for _, c := range []struct {
		s, v string
		fuel int64
	}{
		{".", "1", 1},
		{".a", "{}", 1},
		{".[0]", "[1]", 1},
		{".[]", "[1,2,3]", 1},
		{"7", "1", 1},
		{"length", "[1,2]", 1},
		{"keys", "[1,2]", 1},
		{"not", "1", 1},
		{"empty", "1", 1},
		{"[]", "1", 1},
		{"{}", "1", 1},
		// of each outcome anew
		{"1 | 2", "1", 3},
		{"empty | 2", "1", 2},
		{".[] | 2", "[]", 2},
		{".[] | 2", "[1,2,3]", 5},
		{".[] | 1, 2", "[1,2,3]", 11},
		{".[] | .[] | .", "[[1,2],[],[3]]", 11},
		{"(.[] | .[]) | .", "[[1,2],[],[3]]", 9},
		{"1, 2", "1", 3},
		{"1, 2, 3", "1", 5},
		{"empty, empty", "1", 3},
		{"[1]", "1", 2},
		{"[.[]]", "[1,2,3]", 2},
		{"[empty]", "1", 2},
		// other kids for each choice ahead of them
		{"{a: 1}", "1", 2},
		{"{a: .[]}", "[1,2,3]", 2},
		{"{a: 1, b: 2, c: 3}", "1", 4},
		{"{a: .[], b: 1}", "[1,2,3]", 5},
		{"{a: 1, b: .[]}", "[1,2,3]", 3},
		{"{a: (1, 2), b: (3, 4)}", "1", 10},
		{"{a: (1, 2), b: (3, 4), c: 5}", "1", 14},
		{"{a: .[], b: .[], c: .[]}", "[1,2,3]", 14},
		{"{a: (1, 2), b: empty, c: (3, 4)}", "1", 6},
		{"{a: empty, b: 1}", "1", 2},
		{"{a: 1, b: empty}", "1", 3},
		{"{a: .[], b: .[], c: .[], d: .[], e: .[]}", "[1,2]", 32},
		{"select(.)", "1", 2},
		{"select(.[])", "[1,2,null]", 2},
		{"select(1 == 2)", "1", 4},
		// b anew for each outcome of a
		{"1 + 2", "1", 3},
		{"1 - 2", "1", 3},
		{"1 == 2", "1", 3},
		{"1 != 2", "1", 3},
		{"1 < 2", "1", 3},
		{"1 <= 2", "1", 3},
		{"empty + 1", "1", 2},
		{"1 + empty", "1", 3},
		{".[] + 1", "[1,2,3]", 5},
		{"1 + .[]", "[1,2,3]", 3},
		{".[] - .[]", "[1,2,3]", 5},
		{"(1, 2) <= (3, 4)", "1", 10},
		{"(1, 2) + (3, 4) + (5, 6)", "1", 23},
		{"(1, 2) + ((3, 4) + (5, 6))", "1", 24},
		// b only when it is asked for
		{"1 // 2", "1", 2},
		{"null // 2", "1", 3},
		{"empty // 2", "1", 3},
		{"(null, 1) // 2", "1", 4},
		{"(null, false) // 2", "1", 5},
		{".[] // 2", "[null,1]", 2},
		{".[] // 2", "[null,null]", 3},
		{".[] // 2", "1", 3},
		{"(true | length) // 2", "1", 5},
		{"(true | length, 1) // 2", "1", 6},
		{"null // null // 3", "1", 5},
		{"if true then 1 else (2, 3) end", "1", 3},
		{"if false then 1 else (2, 3) end", "1", 5},
		{"if empty then 1 else 2 end", "1", 2},
		{"if .[] then 1 else (2, 3) end", "[true,false,null]", 9},
		{"if .[] then 1 else 2 end", "[1,2,3]", 5},
		{"1?", "1", 2},
		{"1??", "1", 3},
		{".[]?", "[1,2]", 2},
		{".[]?", "1", 2},
		// what was used ahead of EvKind stays used
		{"(1, 2, (true | length), 3)?, 4", "1", 11},
		{"(1, 2, (true | length), 3) // 4", "1", 10},
		{".[] | (. + 1)?", "[1,true,\"a\"]", 14},
		{"[.[] | select(. != 2)]", "[1,2,3]", 15},
	} {
		f, v := filter(t, c.s), read(t, c.v)
		want := outcomes(t, f, v, impl.MaxFuel)
		if strings.HasPrefix(want, "code") {
			t.Errorf("%s of %s: %s", c.s, c.v, want)
		}
		for fuel := range c.fuel {
			if got := outcomes(t, f, v, fuel); got != evFuel {
				t.Errorf("%s of %s, %d of fuel: %s", c.s, c.v, fuel, got)
			}
		}
		for _, fuel := range []int64{c.fuel, c.fuel + 1, c.fuel + 2, 2 * c.fuel, 1999, 2000} {
			if got := outcomes(t, f, v, fuel); got != want {
				t.Errorf("%s of %s, %d of fuel: %s, not %s", c.s, c.v, fuel, got, want)
			}
		}
		if outcomes(t, f, v, 2001) != evForm || outcomes(t, f, v, -1) != evForm {
			t.Error(c.s, "with fuel that may not be")
		}
	}
}

func TestNoFuelForAnyKind(t *testing.T) {
	for _, f := range filled() {
		for _, s := range eachKind {
			if got := outcomes(t, f, read(t, s), 0); got != evFuel {
				t.Error(f, s, got)
			}
		}
	}
}

// piecewise is a list of lists of so many numbers.
func piecewise(t *testing.T, counts ...int) []impl.VNode {
	t.Helper()
	var parts [][]impl.VNode
	for _, n := range counts {
		parts = append(parts, wideList(n+1))
	}
	return list(t, parts...)
}

func TestAllOfTheFuel(t *testing.T) {
	// c is evaluated for each of 40 * 40 choices ahead of it
	f, v := filter(t, "[{a: .[], b: .[], c: empty}]"), wideList(41)
	if outcomes(t, f, v, 1643) != "[]" || outcomes(t, f, v, 1642) != evFuel {
		t.Error(outcomes(t, f, v, 1643), outcomes(t, f, v, 1642))
	}
	f = filter(t, "[{a: .[], b: .[], c: (empty | .)}]")
	if outcomes(t, f, v, 2000) != evFuel {
		t.Error(outcomes(t, f, v, 2000))
	}
	// with 25 parts it uses 1903, what is beside it 53, 27 and 14, the three commas one each
	v = wideList(26)
	row := []([]impl.FNode){filter(t, "[{a: .[], b: .[], c: (empty, empty)}]"), filter(t, "[{a: .[], b: 1, c: empty}]"), filter(t, ".[] | ."), kind(impl.FlTry, piped(13))}
	f = row[0]
	for _, g := range row[1:] {
		f = kind(impl.FlComma, f, g)
	}
	for fuel := range int64(2000) {
		if got := outcomes(t, f, v, fuel); got != evFuel {
			t.Fatal(fuel, got)
		}
	}
	if l, code := impl.Eval(f, v, 2000); code != impl.EvDone || len(l) != 28 {
		t.Error(code, l)
	}
	if got := outcomes(t, kind(impl.FlTry, f), v, 2000); got != evFuel {
		t.Error(got)
	}
}

func TestFortyOutcomes(t *testing.T) {
	for _, c := range []struct {
		s     string
		parts int // with so many parts, all of them 0, there are 40 outcomes at a node
		least int // with so many there are more
	}{
		{".[]", 40, 41},
		{".[] | .", 40, 41},
		{". | .[]", 40, 41},
		{".[], 1", 39, 40},
		{"1, .[]", 39, 40},
		{".[], .[]", 20, 21},
		{".[], empty", 40, 41},
		{"(., .) | .[]", 20, 21},
		{".[] | ., 1", 20, 21},
		{"{a: .[]}", 40, 41},
		{"{a: (1, 2), b: .[]}", 20, 21},
		{"{a: .[], b: (1, 2)}", 20, 21},
		{"{a: (1, 2), b: .[], c: (1, 2)}", 10, 11},
		{"select(.[])", 40, 41},
		{"select(.[], .[])", 20, 21},
		{".[] + 1", 40, 41},
		{"1 - .[]", 40, 41},
		{"(1, 2) + .[]", 20, 21},
		{".[] - (1, 2)", 20, 21},
		{"(1, 2) == .[]", 20, 21},
		{"(1, 2) != .[]", 20, 21},
		{".[] < (1, 2)", 20, 21},
		{".[] <= (1, 2)", 20, 21},
		{".[] // 1", 40, 41},
		{"null // .[]", 40, 41},
		{"if .[] then 1 else 2 end", 40, 41},
		{"if .[] then 1, 2 else 3 end", 20, 21},
		{"if (true, null) then .[] else .[] end", 20, 21},
		{".[]?", 40, 41},
		{"(.[] | ., 1)?", 20, 21},
		{"(.[], .[])?", 20, 21},
		// what is gathered is one
		{"[.[]]", 40, 41},
		{"[.[]], [.[]] | .[1]", 40, 41},
	} {
		for n := range c.least + 2 {
			v := list(t, slices.Repeat([][]impl.VNode{num(0)}, n)...)
			l, code := impl.Eval(filter(t, c.s), v, impl.MaxFuel)
			if n >= c.least && code != impl.EvLimit || n <= c.parts && code != impl.EvDone || code != impl.EvDone && len(l) > 0 {
				t.Error(c.s, n, code, len(l))
			}
			if n == c.parts && len(l) != 40 && c.s[0] != '[' {
				t.Error(c.s, n, len(l))
			}
		}
	}
	if got := outcomes(t, kind(impl.FlEach), keyed(t, 41), 1); got != evLimit {
		t.Error(got)
	}
	if l, code := impl.Eval(kind(impl.FlEach), keyed(t, 40), 1); code != impl.EvDone || len(l) != 40 {
		t.Error(l, code)
	}
}

func TestManyOutcomesThatAreNotKept(t *testing.T) {
	// a node within has too many, though few are left of them
	for _, s := range []string{".[] | select(. == 0)", "[.[] | empty]", "{a: .[], b: empty}", ".[] + empty", "if .[] then empty else empty end", "(.[] | null) // 1", ".[] // 1", "(.[])?", "select(.[] | not)", "empty, (.[] | empty)"} {
		if got := outcomes(t, filter(t, s), wideList(42), impl.MaxFuel); got != evLimit {
			t.Error(s, got)
		}
	}
	// many more than 40 are evaluated, but no node has more
	v := piecewise(t, 30, 30)
	for s, want := range map[string]string{
		".[] | [.[]] | length":                    "30 30",
		"[(.[] | .[]) | select(. < 2)]":           evLimit,
		"[.[] | .[] | select(. < 2)]":             "[0,1,0,1]",
		"[.[] | select([.[]] | length | . == 3)]": "[]",
		"[.[] | {a: .[], b: .[], c: empty}]":      "[]",
	} {
		if got := outcomes(t, filter(t, s), v, impl.MaxFuel); got != want {
			t.Error(s, got)
		}
	}
}

// ends asks for the code of a filter for v with each fuel: EvFuel below least, else that.
func ends(t *testing.T, s string, v []impl.VNode, least int64, want string) {
	t.Helper()
	f := filter(t, s)
	for _, fuel := range []int64{0, least - 1} {
		if got := outcomes(t, f, v, fuel); got != evFuel {
			t.Errorf("%s, %d of fuel: %s", s, fuel, got)
		}
	}
	for _, fuel := range []int64{least, least + 1, impl.MaxFuel} {
		if got := outcomes(t, f, v, fuel); got != want {
			t.Errorf("%s, %d of fuel: %s, not %s", s, fuel, got, want)
		}
	}
}

func TestLimitsAheadOfWhatIsEvaluatedNext(t *testing.T) {
	forty, more := wideList(41), wideList(42)
	// all of .[] comes ahead of the first thing behind it
	ends(t, ".[] | .", more, 2, evLimit)
	ends(t, ".[] | (true | length)", more, 2, evLimit)
	ends(t, ".[] | (true | length)", forty, 5, evKind)
	ends(t, ".[] | (1000000000000000 + 1)", more, 2, evLimit)
	ends(t, ".[] | (1000000000000000 + 1)", forty, 5, evLimit)
	ends(t, ".[], (true | length)", more, 2, evLimit)
	ends(t, ".[], (true | length)", forty, 5, evKind)
	ends(t, "(true | length), .[]", more, 4, evKind)
	ends(t, "(1000000000000000 + 1), .[]", more, 4, evLimit)
	ends(t, ".[], 1, (true | length)", forty, 4, evLimit)
	ends(t, ".[], 1, (true | length)", wideList(40), 7, evKind)
	ends(t, ".[], (1, (true | length))", forty, 7, evKind)
	ends(t, "{a: .[], b: (true | length)}", more, 2, evLimit)
	ends(t, "{a: .[], b: (true | length)}", forty, 5, evKind)
	ends(t, ".[] + (true | length)", more, 2, evLimit)
	ends(t, ".[] + (true | length)", forty, 5, evKind)
	ends(t, ".[] == (true | length)", more, 2, evLimit)
	ends(t, "true + .[]", more, 3, evLimit)
	ends(t, "true + .[]", forty, 3, evKind)
	ends(t, "if .[] then (true | length) else 1 end", more, 2, evLimit)
	ends(t, "if .[] then (true | length) else 1 end", forty, 5, evKind)
	ends(t, ".[] // (true | length)", more, 2, evLimit)
	ends(t, "(.[])?, (true | length)", more, 3, evLimit)
	ends(t, "(.[], 1)?, (true | length)", forty, 5, evLimit)
	ends(t, "((.[], 1) | (true | length))?", forty, 5, evLimit)
	ends(t, "select(.[], 1, (true | length))", forty, 5, evLimit)
	ends(t, "[.[], 1, (true | length)]", forty, 5, evLimit)
}

func TestLimitsBetweenOutcomes(t *testing.T) {
	// the second round passes the limit, the third would end otherwise
	with := func(v []impl.VNode, counts ...int) []impl.VNode {
		return list(t, append(impl.PartsOf(piecewise(t, counts...)), v)...)
	}
	ends(t, ".[] | .[]", with(truth(1), 20, 21), 4, evLimit)
	ends(t, ".[] | .[]", with(truth(1), 20, 20), 5, evKind)
	ends(t, ".[] | .[]", list(t, wideList(21), truth(1), wideList(22)), 4, evKind)
	ends(t, ".[] | .[]", with(wideList(1), 20, 21), 4, evLimit)
	ends(t, ".[] | .[]", with(wideList(2), 20, 20), 5, evLimit)
	ends(t, "if .[0] | .[] then .[1] | .[] else true | .[] end", with(null(), 2, 21), 10, evLimit)
	ends(t, "if .[] then (1, 2) else (true | length) end", list(t, slices.Concat(slices.Repeat([][]impl.VNode{num(0)}, 21), [][]impl.VNode{null()})...), 65, evLimit)
	ends(t, "if .[] then (1, 2) else (true | length) end", list(t, slices.Concat(slices.Repeat([][]impl.VNode{num(0)}, 20), [][]impl.VNode{null()})...), 65, evKind)
	// b for the third outcome of a
	ends(t, "(1, 2, 3) + .[]", wideList(21), 9, evLimit)
	ends(t, "(1, 2, 3) + .[]", wideList(22), 8, evLimit)
	ends(t, "(1, 2, \"x\") + .[]", wideList(22), 8, evLimit)
	ends(t, "(1, 2, \"x\") + .[]", wideList(21), 9, evKind)
	ends(t, "(1, 2, 3) < .[]", wideList(22), 8, evLimit)
	ends(t, "{a: (1, 2, 3), b: .[]}", wideList(21), 9, evLimit)
	ends(t, "{a: (1, 2, 3), b: .[]}", wideList(22), 8, evLimit)
	ends(t, "{a: (1, 2), b: .[], c: 1}", wideList(22), 47, evLimit)
	ends(t, "{a: (1, 2), b: .[], c: (1, 2)}", wideList(22), 68, evLimit)
}

func TestLimitsOnEachOutcome(t *testing.T) {
	// 40 of null and each of these, then one of 1 and the first of them: what the second would end with is not asked
	v := list(t, append([][]impl.VNode{num(0), text("x")}, slices.Repeat([][]impl.VNode{num(0)}, 38)...)...)
	ends(t, "(null, 1) + .[]", v, 6, evLimit)
	// there the first one ends it
	v = list(t, append([][]impl.VNode{text("x")}, slices.Repeat([][]impl.VNode{num(0)}, 39)...)...)
	ends(t, "(null, 1) + .[]", v, 6, evKind)
	// and there the second one, as it is the 41st
	v = list(t, append([][]impl.VNode{num(0), text("x")}, slices.Repeat([][]impl.VNode{num(0)}, 37)...)...)
	ends(t, "(null, 1) + .[]", v, 6, evKind)
}

func TestWhatWouldNotBeRight(t *testing.T) {
	for _, c := range []struct {
		s    string
		v    []impl.VNode
		done bool
	}{
		{"[.]", deepList(7), true},
		{"[.]", deepList(8), false},
		{"[[.]]", deepList(6), true},
		{"[[.]]", deepList(7), false},
		{"{a: .}", deepList(7), true},
		{"{a: .}", deepList(8), false},
		{"{a: 1, b: .}", deepList(8), false},
		{"[{a: .}]", deepList(7), false},
		{"[1, [], .]", deepList(8), false},
		{"[.]", wideList(79), true},
		{"[.]", wideList(80), false},
		{"{a: .}", wideList(79), true},
		{"{a: .}", wideList(80), false},
		{"[., .]", wideList(39), true},
		{"[., ., 1]", wideList(39), true},
		{"[., ., 1, 1]", wideList(39), false},
		{"[., .]", wideList(40), false},
		{"{a: ., b: ., c: 1}", wideList(39), true},
		{"{a: ., b: ., c: 1, d: 1}", wideList(39), false},
		{"{a: ., b: .}", wideList(40), false},
		{"[.[]]", piecewise(t, slices.Repeat([]int{1}, 39)...), true},
		{"[.[], 1]", piecewise(t, slices.Repeat([]int{1}, 39)...), true},
		{"[.[] | [.]]", wideList(40), true},
		{"[.[] | [.]]", wideList(41), false},
		{". + .", wideList(40), true},
		{". + [1]", wideList(79), true},
		{". + [1]", wideList(80), false},
		{". + .", wideList(41), false},
		{". + {aa: 1}", keyed(t, 78), true},
		{". + {aa: 1}", keyed(t, 79), false},
		{". + .", text(strings.Repeat("x", 30)), true},
		{". + \"y\"", text(strings.Repeat("x", 59)), true},
		{". + \"y\"", text(strings.Repeat("x", 60)), false},
		{". + 1", num(impl.MaxInt - 1), true},
		{". + 1", num(impl.MaxInt), false},
		{". - 1", num(1 - impl.MaxInt), true},
		{". - 1", num(-impl.MaxInt), false},
		{"keys", wideList(80), true},
		{"keys", keyed(t, 79), true},
		{"[keys]", wideList(79), true},
		{"[keys]", wideList(80), false},
		// no outcome: nothing that could be wrong
		{"{a: ., b: empty}", deepList(8), true},
	} {
		got := outcomes(t, filter(t, c.s), c.v, impl.MaxFuel)
		if c.done == strings.HasPrefix(got, "code") || !c.done && got != evLimit {
			t.Error(c.s, impl.JsonText(c.v), got)
		}
		// neither // nor ? is for that
		if !c.done && (outcomes(t, kind(impl.FlTry, filter(t, c.s)), c.v, impl.MaxFuel) != evLimit || outcomes(t, kind(impl.FlAlt, filter(t, c.s), count(1)), c.v, impl.MaxFuel) != evLimit) {
			t.Error(c.s, impl.JsonText(c.v))
		}
	}
	// the first map that is not right ends it, whatever comes behind
	ends(t, "{a: (1, .), b: (true, 1)}, (true | length)", deepList(8), 11, evLimit)
	ends(t, "{a: (1, .)} | (true | length)", deepList(8), 5, evLimit)
	ends(t, "(1, [.]) | (true | length)", deepList(8), 5, evLimit)
}

func TestGreatestFilters(t *testing.T) {
	for name, f := range rightFilters() {
		for _, s := range eachKind {
			v := read(t, s)
			got := outcomes(t, f, v, impl.MaxFuel)
			for _, fuel := range []int64{0, 1, 39, 40, 41, 1000} {
				if more := outcomes(t, f, v, fuel); more != got && more != evFuel {
					t.Error(name, s, fuel, more, got)
				}
			}
		}
	}
	if got := outcomes(t, tried(12, kind(impl.FlSelf)), num(7), 12); got != "7" {
		t.Error(got)
	}
	if got := outcomes(t, piped(23), num(7), 23); got != "7" {
		t.Error(got)
	}
	for n := int64(0); n < 40; n++ {
		if got := outcomes(t, manyNodes(40), num(7), n); got != evFuel {
			t.Error(n, got)
		}
	}
	if got := outcomes(t, manyNodes(40), num(7), 40); got != `{"a":7,"b":7,"c":7,"d":7}` {
		t.Error(strconv.Quote(got))
	}
}

package tests

import (
	"math"
	"math/rand"
	"slices"
	"strconv"
	"strings"
	"testing"

	"loop.example/g00345/impl"
)

// over answers the filter of n and its kids, each a filter of its own.
func over(n impl.FNode, kids ...[]impl.FNode) []impl.FNode {
	var f []impl.FNode
	n.Kids = nil
	for _, kid := range kids {
		from := int64(len(f))
		for _, m := range kid {
			m.Kids = slices.Clone(m.Kids)
			for i := range m.Kids {
				m.Kids[i] += from
			}
			f = append(f, m)
		}
		n.Kids = append(n.Kids, int64(len(f)-1))
	}
	return append(f, n)
}

func kind(k int64, kids ...[]impl.FNode) []impl.FNode { return over(impl.FNode{Kind: k}, kids...) }

func named(s string) []impl.FNode { return over(impl.FNode{Kind: impl.FlKey, Name: s}) }

func placed(n int64) []impl.FNode { return over(impl.FNode{Kind: impl.FlAt, At: n}) }

func constant(v []impl.VNode) []impl.FNode { return over(impl.FNode{Kind: impl.FlConst, Const: v}) }

func count(n int64) []impl.FNode { return constant(num(n)) }

func table(names []string, kids ...[]impl.FNode) []impl.FNode {
	return over(impl.FNode{Kind: impl.FlMap, Names: names}, kids...)
}

// sameFilter holds nodes against each other field by field; an empty list and nil are the same.
func sameFilter(a, b []impl.FNode) bool {
	return slices.EqualFunc(a, b, func(m, n impl.FNode) bool {
		return m.Kind == n.Kind && m.Name == n.Name && m.At == n.At && same(m.Const, n.Const) && slices.Equal(m.Names, n.Names) && slices.Equal(m.Kids, n.Kids)
	})
}

// filterLeadsBack asks for that text of f, which says f.
func filterLeadsBack(t *testing.T, f []impl.FNode, want string) {
	t.Helper()
	s := impl.FilterText(f)
	if !impl.FilterOk(f) || s != want {
		t.Errorf("%v: %q, not %q", f, s, want)
	}
	if g, ok := impl.ReadFilter(s); !ok || !sameFilter(f, g) {
		t.Errorf("%q: %v %v", s, g, ok)
	}
}

func TestFiltersOfEachKind(t *testing.T) {
	self := kind(impl.FlSelf)
	a, b := named("a"), named("b")
	filterLeadsBack(t, self, ".")
	filterLeadsBack(t, a, ".a")
	filterLeadsBack(t, named("Ab_9"), ".Ab_9")
	filterLeadsBack(t, named("_"), "._")
	filterLeadsBack(t, placed(0), ".[0]")
	filterLeadsBack(t, placed(7), ".[7]")
	filterLeadsBack(t, placed(-1), ".[-1]")
	filterLeadsBack(t, kind(impl.FlEach), ".[]")
	filterLeadsBack(t, constant(null()), "null")
	filterLeadsBack(t, constant(truth(0)), "false")
	filterLeadsBack(t, constant(truth(1)), "true")
	filterLeadsBack(t, count(0), "0")
	filterLeadsBack(t, count(-17), "-17")
	filterLeadsBack(t, count(1000000000000000), "1000000000000000")
	filterLeadsBack(t, count(-1000000000000000), "-1000000000000000")
	filterLeadsBack(t, constant(text("")), `""`)
	filterLeadsBack(t, constant(text("a | b, (c)")), `"a | b, (c)"`)
	filterLeadsBack(t, constant(text("\x00\b\t\n\f\r\x1f \"/\\~\x7f")), `"\u0000\b\t\n\f\r\u001f \"/\\~\u007f"`)
	filterLeadsBack(t, kind(impl.FlPipe, a, b), ".a | .b")
	filterLeadsBack(t, kind(impl.FlComma, a, b), ".a, .b")
	filterLeadsBack(t, kind(impl.FlList), "[]")
	filterLeadsBack(t, kind(impl.FlList, a), "[.a]")
	filterLeadsBack(t, table(nil), "{}")
	filterLeadsBack(t, table([]string{"x"}, a), "{x: .a}")
	filterLeadsBack(t, table([]string{"x", "y"}, a, b), "{x: .a, y: .b}")
	filterLeadsBack(t, kind(impl.FlSelect, a), "select(.a)")
	filterLeadsBack(t, kind(impl.FlLength), "length")
	filterLeadsBack(t, kind(impl.FlKeys), "keys")
	filterLeadsBack(t, kind(impl.FlNot), "not")
	filterLeadsBack(t, kind(impl.FlEmpty), "empty")
	filterLeadsBack(t, kind(impl.FlAdd, a, b), ".a + .b")
	filterLeadsBack(t, kind(impl.FlSub, a, b), ".a - .b")
	filterLeadsBack(t, kind(impl.FlEq, a, b), ".a == .b")
	filterLeadsBack(t, kind(impl.FlNe, a, b), ".a != .b")
	filterLeadsBack(t, kind(impl.FlLt, a, b), ".a < .b")
	filterLeadsBack(t, kind(impl.FlLe, a, b), ".a <= .b")
	filterLeadsBack(t, kind(impl.FlAlt, a, b), ".a // .b")
	filterLeadsBack(t, kind(impl.FlIf, self, a, b), "if . then .a else .b end")
	filterLeadsBack(t, kind(impl.FlTry, a), ".a?")
}

func TestNodesOfReadFilters(t *testing.T) {
	f, ok := impl.ReadFilter(`{a: .x | .y, b: 1}`)
	if ok || len(f) != 0 {
		t.Error(f)
	}
	f, ok = impl.ReadFilter(`{a: (.x | .[2]), b: "s"}?, -3`)
	want := []impl.FNode{
		{Kind: 2, Name: "x"},
		{Kind: 3, At: 2},
		{Kind: 6, Kids: []int64{0, 1}},
		{Kind: 5, Const: text("s")},
		{Kind: 9, Names: []string{"a", "b"}, Kids: []int64{2, 3}},
		{Kind: 23, Kids: []int64{4}},
		{Kind: 5, Const: num(-3)},
		{Kind: 7, Kids: []int64{5, 6}},
	}
	if !ok || !sameFilter(f, want) {
		t.Error(f)
	}
}

// piped is a filter of n nodes, an odd number; with n = 2 * k - 1 its longest path has k.
func piped(n int) []impl.FNode {
	f := kind(impl.FlSelf)
	for len(f) < n {
		f = kind(impl.FlPipe, kind(impl.FlSelf), f)
	}
	return f
}

// manyNodes is a filter of n nodes, not deep.
func manyNodes(n int) []impl.FNode {
	names := []string{"a", "b", "c", "d", "e"}
	var kids [][]impl.FNode
	for n--; n > 0; {
		part := min(n, 11)
		if part == 1 {
			kids = append(kids, kind(impl.FlSelf))
		} else if part%2 == 1 {
			kids = append(kids, piped(part))
		} else {
			kids = append(kids, kind(impl.FlTry, piped(part-1)))
		}
		n -= part
	}
	return table(names[:len(kids)], kids...)
}

// tried is a filter of n nodes, all on one path.
func tried(n int, last []impl.FNode) []impl.FNode {
	for len(last) < n {
		last = kind(impl.FlTry, last)
	}
	return last
}

func rightFilters() map[string][]impl.FNode {
	long := strings.Repeat("k", 60)
	self := kind(impl.FlSelf)
	return map[string][]impl.FNode{
		"38 nodes":         manyNodes(38),
		"39 nodes":         manyNodes(39),
		"40 nodes":         manyNodes(40),
		"11 on a path":     tried(11, self),
		"12 on a path":     tried(12, self),
		"12, all of them":  piped(23),
		"name of 1":        named("a"),
		"name of 60":       named(long),
		"name Z":           named("Z"),
		"name z":           named("z"),
		"name _":           named("_"),
		"name with digits": named("a0123456789_"),
		"name __":          named("__"),
		"At -80":           placed(-80),
		"At 80":            placed(80),
		"At 0":             placed(0),
		"null":             constant(null()),
		"empty text":       constant(text("")),
		"text of 60":       constant(text(strings.Repeat("\x7f", 60))),
		"a list of none":   kind(impl.FlList),
		"a list of one":    kind(impl.FlList, self),
		"a map of none":    table(nil),
		"a map of five":    table([]string{"A", "B", "_", "a", "aa"}, self, self, self, self, self),
		"names that rise":  table([]string{"Z", "_", "a", "a1", "aA", "a_", "aa"}[1:6], self, self, self, self, self),
		"a name of 60":     table([]string{long}, self),
		"words as names":   table([]string{"empty", "end", "if", "null", "true"}, self, self, self, self, self),
		"empty lists":      {{Kind: impl.FlSelf, Const: []impl.VNode{}, Names: []string{}, Kids: []int64{}}},
		"empty in Const":   {{Kind: impl.FlConst, Const: []impl.VNode{{Kind: impl.VlNull, Keys: []string{}, Kids: []int64{}}}}},
		"an if of ifs":     kind(impl.FlIf, kind(impl.FlIf, self, self, self), kind(impl.FlIf, self, self, self), kind(impl.FlIf, self, self, self)),
		"deep then flat":   kind(impl.FlComma, tried(5, self), self),
		"flat then deep":   kind(impl.FlComma, self, tried(5, self)),
	}
}

func TestRightFilters(t *testing.T) {
	for name, f := range rightFilters() {
		if !impl.FilterOk(f) {
			t.Error(name)
		}
		s := impl.FilterText(f)
		if g, ok := impl.ReadFilter(s); !ok || !sameFilter(f, g) {
			t.Errorf("%s: %q does not lead back", name, s)
		}
	}
	if n := len(manyNodes(40)); n != 40 {
		t.Error(n)
	}
}

// filled answers one right filter of each kind.
func filled() [][]impl.FNode {
	self := kind(impl.FlSelf)
	all := [][]impl.FNode{named("a"), placed(3), count(5), kind(impl.FlList), kind(impl.FlList, self), table(nil), table([]string{"a", "b"}, self, self), kind(impl.FlIf, self, self, self)}
	for _, k := range []int64{impl.FlSelf, impl.FlEach, impl.FlLength, impl.FlKeys, impl.FlNot, impl.FlEmpty} {
		all = append(all, kind(k))
	}
	for _, k := range []int64{impl.FlPipe, impl.FlComma, impl.FlAdd, impl.FlSub, impl.FlEq, impl.FlNe, impl.FlLt, impl.FlLe, impl.FlAlt} {
		all = append(all, kind(k, self, self))
	}
	return append(all, kind(impl.FlSelect, self), kind(impl.FlTry, self))
}

// wrongFilters are not right, in each way that the chapter names.
func wrongFilters() map[string][]impl.FNode {
	long := strings.Repeat("k", 61)
	self := kind(impl.FlSelf)
	one := []int64{0}
	all := map[string][]impl.FNode{
		"no node":           nil,
		"empty":             {},
		"41 nodes":          manyNodes(41),
		"42 nodes":          manyNodes(42),
		"many nodes":        slices.Repeat(self, 5000),
		"13 on a path":      tried(13, self),
		"13, all of them":   piped(25),
		"kind 0":            kind(0),
		"kind 24":           kind(24),
		"kind -1":           kind(-1),
		"least kind":        kind(math.MinInt64),
		"greatest kind":     kind(math.MaxInt64),
		"no name":           named(""),
		"name of 61":        named(long),
		"name with a digit": named("1a"),
		"name of a digit":   named("0"),
		"name with -":       named("a-b"),
		"name with a blank": named("a b"),
		"name with a point": named("a.b"),
		"name of byte 128":  named("\x80"),
		"name with byte 0":  named("a\x00"),
		"name of two bytes": named("\u00e9"),
		"name in quotes":    named("\"a\""),
		"At -81":            placed(-81),
		"At 81":             placed(81),
		"least At":          placed(math.MinInt64),
		"greatest At":       placed(math.MaxInt64),
		"no constant":       constant(nil),
		"a list":            constant([]impl.VNode{{Kind: impl.VlList}}),
		"a map":             constant([]impl.VNode{{Kind: impl.VlMap}}),
		"a list of one":     constant([]impl.VNode{{Kind: impl.VlNull}, {Kind: impl.VlList, Kids: one}}),
		"a map of one":      constant([]impl.VNode{{Kind: impl.VlNull}, {Kind: impl.VlMap, Keys: []string{"a"}, Kids: one}}),
		"two constants":     constant([]impl.VNode{{Kind: impl.VlNull}, {Kind: impl.VlNull}}),
		"a list of two":     kind(impl.FlList, self, self),
		"a map of six":      table([]string{"a", "b", "c", "d", "e", "f"}, self, self, self, self, self, self),
		"names that fall":   table([]string{"b", "a"}, self, self),
		"a name twice":      table([]string{"a", "a"}, self, self),
		"last name twice":   table([]string{"a", "b", "c", "c"}, self, self, self, self),
		"longer ahead":      table([]string{"ab", "a"}, self, self),
		"small ahead":       table([]string{"a", "B"}, self, self),
		"an empty name":     table([]string{"", "a"}, self, self),
		"a long name":       table([]string{long}, self),
		"a name of a digit": table([]string{"1"}, self),
		"a name with -":     table([]string{"a-"}, self),
		"a name of 128":     table([]string{"\x80"}, self),
		"name without kid":  table([]string{"a", "b"}, self),
		"kid without name":  table([]string{"a"}, self, self),
		"names alone":       table([]string{"a"}),
		"kids alone":        table(nil, self),
		"two wholes":        slices.Concat(self, self),
		"first is not its":  {{Kind: 1}, {Kind: 1}, {Kind: impl.FlTry, Kids: []int64{1}}},
		"last is not its":   {{Kind: 1}, {Kind: 1}, {Kind: impl.FlTry, Kids: one}},
		"a gap":             {{Kind: 1}, {Kind: 1}, {Kind: 1}, {Kind: impl.FlPipe, Kids: []int64{0, 2}}},
		"kids out of order": {{Kind: 1}, {Kind: 1}, {Kind: impl.FlPipe, Kids: []int64{1, 0}}},
		"a kid twice":       {{Kind: 1}, {Kind: impl.FlPipe, Kids: []int64{0, 0}}},
		"a kid of two":      {{Kind: 1}, {Kind: impl.FlTry, Kids: one}, {Kind: impl.FlPipe, Kids: []int64{0, 1}}},
		"its own kid":       {{Kind: impl.FlTry, Kids: one}},
		"a kid behind it":   {{Kind: impl.FlTry, Kids: []int64{1}}, {Kind: 1}},
		"kid -1":            {{Kind: impl.FlTry, Kids: []int64{-1}}},
		"kid -1 and 0":      {{Kind: 1}, {Kind: impl.FlPipe, Kids: []int64{-1, 0}}},
		"least kid":         {{Kind: 1}, {Kind: impl.FlTry, Kids: []int64{math.MinInt64}}},
		"greatest kid":      {{Kind: 1}, {Kind: impl.FlTry, Kids: []int64{math.MaxInt64}}},
		"wrong inside":      kind(impl.FlTry, kind(24)),
		"wrong ahead":       kind(impl.FlPipe, placed(81), self),
		"wrong behind":      kind(impl.FlPipe, self, named("")),
	}
	for name, v := range wrongValues() {
		all["constant: "+name] = constant(v)
	}
	for i, f := range filled() {
		for name, g := range spoiled(f) {
			all["kind "+strconv.FormatInt(f[len(f)-1].Kind, 10)+" ("+strconv.Itoa(i)+") with "+name] = g
		}
	}
	return all
}

// spoiled answers f with a field that its whole's kind does not name, or with too many or too few kids.
func spoiled(f []impl.FNode) map[string][]impl.FNode {
	last := len(f) - 1
	k := f[last].Kind
	all := map[string][]impl.FNode{}
	with := func(name string, own int64, change func(n *impl.FNode)) {
		if k != own {
			g := slices.Clone(f)
			change(&g[last])
			all[name] = g
		}
	}
	with("a name", impl.FlKey, func(n *impl.FNode) { n.Name = "a" })
	with("At 1", impl.FlAt, func(n *impl.FNode) { n.At = 1 })
	with("At -1", impl.FlAt, func(n *impl.FNode) { n.At = -1 })
	with("a constant", impl.FlConst, func(n *impl.FNode) { n.Const = null() })
	with("names", impl.FlMap, func(n *impl.FNode) { n.Names = []string{"a"} })
	with("names as many as kids", impl.FlMap, func(n *impl.FNode) { n.Names = append([]string{"a"}, make([]string, len(n.Kids))...) })
	more := slices.Repeat([][]impl.FNode{kind(impl.FlSelf)}, len(f[last].Kids)+1)
	if k != impl.FlList || len(more) > 1 {
		all["a kid more"] = over(f[last], more...)
	}
	if len(more) > 1 && k != impl.FlList {
		all["a kid less"] = over(f[last], more[2:]...)
		all["no kids"] = over(f[last])
	}
	return all
}

func TestWrongFilters(t *testing.T) {
	for name, f := range wrongFilters() {
		if impl.FilterOk(f) {
			t.Error(name, "is right")
		}
		if s := impl.FilterText(f); s != "" {
			t.Errorf("%s has a text: %q", name, s)
		}
	}
	for _, f := range filled() {
		if !impl.FilterOk(f) {
			t.Error(f)
		}
	}
}

// Every row of three nodes, however its kids stand, is right just where the document's words say so.
func TestPlacesOfFilterKids(t *testing.T) {
	right := 0
	places := [][]int64{nil, {0}, {1}, {2}, {-1}, {0, 1}, {1, 0}, {0, 0}, {1, 1}, {1, 2}}
	for _, a := range places {
		for _, b := range places {
			for _, c := range places {
				f := []impl.FNode{{Kids: a}, {Kids: b}, {Kids: c}}
				for i := range f {
					f[i].Kind = []int64{impl.FlSelf, impl.FlTry, impl.FlPipe}[len(f[i].Kids)]
				}
				want := len(a) == 0 && (slices.Equal(b, []int64{0}) && slices.Equal(c, []int64{1}) || len(b) == 0 && slices.Equal(c, []int64{0, 1}))
				if impl.FilterOk(f) != want {
					t.Error(f)
				}
				if want {
					right++
				}
			}
		}
	}
	if right != 2 {
		t.Error(right)
	}
}

func TestEachByteOfAName(t *testing.T) {
	const begins = "abcdefghijklmnopqrstuvwxyzABCDEFGHIJKLMNOPQRSTUVWXYZ_"
	for c := range 256 {
		raw := string([]byte{byte(c)})
		first := strings.Contains(begins, raw)
		inner := first || strings.Contains("0123456789", raw)
		for _, s := range []string{raw, raw + "x"} {
			if impl.FilterOk(named(s)) != first || impl.FilterOk(table([]string{s}, named("a"))) != first {
				t.Error("first", c)
			}
		}
		for _, s := range []string{"x" + raw, "x" + raw + "x", "_" + raw} {
			if impl.FilterOk(named(s)) != inner || impl.FilterOk(table([]string{s}, named("a"))) != inner {
				t.Error("inside", c)
			}
		}
	}
}

// joints are the signs between two kids, and which kids stand without parentheses ahead of them and behind them.
var joints = []struct {
	kind          int64
	text          string
	ahead, behind string
}{
	{impl.FlPipe, " | ", ", // == != < <= + -", "| , // == != < <= + -"},
	{impl.FlComma, ", ", ", // == != < <= + -", "// == != < <= + -"},
	{impl.FlAlt, " // ", "== != < <= + -", "// == != < <= + -"},
	{impl.FlEq, " == ", "+ -", "+ -"},
	{impl.FlNe, " != ", "+ -", "+ -"},
	{impl.FlLt, " < ", "+ -", "+ -"},
	{impl.FlLe, " <= ", "+ -", "+ -"},
	{impl.FlAdd, " + ", "+ -", ""},
	{impl.FlSub, " - ", "+ -", ""},
}

func TestWhatBindsHowMuch(t *testing.T) {
	ahead, behind := 0, 0
	for _, j := range joints {
		for _, k := range joints {
			inner := kind(k.kind, named("a"), named("b"))
			bare := ".a" + k.text + ".b"
			s := bare
			if !slices.Contains(strings.Fields(j.ahead), strings.TrimSpace(k.text)) {
				s = "(" + bare + ")"
				ahead++
			}
			left := kind(j.kind, inner, named("c"))
			filterLeadsBack(t, left, s+j.text+".c")
			says(t, "("+bare+")"+j.text+".c", left)
			saysOther(t, bare+j.text+".c", left, s == bare)

			s = bare
			if !slices.Contains(strings.Fields(j.behind), strings.TrimSpace(k.text)) {
				s = "(" + bare + ")"
				behind++
			}
			right := kind(j.kind, named("c"), inner)
			filterLeadsBack(t, right, ".c"+j.text+s)
			says(t, ".c"+j.text+"("+bare+")", right)
			saysOther(t, ".c"+j.text+bare, right, s == bare)
		}
	}
	if ahead != 1+1+3+4*7+2*7 || behind != 0+2+2+4*7+2*9 {
		t.Error(ahead, behind)
	}
}

// says asks that s is read as f.
func says(t *testing.T, s string, f []impl.FNode) {
	t.Helper()
	if g, ok := impl.ReadFilter(s); !ok || !sameFilter(f, g) {
		t.Errorf("%q: %v %v, not %v", s, g, ok, f)
	}
}

// saysOther asks that s is read as f just where it may be.
func saysOther(t *testing.T, s string, f []impl.FNode, may bool) {
	t.Helper()
	if g, ok := impl.ReadFilter(s); (ok && sameFilter(f, g)) != may {
		t.Errorf("%q: %v %v, by %v", s, g, ok, f)
	}
}

func TestRowsOfOneSign(t *testing.T) {
	a, b, c, d := named("a"), named("b"), named("c"), named("d")
	for _, j := range joints {
		row := strings.Join([]string{".a", ".b", ".c", ".d"}, j.text)
		fromLeft := kind(j.kind, kind(j.kind, kind(j.kind, a, b), c), d)
		fromRight := kind(j.kind, a, kind(j.kind, b, kind(j.kind, c, d)))
		switch j.kind {
		case impl.FlPipe, impl.FlAlt:
			filterLeadsBack(t, fromRight, row)
			filterLeadsBack(t, fromLeft, "((.a"+j.text+".b)"+j.text+".c)"+j.text+".d")
		case impl.FlComma, impl.FlAdd, impl.FlSub:
			filterLeadsBack(t, fromLeft, row)
			filterLeadsBack(t, fromRight, ".a"+j.text+"(.b"+j.text+"(.c"+j.text+".d))")
		default:
			refusesFilter(t, row)
			filterLeadsBack(t, fromLeft, "((.a"+j.text+".b)"+j.text+".c)"+j.text+".d")
			filterLeadsBack(t, fromRight, ".a"+j.text+"(.b"+j.text+"(.c"+j.text+".d))")
		}
	}
	filterLeadsBack(t, kind(impl.FlAdd, kind(impl.FlSub, a, b), c), ".a - .b + .c")
	filterLeadsBack(t, kind(impl.FlSub, a, kind(impl.FlAdd, b, c)), ".a - (.b + .c)")
	filterLeadsBack(t, kind(impl.FlPipe, kind(impl.FlComma, a, b), kind(impl.FlPipe, c, d)), ".a, .b | .c | .d")
	filterLeadsBack(t, kind(impl.FlAlt, kind(impl.FlEq, a, b), kind(impl.FlAlt, c, d)), ".a == .b // .c // .d")
	filterLeadsBack(t, kind(impl.FlEq, kind(impl.FlAdd, a, b), kind(impl.FlSub, c, d)), ".a + .b == .c - .d")
	filterLeadsBack(t, kind(impl.FlComma, kind(impl.FlAlt, a, b), kind(impl.FlLt, c, d)), ".a // .b, .c < .d")
}

func refusesFilter(t *testing.T, s string) {
	t.Helper()
	if f, ok := impl.ReadFilter(s); ok || len(f) != 0 {
		t.Errorf("read: %q: %v %v", s, f, ok)
	}
}

// wholeFilters are those that bind most, with their texts.
func wholeFilters() map[string][]impl.FNode {
	a, b := named("a"), named("b")
	pipe, comma := kind(impl.FlPipe, a, b), kind(impl.FlComma, a, b)
	return map[string][]impl.FNode{
		".":                              kind(impl.FlSelf),
		".a":                             a,
		".length":                        named("length"),
		".[-3]":                          placed(-3),
		".[]":                            kind(impl.FlEach),
		"null":                           constant(null()),
		"true":                           constant(truth(1)),
		"1":                              count(1),
		"-1":                             count(-1),
		`"a"`:                            constant(text("a")),
		"[]":                             kind(impl.FlList),
		"[.a | .b]":                      kind(impl.FlList, pipe),
		"[.a, .b]":                       kind(impl.FlList, comma),
		"{}":                             table(nil),
		"{x: .a // .b}":                  table([]string{"x"}, kind(impl.FlAlt, a, b)),
		"{x: (.a | .b), y: (.a, .b)}":    table([]string{"x", "y"}, pipe, comma),
		"select(.a | .b)":                kind(impl.FlSelect, pipe),
		"select(.a, .b)":                 kind(impl.FlSelect, comma),
		"length":                         kind(impl.FlLength),
		"keys":                           kind(impl.FlKeys),
		"not":                            kind(impl.FlNot),
		"empty":                          kind(impl.FlEmpty),
		"if .a then .b else .a end":      kind(impl.FlIf, a, b, a),
		"if .a, .b then . else . end":    kind(impl.FlIf, comma, kind(impl.FlSelf), kind(impl.FlSelf)),
		"if . then .a | .b else . end":   kind(impl.FlIf, kind(impl.FlSelf), pipe, kind(impl.FlSelf)),
		"if . then . else .a, .b end":    kind(impl.FlIf, kind(impl.FlSelf), kind(impl.FlSelf), comma),
		"if .a? then .a? else .a? end":   kind(impl.FlIf, kind(impl.FlTry, a), kind(impl.FlTry, a), kind(impl.FlTry, a)),
		"if .a | .b then 1 else -1 end":  kind(impl.FlIf, pipe, count(1), count(-1)),
		"[if . then . else . end]":       kind(impl.FlList, kind(impl.FlIf, kind(impl.FlSelf), kind(impl.FlSelf), kind(impl.FlSelf))),
		"{end: .end, if: .if, then: {}}": table([]string{"end", "if", "then"}, named("end"), named("if"), table(nil)),
	}
}

func TestWhatBindsMostStandsBare(t *testing.T) {
	c := named("c")
	for s, f := range wholeFilters() {
		filterLeadsBack(t, f, s)
		filterLeadsBack(t, kind(impl.FlTry, f), s+"?")
		filterLeadsBack(t, kind(impl.FlTry, kind(impl.FlTry, f)), s+"??")
		says(t, "("+s+")?", kind(impl.FlTry, f))
		says(t, "(((("+s+"))))", f)
		for _, j := range joints {
			filterLeadsBack(t, kind(j.kind, f, c), s+j.text+".c")
			filterLeadsBack(t, kind(j.kind, c, f), ".c"+j.text+s)
			filterLeadsBack(t, kind(j.kind, kind(impl.FlTry, f), f), s+"?"+j.text+s)
			filterLeadsBack(t, kind(j.kind, f, kind(impl.FlTry, f)), s+j.text+s+"?")
		}
	}
}

func TestTryBehindEachSign(t *testing.T) {
	a, b := named("a"), named("b")
	for _, j := range joints {
		f := kind(j.kind, a, b)
		filterLeadsBack(t, kind(impl.FlTry, f), "(.a"+j.text+".b)?")
		filterLeadsBack(t, kind(impl.FlTry, kind(impl.FlTry, f)), "(.a"+j.text+".b)??")
		filterLeadsBack(t, kind(j.kind, a, kind(impl.FlTry, b)), ".a"+j.text+".b?")
		filterLeadsBack(t, kind(j.kind, kind(impl.FlTry, a), b), ".a?"+j.text+".b")
	}
}

func TestKidsOfWholeFilters(t *testing.T) {
	a, b, self := named("a"), named("b"), kind(impl.FlSelf)
	for _, j := range joints {
		f, s := kind(j.kind, a, b), ".a"+j.text+".b"
		filterLeadsBack(t, kind(impl.FlList, f), "["+s+"]")
		filterLeadsBack(t, kind(impl.FlSelect, f), "select("+s+")")
		filterLeadsBack(t, kind(impl.FlIf, f, self, self), "if "+s+" then . else . end")
		filterLeadsBack(t, kind(impl.FlIf, self, f, self), "if . then "+s+" else . end")
		filterLeadsBack(t, kind(impl.FlIf, self, self, f), "if . then . else "+s+" end")
		in := s
		if j.kind == impl.FlPipe || j.kind == impl.FlComma {
			in = "(" + s + ")"
			refusesFilter(t, "{x: "+s+"}")
			refusesFilter(t, "{x: ., y: "+s+"}")
		}
		filterLeadsBack(t, table([]string{"x"}, f), "{x: "+in+"}")
		filterLeadsBack(t, table([]string{"w", "x", "y"}, self, f, f), "{w: ., x: "+in+", y: "+in+"}")
	}
	filterLeadsBack(t, table([]string{"x"}, kind(impl.FlAlt, a, kind(impl.FlAlt, a, b))), "{x: .a // .a // .b}")
	filterLeadsBack(t, table([]string{"x"}, kind(impl.FlTry, a)), "{x: .a?}")
}

func TestNamesThatAreWords(t *testing.T) {
	words := []string{"length", "keys", "not", "empty", "select", "if", "then", "else", "end", "null", "true", "false"}
	for _, w := range words {
		filterLeadsBack(t, named(w), "."+w)
		filterLeadsBack(t, table([]string{w}, named(w)), "{"+w+": ."+w+"}")
		filterLeadsBack(t, kind(impl.FlIf, named(w), named(w), named(w)), "if ."+w+" then ."+w+" else ."+w+" end")
		filterLeadsBack(t, constant(text(w)), `"`+w+`"`)
	}
}

// someFilter makes its nodes by itself, without the functions under test.
func someFilter(r *rand.Rand, deep int) []impl.FNode {
	if deep == 1 || r.Intn(5) == 0 {
		return someLeaf(r)
	}
	kid := func() []impl.FNode { return someFilter(r, deep-1) }
	switch r.Intn(10) {
	case 0:
		return kind(impl.FlList, kid())
	case 1:
		var names []string
		var kids [][]impl.FNode
		for _, name := range []string{"If", "_", "a", "a1", "aa", "end", "z9_"} {
			if r.Intn(3) == 0 && len(names) < 5 {
				names, kids = append(names, name), append(kids, kid())
			}
		}
		return table(names, kids...)
	case 2:
		return kind(impl.FlSelect, kid())
	case 3:
		return kind(impl.FlIf, kid(), kid(), kid())
	case 4:
		return kind(impl.FlTry, kid())
	}
	return kind(joints[r.Intn(len(joints))].kind, kid(), kid())
}

func someLeaf(r *rand.Rand) []impl.FNode {
	switch r.Intn(9) {
	case 0:
		return kind(impl.FlSelf)
	case 1:
		return named([]string{"a", "_b", "C9", "if", "then", "end", "length", "null"}[r.Intn(8)])
	case 2:
		return placed([]int64{0, 1, -1, 80, -80, 10}[r.Intn(6)])
	case 3:
		return kind(impl.FlEach)
	case 4:
		return constant(text(someText(r)))
	case 5:
		return count([]int64{0, 1, -1, -1, 10, impl.MaxInt, -impl.MaxInt}[r.Intn(7)])
	case 6:
		return constant([][]impl.VNode{null(), truth(0), truth(1)}[r.Intn(3)])
	case 7:
		return []([]impl.FNode){kind(impl.FlList), table(nil)}[r.Intn(2)]
	}
	return kind([]int64{impl.FlLength, impl.FlKeys, impl.FlNot, impl.FlEmpty}[r.Intn(4)])
}

// someFilters are right by how they are made: few enough nodes, not too deep.
func someFilters(seed int64, count int) [][]impl.FNode {
	r := rand.New(rand.NewSource(seed))
	var all [][]impl.FNode
	for len(all) < count {
		if f := someFilter(r, 1+r.Intn(impl.MaxNest)); len(f) <= impl.MaxFilter {
			all = append(all, f)
		}
	}
	return all
}

// rank tells how much a kind binds, as the document has it in a row.
func rank(k int64) int {
	for i, row := range [][]int64{{impl.FlPipe}, {impl.FlComma}, {impl.FlAlt}, {impl.FlEq, impl.FlNe, impl.FlLt, impl.FlLe}, {impl.FlAdd, impl.FlSub}, {impl.FlTry}} {
		if slices.Contains(row, k) {
			return i
		}
	}
	return 6
}

// otherFilterText writes the node n of f by a rule for each kind.
func otherFilterText(f []impl.FNode, n int64) string {
	m := f[n]
	bare := func(i int) string { return otherFilterText(f, m.Kids[i]) }
	within := func(i int, least int) string {
		if rank(f[m.Kids[i]].Kind) < least {
			return "(" + bare(i) + ")"
		}
		return bare(i)
	}
	switch m.Kind {
	case impl.FlSelf:
		return "."
	case impl.FlKey:
		return "." + m.Name
	case impl.FlAt:
		return ".[" + strconv.FormatInt(m.At, 10) + "]"
	case impl.FlEach:
		return ".[]"
	case impl.FlConst:
		return impl.JsonText(m.Const)
	case impl.FlPipe:
		return within(0, 1) + " | " + bare(1)
	case impl.FlComma:
		return within(0, 1) + ", " + within(1, 2)
	case impl.FlList:
		if len(m.Kids) == 0 {
			return "[]"
		}
		return "[" + bare(0) + "]"
	case impl.FlMap:
		var row []string
		for i, name := range m.Names {
			row = append(row, name+": "+within(i, 2))
		}
		return "{" + strings.Join(row, ", ") + "}"
	case impl.FlSelect:
		return "select(" + bare(0) + ")"
	case impl.FlAlt:
		return within(0, 3) + " // " + within(1, 2)
	case impl.FlIf:
		return "if " + bare(0) + " then " + bare(1) + " else " + bare(2) + " end"
	case impl.FlTry:
		return within(0, 5) + "?"
	}
	if word, ok := map[int64]string{impl.FlLength: "length", impl.FlKeys: "keys", impl.FlNot: "not", impl.FlEmpty: "empty"}[m.Kind]; ok {
		return word
	}
	if sum, ok := map[int64]string{impl.FlAdd: " + ", impl.FlSub: " - "}[m.Kind]; ok {
		return within(0, 4) + sum + within(1, 5)
	}
	return within(0, 4) + map[int64]string{impl.FlEq: " == ", impl.FlNe: " != ", impl.FlLt: " < ", impl.FlLe: " <= "}[m.Kind] + within(1, 4)
}

func TestFiltersComeBack(t *testing.T) {
	back, long, kinds := 0, 0, map[int64]int{}
	for _, f := range someFilters(61, 6000) {
		s := impl.FilterText(f)
		if !impl.FilterOk(f) || s != otherFilterText(f, int64(len(f)-1)) {
			t.Fatalf("%v: %q", f, s)
		}
		if len(s) > 1000 {
			long++
			refusesFilter(t, s)
			continue
		}
		back++
		g, ok := impl.ReadFilter(s)
		if !ok || !sameFilter(f, g) {
			t.Fatalf("%v: %q, %v", f, s, g)
		}
		for _, n := range f {
			kinds[n.Kind]++
		}
	}
	if back < 5000 || len(kinds) != 23 {
		t.Error(back, long, kinds)
	}
}

// A text of more than 1000 bytes is written, but not read.
func TestFiltersWithLongTexts(t *testing.T) {
	long := constant(text(strings.Repeat("\x00", 60))) // 362 bytes
	names := []string{strings.Repeat("a", 60), strings.Repeat("b", 60)}
	f := table(names, long, long) // and 128 more
	if s := impl.FilterText(f); len(s) != 2+2*62+2+2*362 {
		t.Error(len(s))
	} else {
		says(t, s, f)
	}
	for pad := 1; pad <= 60; pad++ {
		g := kind(impl.FlPipe, f, kind(impl.FlPipe, named(strings.Repeat("k", 60)), kind(impl.FlPipe, named(strings.Repeat("k", pad)), named("k"))))
		s := impl.FilterText(g)
		if len(s) != 852+3+61+3+pad+1+3+2 || !impl.FilterOk(g) {
			t.Fatal(len(s), pad)
		}
		if len(s) <= 1000 {
			says(t, s, g)
		} else {
			refusesFilter(t, s)
		}
	}
	all := manyNodes(35)
	for i := range all {
		if len(all[i].Kids) == 0 {
			all[i] = long[0]
		}
	}
	if s := impl.FilterText(all); len(s) < 4000 || s != otherFilterText(all, 34) {
		t.Error(len(s))
	} else {
		refusesFilter(t, s)
	}
}

// roomyFilter answers a copy of f with marked spare room behind each of its lists.
func roomyFilter(f []impl.FNode) []impl.FNode {
	out := make([]impl.FNode, len(f), len(f)+2)
	for i, n := range f {
		n.Const = roomy(n.Const)
		n.Names = append(slices.Clone(n.Names), markKey, markKey)[:len(n.Names)]
		n.Kids = append(slices.Clone(n.Kids), mark, mark)[:len(n.Kids)]
		out[i] = n
	}
	for i := range out[len(f):cap(out)] {
		out[:len(f)+i+1][len(f)+i].At = mark
	}
	return out
}

func filterUntouched(f, want []impl.FNode) bool {
	for _, n := range f[len(f) : len(f)+2] {
		if n.At != mark || n.Kind != 0 {
			return false
		}
	}
	for i, n := range f {
		names, kids := n.Names[len(n.Names):len(n.Names)+2], n.Kids[len(n.Kids):len(n.Kids)+2]
		if names[0] != markKey || names[1] != markKey || kids[0] != mark || kids[1] != mark || !untouched(n.Const, want[i].Const) {
			return false
		}
	}
	return sameFilter(f, want)
}

func TestFilterArgumentsStay(t *testing.T) {
	all := someFilters(62, 500)
	for _, f := range wrongFilters() {
		all = append(all, f)
	}
	for _, f := range all {
		a := roomyFilter(f)
		ok, s := impl.FilterOk(a), impl.FilterText(a)
		if impl.FilterOk(a) != ok || impl.FilterText(a) != s {
			t.Fatal("another answer", f)
		}
		if !filterUntouched(a, f) {
			t.Fatal("an argument was written", f)
		}
	}
}

// filtersShare tells whether two lists of the answers share memory; it writes into all of them.
func filtersShare(l ...[]impl.FNode) bool {
	var constants [][]impl.VNode
	stamp := int64(0)
	for _, f := range l {
		for i := range f {
			constants = append(constants, f[i].Const)
			f[i].At = stamp
			for j := range f[i].Kids[:cap(f[i].Kids)] {
				f[i].Kids[:cap(f[i].Kids)][j] = stamp
			}
			for j := range f[i].Names[:cap(f[i].Names)] {
				f[i].Names[:cap(f[i].Names)][j] = strconv.FormatInt(stamp, 10)
			}
			stamp++
		}
		for i := len(f); i < cap(f); i++ {
			f[:cap(f)][i] = impl.FNode{At: -1}
		}
	}
	stamp = 0
	for _, f := range l {
		for _, n := range f {
			kids, names := n.Kids[:cap(n.Kids)], n.Names[:cap(n.Names)]
			if n.At != stamp || slices.ContainsFunc(kids, func(k int64) bool { return k != stamp }) {
				return true
			}
			if slices.ContainsFunc(names, func(s string) bool { return s != strconv.FormatInt(stamp, 10) }) {
				return true
			}
			stamp++
		}
	}
	return shared(constants...)
}

func TestReadFiltersShareNothing(t *testing.T) {
	for _, f := range someFilters(63, 500) {
		s := impl.FilterText(f)
		g, ok := impl.ReadFilter(s)
		h, again := impl.ReadFilter(s)
		if ok != again || !sameFilter(g, h) {
			t.Fatalf("another answer: %q", s)
		}
		if filtersShare(g, h) {
			t.Fatalf("two lists share memory: %q", s)
		}
		if third, ok := impl.ReadFilter(s); ok && !sameFilter(third, f) {
			t.Fatalf("something was kept: %q", s)
		}
	}
}

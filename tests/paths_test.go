package tests

import (
	"math"
	"math/rand"
	"slices"
	"strings"
	"testing"

	"loop.example/g00345/impl"
)

func key(s string) impl.PStep { return impl.PStep{Named: true, Key: s} }

func at(n int64) impl.PStep { return impl.PStep{At: n} }

func path(p ...impl.PStep) []impl.PStep { return p }

// told answers the JSON text of what a call answered, "no" when that is false.
func told(t *testing.T, v []impl.VNode, ok bool) string {
	t.Helper()
	if !ok {
		if len(v) != 0 {
			t.Error("false, with", v)
		}
		return "no"
	}
	if !impl.ValueOk(v) {
		t.Error("not right", v)
	}
	return impl.JsonText(v)
}

func got(t *testing.T, v []impl.VNode, p ...impl.PStep) string {
	t.Helper()
	w, ok := impl.Got(v, p)
	return told(t, w, ok)
}

func laid(t *testing.T, v []impl.VNode, w []impl.VNode, p ...impl.PStep) string {
	t.Helper()
	x, ok := impl.Laid(v, p, w)
	return told(t, x, ok)
}

func taken(t *testing.T, v []impl.VNode, p ...impl.PStep) string {
	t.Helper()
	w, ok := impl.Taken(v, p)
	return told(t, w, ok)
}

func rightPaths() map[string][]impl.PStep {
	return map[string][]impl.PStep{
		"no steps":     nil,
		"empty":        {},
		"10 places":    slices.Repeat(path(at(0)), 10),
		"10 keys":      slices.Repeat(path(key("a")), 10),
		"place 80":     {at(80)},
		"empty key":    {key("")},
		"key of 60":    {key(strings.Repeat("k", 60))},
		"bytes 0, 127": {key("\x00\x7f")},
		"both":         {key("a"), at(0), key("b"), at(79)},
	}
}

func wrongPaths() map[string][]impl.PStep {
	return map[string][]impl.PStep{
		"11 places":      slices.Repeat(path(at(0)), 11),
		"11 keys":        slices.Repeat(path(key("a")), 11),
		"many steps":     slices.Repeat(path(at(0)), 5000),
		"place -1":       {at(-1)},
		"place 81":       {at(81)},
		"least place":    {at(math.MinInt64)},
		"greatest place": {at(math.MaxInt64)},
		"key of 61":      {key(strings.Repeat("k", 61))},
		"byte 128":       {key("\x80")},
		"byte 255":       {key("a\xff")},
		"named with At":  {{Named: true, Key: "a", At: 1}},
		"named with -1":  {{Named: true, At: -1}},
		"place with Key": {{Key: "a"}},
		"last is wrong":  {key("a"), at(0), at(-1)},
		"first is wrong": {{Key: "a"}, at(0)},
	}
}

func TestPathOk(t *testing.T) {
	for name, p := range rightPaths() {
		if !impl.PathOk(p) {
			t.Error(name)
		}
	}
	for name, p := range wrongPaths() {
		if impl.PathOk(p) {
			t.Error(name)
		}
	}
}

func TestPathsThatAreNotRight(t *testing.T) {
	for name, p := range wrongPaths() {
		for _, s := range []string{"1", "[1,2]", `{"a":[[1,2,3]],"b":1}`, "[[[[[[[1]]]]]]]"} {
			v := read(t, s)
			if got(t, v, p...) != "no" || laid(t, v, num(9), p...) != "no" || taken(t, v, p...) != "no" {
				t.Error(name, s)
			}
		}
	}
	// steps behind which the rest would lead somewhere, were they not wrong
	list, m := read(t, "[1,2]"), read(t, `{"":1,"a":2}`)
	for _, p := range [][]impl.PStep{{{Key: "a", At: 1}}, {{Key: "a"}}, {at(-1)}, {at(-2)}} {
		if got(t, list, p...) != "no" || laid(t, list, num(9), p...) != "no" || taken(t, list, p...) != "no" {
			t.Error(p)
		}
	}
	for _, p := range [][]impl.PStep{{{Named: true, Key: "a", At: 1}}, {{Named: true, At: -1}}, {key("\x80")}, {key(strings.Repeat("k", 61))}} {
		if got(t, m, p...) != "no" || laid(t, m, num(9), p...) != "no" || taken(t, m, p...) != "no" {
			t.Error(p)
		}
	}
}

func TestPathsIntoValuesThatAreNotRight(t *testing.T) {
	right := read(t, `{"a":[1]}`)
	for name, v := range wrongValues() {
		for _, p := range [][]impl.PStep{nil, {at(0)}, {key("a")}, {key("a"), at(0)}} {
			if got(t, v, p...) != "no" || laid(t, v, right, p...) != "no" || taken(t, v, p...) != "no" {
				t.Error(name, p)
			}
			if laid(t, right, v, p...) != "no" {
				t.Error(name, "is laid at", p)
			}
		}
		if l := impl.PathsOf(v); len(l) != 0 {
			t.Error(name, l)
		}
	}
}

func TestGot(t *testing.T) {
	v := read(t, `{"":0,"a":[1,{"b":[true,[]]},{}],"aa":"x","c":{"":null,"a":{"a":7}}}`)
	for _, c := range []struct {
		want string
		p    []impl.PStep
	}{
		{impl.JsonText(v), path()},
		{"0", path(key(""))},
		{`[1,{"b":[true,[]]},{}]`, path(key("a"))},
		{"1", path(key("a"), at(0))},
		{`{"b":[true,[]]}`, path(key("a"), at(1))},
		{"true", path(key("a"), at(1), key("b"), at(0))},
		{"[]", path(key("a"), at(1), key("b"), at(1))},
		{"{}", path(key("a"), at(2))},
		{`"x"`, path(key("aa"))},
		{"null", path(key("c"), key(""))},
		{"7", path(key("c"), key("a"), key("a"))},
		// nowhere
		{"no", path(key("b"))},
		{"no", path(key("ab"))},
		{"no", path(key("A"))},
		{"no", path(key("zz"))},
		{"no", path(at(0))},
		{"no", path(at(80))},
		{"no", path(key("a"), at(3))},
		{"no", path(key("a"), at(80))},
		{"no", path(key("a"), key(""))},
		{"no", path(key("a"), key("0"))},
		{"no", path(key("a"), key("a"))},
		{"no", path(key("a"), at(0), at(0))},
		{"no", path(key("a"), at(0), key(""))},
		{"no", path(key("a"), at(1), at(0))},
		{"no", path(key("a"), at(1), key("b"), at(1), at(0))},
		{"no", path(key("a"), at(2), key(""))},
		{"no", path(key(""), at(0))},
		{"no", path(key("aa"), at(0))},
		{"no", path(key("aa"), key("x"))},
		{"no", path(key("c"), key(""), key(""))},
		{"no", path(key("c"), at(0))},
		{"no", slices.Repeat(path(key("a")), 10)},
	} {
		if s := got(t, v, c.p...); s != c.want {
			t.Error(c.p, s)
		}
	}
	deep := deepList(8)
	for n := range 11 {
		want := "no"
		if n < 8 {
			want = strings.Repeat("[", 8-n) + strings.Repeat("]", 8-n)
		}
		if s := got(t, deep, slices.Repeat(path(at(0)), n)...); s != want {
			t.Error(n, s)
		}
	}
	if got(t, wideList(80), at(78)) != "78" || got(t, wideList(80), at(79)) != "no" || got(t, wideList(80), at(80)) != "no" {
		t.Error("places of 79 parts")
	}
}

func TestLaid(t *testing.T) {
	for _, c := range []struct {
		v, w, want string
		p          []impl.PStep
	}{
		{"1", "[2]", "[2]", path()},
		{`{"a":1}`, "null", "null", path()},
		// where a part stands
		{`{"a":[1,2],"b":3}`, "9", `{"a":9,"b":3}`, path(key("a"))},
		{`{"a":[1,2],"b":3}`, `{"x":[]}`, `{"a":[{"x":[]},2],"b":3}`, path(key("a"), at(0))},
		{`{"a":[1,2],"b":3}`, "[]", `{"a":[1,[]],"b":3}`, path(key("a"), at(1))},
		{"[[1,[2]],3]", "9", "[[1,[9]],3]", path(at(0), at(1), at(0))},
		{"[[1,[2]],3]", "9", "[9,3]", path(at(0))},
		// new, as the last step
		{"[]", "9", "[9]", path(at(0))},
		{"{}", "9", `{"a":9}`, path(key("a"))},
		{"{}", "9", `{"":9}`, path(key(""))},
		{"[1,2]", "9", "[1,2,9]", path(at(2))},
		{`{"b":1,"d":2}`, "9", `{"a":9,"b":1,"d":2}`, path(key("a"))},
		{`{"b":1,"d":2}`, "9", `{"b":1,"c":9,"d":2}`, path(key("c"))},
		{`{"b":1,"d":2}`, "9", `{"b":1,"d":2,"e":9}`, path(key("e"))},
		{`{"b":1,"d":2}`, "[[]]", `{"b":1,"bb":[[]],"d":2}`, path(key("bb"))},
		{`{"b":1,"d":2}`, "9", `{"":9,"b":1,"d":2}`, path(key(""))},
		{`{"b":[1,{}]}`, "9", `{"b":[1,{"x":9}]}`, path(key("b"), at(1), key("x"))},
		{`[{"b":[]}]`, `{"a":1}`, `[{"b":[{"a":1}]}]`, path(at(0), key("b"), at(0))},
		// new, ahead of the last step
		{"[]", "9", "no", path(at(0), at(0))},
		{"[]", "9", "no", path(at(0), key("a"))},
		{"{}", "9", "no", path(key("a"), key("b"))},
		{"{}", "9", "no", path(key("a"), at(0))},
		{"[1,2]", "9", "no", path(at(2), at(0))},
		{`{"a":{}}`, "9", "no", path(key("b"), key("c"))},
		{`{"a":[[]]}`, "9", "no", path(key("a"), at(1), at(0))},
		{`{"a":[[]]}`, "9", "no", path(key("b"), at(0), at(0))},
		// nowhere
		{"[]", "9", "no", path(at(1))},
		{"[1,2]", "9", "no", path(at(3))},
		{"[1,2]", "9", "no", path(at(80))},
		{"[1,2]", "9", "no", path(key("a"))},
		{"[1,2]", "9", "no", path(key(""))},
		{"[1,2]", "9", "no", path(key("0"))},
		{`{"a":1}`, "9", "no", path(at(0))},
		{`{"a":1}`, "9", "no", path(at(1))},
		{`{}`, "9", "no", path(at(0))},
		{"null", "9", "no", path(at(0))},
		{"null", "9", "no", path(key("a"))},
		{"1", "9", "no", path(at(0))},
		{`"a"`, "9", "no", path(at(0))},
		{`"a"`, "9", "no", path(key("a"))},
		{"[1]", "9", "no", path(at(0), at(0))},
		{"[1]", "9", "no", path(at(0), key("a"))},
		{`{"a":1}`, "9", "no", path(key("a"), key("b"))},
		{"[[1]]", "9", "no", slices.Repeat(path(at(0)), 10)},
	} {
		if s := laid(t, read(t, c.v), read(t, c.w), c.p...); s != c.want {
			t.Error(c, s)
		}
	}
}

func TestLaidWithinTheLimits(t *testing.T) {
	// 80 and 81 nodes
	if v, ok := impl.Laid(wideList(79), path(at(78)), num(78)); !ok || !same(v, wideList(80)) {
		t.Error("80 nodes, behind the last one")
	}
	if laid(t, wideList(80), num(9), at(79)) != "no" {
		t.Error("81 nodes, behind the last one")
	}
	if v, ok := impl.Laid(wideList(41), path(at(0)), wideList(40)); !ok || len(v) != 80 {
		t.Error("80 nodes, in place of one", len(v))
	}
	if laid(t, wideList(41), wideList(41), at(0)) != "no" || laid(t, wideList(80), wideList(2), at(0)) != "no" {
		t.Error("81 nodes, in place of one")
	}
	if v, ok := impl.Laid(list(t, wideList(79)), path(at(0)), wideList(79)); !ok || len(v) != 80 {
		t.Error("80 nodes, in place of 79", len(v))
	}
	if laid(t, list(t, wideList(79)), wideList(80), at(0)) != "no" {
		t.Error("81 nodes, in place of 79")
	}
	if v, ok := impl.Laid(keyed(t, 78), path(key("x")), null()); !ok || len(v) != 80 {
		t.Error("80 nodes, a new key")
	}
	if laid(t, keyed(t, 79), null(), key("x")) != "no" {
		t.Error("81 nodes, a new key")
	}
	if v, ok := impl.Laid(wideList(80), nil, wideList(80)); !ok || !same(v, wideList(80)) {
		t.Error("80 nodes, without steps")
	}
	// 8 and 9 deep
	if v, ok := impl.Laid(deepList(7), slices.Repeat(path(at(0)), 7), deepList(1)); !ok || !same(v, deepList(8)) {
		t.Error("8 deep", v)
	}
	if laid(t, deepList(8), null(), slices.Repeat(path(at(0)), 8)...) != "no" {
		t.Error("9 deep, below the last one")
	}
	for n := 1; n <= 8; n++ {
		p := slices.Repeat(path(at(0)), n-1)
		if v, ok := impl.Laid(deepList(8), p, deepList(9-n)); !ok || !same(v, deepList(8)) {
			t.Error("8 deep, in place", n)
		}
		if n > 1 && laid(t, deepList(8), deepList(10-n), p...) != "no" {
			t.Error("9 deep, in place", n)
		}
	}
	if v, ok := impl.Laid(mapped(t, nil), path(key("a")), deepList(7)); !ok || len(v) != 8 {
		t.Error("8 deep, a new key")
	}
	if laid(t, mapped(t, nil), deepList(8), key("a")) != "no" {
		t.Error("9 deep, a new key")
	}
}

func TestTaken(t *testing.T) {
	for _, c := range []struct {
		v, want string
		p       []impl.PStep
	}{
		{"[1]", "[]", path(at(0))},
		{"[1,2,3]", "[2,3]", path(at(0))},
		{"[1,2,3]", "[1,3]", path(at(1))},
		{"[1,2,3]", "[1,2]", path(at(2))},
		{`{"a":1}`, "{}", path(key("a"))},
		{`{"":0,"a":1,"b":[2]}`, `{"a":1,"b":[2]}`, path(key(""))},
		{`{"":0,"a":1,"b":[2]}`, `{"":0,"b":[2]}`, path(key("a"))},
		{`{"":0,"a":1,"b":[2]}`, `{"":0,"a":1}`, path(key("b"))},
		{`{"":0,"a":1,"b":[2]}`, `{"":0,"a":1,"b":[]}`, path(key("b"), at(0))},
		{`[[1,[2,{"x":{"y":3,"z":4}}]],5]`, `[[1,[2,{"x":{"z":4}}]],5]`, path(at(0), at(1), at(1), key("x"), key("y"))},
		{`[[1,[2,{"x":{"y":3,"z":4}}]],5]`, `[[1],5]`, path(at(0), at(1))},
		// nothing there
		{"1", "no", path()},
		{"[1]", "no", path()},
		{`{"a":1}`, "no", path()},
		{"[]", "no", path(at(0))},
		{"{}", "no", path(key(""))},
		{"[1,2]", "no", path(at(2))},
		{"[1,2]", "no", path(at(80))},
		{"[1,2]", "no", path(key(""))},
		{"[1,2]", "no", path(key("1"))},
		{`{"a":1}`, "no", path(at(0))},
		{`{"a":1}`, "no", path(key("b"))},
		{`{"b":1}`, "no", path(key("a"))},
		{"null", "no", path(at(0))},
		{`"ab"`, "no", path(at(0))},
		{"[1]", "no", path(at(0), at(0))},
		{"[1]", "no", path(at(1), at(0))},
		{`{"a":[]}`, "no", path(key("b"), at(0))},
		{`{"a":[]}`, "no", path(key("a"), at(0))},
		{"[[1]]", "no", slices.Repeat(path(at(0)), 10)},
	} {
		if s := taken(t, read(t, c.v), c.p...); s != c.want {
			t.Error(c, s)
		}
	}
}

func samePaths(a, b [][]impl.PStep) bool { return slices.EqualFunc(a, b, slices.Equal[[]impl.PStep]) }

func TestPathsOf(t *testing.T) {
	for s, want := range map[string][][]impl.PStep{
		"null":        {{}},
		"[]":          {{}},
		"{}":          {{}},
		"[1]":         {{}, {at(0)}},
		`{"":1}`:      {{}, {key("")}},
		"[[1,2],[3]]": {{}, {at(0)}, {at(0), at(0)}, {at(0), at(1)}, {at(1)}, {at(1), at(0)}},
		`{"a":{"b":[1,{}]},"c":[{"d":null}],"":0}`: {
			{}, {key("")}, {key("a")}, {key("a"), key("b")}, {key("a"), key("b"), at(0)}, {key("a"), key("b"), at(1)},
			{key("c")}, {key("c"), at(0)}, {key("c"), at(0), key("d")},
		},
	} {
		if l := impl.PathsOf(read(t, s)); !samePaths(l, want) {
			t.Error(s, l)
		}
	}
	if l := impl.PathsOf(deepList(8)); len(l) != 8 || len(l[7]) != 7 {
		t.Error(l)
	}
	if l := impl.PathsOf(wideList(80)); len(l) != 80 || !slices.Equal(l[79], path(at(78))) {
		t.Error(l)
	}
}

// aheadOfParts answers the places in v of the nodes, each one ahead of its parts.
func aheadOfParts(v []impl.VNode, n int64) []int64 {
	all := []int64{n}
	for _, k := range v[n].Kids {
		all = append(all, aheadOfParts(v, k)...)
	}
	return all
}

func TestAsManyPathsAsNodes(t *testing.T) {
	for _, v := range append(dressedValues(41, 800), wideList(80), deepList(8), keyed(t, 79)) {
		l := impl.PathsOf(v)
		places := aheadOfParts(v, int64(len(v)-1))
		if len(l) != len(v) || len(places) != len(v) {
			t.Fatal(v, l)
		}
		for i, p := range l {
			if !impl.PathOk(p) {
				t.Fatal("not right", p)
			}
			want, ok := impl.PartOf(v, places[i])
			w, fine := impl.Got(v, p)
			if !ok || !fine || !same(w, want) {
				t.Fatal(v, p, w, want)
			}
			for _, q := range l[:i] {
				if slices.Equal(p, q) {
					t.Fatal("twice", v, p)
				}
			}
		}
	}
}

// otherLaid rebuilds each list and map on the way; no w takes what stands there.
func otherLaid(v []impl.VNode, p []impl.PStep, w []impl.VNode) ([]impl.VNode, bool) {
	if len(p) == 0 {
		return w, w != nil
	}
	whole := v[len(v)-1]
	keys, parts := slices.Clone(whole.Keys), impl.PartsOf(v)
	i := int(p[0].At)
	switch {
	case p[0].Named && whole.Kind == impl.VlMap:
		if i = slices.Index(keys, p[0].Key); i < 0 {
			i = len(keys)
			keys = append(keys, p[0].Key)
		}
	case p[0].Named || whole.Kind != impl.VlList || i > len(parts):
		return nil, false
	}
	switch {
	case len(p) == 1 && w == nil && i < len(parts):
		parts = slices.Delete(parts, i, i+1)
		if p[0].Named {
			keys = slices.Delete(keys, i, i+1)
		}
	case len(p) == 1 && w != nil:
		parts = append(parts[:i:i], append([][]impl.VNode{w}, parts[min(i+1, len(parts)):]...)...)
	case len(p) > 1 && i < len(parts):
		part, ok := otherLaid(parts[i], p[1:], w)
		if !ok {
			return nil, false
		}
		parts[i] = part
	default:
		return nil, false
	}
	if whole.Kind == impl.VlMap {
		return impl.MapOf(keys, parts)
	}
	return impl.ListOf(parts)
}

// wholes are values that have parts, but for a few.
func wholes(seed int64, count int) [][]impl.VNode {
	all := slices.DeleteFunc(dressedValues(seed, 5*count), func(v []impl.VNode) bool { return len(v) == 1 })
	return append(all[:count], null(), num(1), text("a"))
}

// somePath answers a path of v, which r may lead on or astray.
func somePath(r *rand.Rand, v []impl.VNode) []impl.PStep {
	l := impl.PathsOf(v)
	p := slices.Clone(l[r.Intn(len(l))])
	strays := []impl.PStep{at(0), at(1), at(2), at(3), at(int64(r.Intn(81))), key(""), key("a"), key("b"), key(lookalikes[r.Intn(len(lookalikes))])}
	switch stray := strays[r.Intn(len(strays))]; {
	case r.Intn(3) == 0:
		p = append(p, stray)
	case len(p) > 0 && r.Intn(3) == 0:
		p[len(p)-1] = stray
	case len(p) > 0 && r.Intn(5) == 0:
		p[r.Intn(len(p))] = stray
	}
	return p
}

func begins(p, with []impl.PStep) bool {
	return len(p) >= len(with) && slices.Equal(p[:len(with)], with)
}

// otherwiseSame asks that the paths of a that do not begin with p are also
// those of b, and lead to the same values, but for those that p leads through.
func otherwiseSame(t *testing.T, a, b []impl.VNode, p []impl.PStep) {
	t.Helper()
	rest := func(v []impl.VNode) [][]impl.PStep {
		return slices.DeleteFunc(impl.PathsOf(v), func(q []impl.PStep) bool { return begins(q, p) })
	}
	if !samePaths(rest(a), rest(b)) {
		t.Fatal("other paths", a, b, p)
	}
	for _, q := range rest(a) {
		x, ok := impl.Got(a, q)
		y, fine := impl.Got(b, q)
		if !ok || !fine || !begins(p, q) && !same(x, y) {
			t.Fatal("changed beside", p, q, x, y)
		}
	}
}

func TestLaidIsGot(t *testing.T) {
	r := rand.New(rand.NewSource(42))
	values := wholes(43, 1000)
	there, fresh, refused := 0, 0, 0
	for i, v := range values {
		for range 6 {
			p, w := somePath(r, v), values[(i+r.Intn(20))%len(values)]
			want, fine := otherLaid(v, p, w)
			x, ok := impl.Laid(v, p, w)
			if ok != fine || ok && !same(x, want) || !ok && len(x) != 0 {
				t.Fatal(v, p, w, x, ok, want, fine)
			}
			if !ok {
				refused++
				continue
			}
			if back, ok := impl.Got(x, p); !ok || !same(back, w) || !impl.ValueOk(x) {
				t.Fatal("not got", v, p, w, back)
			}
			otherwiseSame(t, v, x, p)
			old, ok := impl.Got(v, p)
			if !ok {
				fresh++
				if back, ok := impl.Taken(x, p); !ok || !same(back, v) {
					t.Fatal("what was new is not taken", v, p, w, back)
				}
				continue
			}
			there++
			if back, ok := impl.Laid(x, p, old); !ok || !same(back, v) {
				t.Fatal("not laid back", v, p, w, back)
			}
		}
	}
	if there < 1000 || fresh < 300 || refused < 1000 {
		t.Error(there, fresh, refused)
	}
}

func TestTakenIsNotThere(t *testing.T) {
	r := rand.New(rand.NewSource(44))
	count, refused := 0, 0
	for _, v := range wholes(45, 1000) {
		for range 6 {
			p := somePath(r, v)
			want, fine := otherLaid(v, p, nil)
			x, ok := impl.Taken(v, p)
			if ok != fine || ok && !same(x, want) || !ok && len(x) != 0 {
				t.Fatal(v, p, x, ok, want, fine)
			}
			old, there := impl.Got(v, p)
			if ok != (there && len(p) > 0) {
				t.Fatal(v, p, ok)
			}
			if !ok {
				refused++
				continue
			}
			count++
			if len(x) != len(v)-len(old) || !impl.ValueOk(x) {
				t.Fatal("not that part alone", v, p, x)
			}
			last := p[len(p)-1]
			if _, still := impl.Got(x, p); last.Named && still {
				t.Fatal("still there", v, p, x)
			}
			if last.Named {
				otherwiseSame(t, v, x, p)
				continue
			}
			movedUp(t, v, x, p)
		}
	}
	if count < 1000 || refused < 1000 {
		t.Error(count, refused)
	}
}

// movedUp asks that in x the list to which the last step of p belongs is that of v without the part at it.
func movedUp(t *testing.T, v, x []impl.VNode, p []impl.PStep) {
	t.Helper()
	in := p[:len(p)-1]
	before, _ := impl.Got(v, in)
	after, _ := impl.Got(x, in)
	i := int(p[len(p)-1].At)
	if !sameAll(impl.PartsOf(after), slices.Delete(impl.PartsOf(before), i, i+1)) {
		t.Fatal("other parts", v, p, x)
	}
	if len(in) > 0 {
		otherwiseSame(t, v, x, in)
	}
}

// roomyPath answers a copy of p with marked spare room behind it.
func roomyPath(p []impl.PStep) []impl.PStep {
	return append(slices.Clone(p), at(mark), at(mark))[:len(p)]
}

func pathUntouched(p, want []impl.PStep) bool {
	room := p[len(p) : len(p)+2]
	return slices.Equal(p, want) && room[0] == at(mark) && room[1] == at(mark)
}

func TestPathArgumentsStay(t *testing.T) {
	r := rand.New(rand.NewSource(46))
	for _, v := range append(wholes(47, 300), wideList(79), keyed(t, 60)) {
		p := somePath(r, v)
		a, b, q := roomy(v), roomy(v), roomyPath(p)
		impl.PathOk(q)
		impl.PathsOf(a)
		for range 2 {
			var answers [][]impl.VNode
			x, ok := impl.Got(a, q)
			y, laid := impl.Laid(a, q, b)
			z, taken := impl.Taken(a, q)
			again, _ := impl.Laid(a, q, a)
			if laid && !same(again, y) {
				t.Fatal("another answer", v, p)
			}
			if ok || laid || taken {
				answers = append(answers, x, y, z, again)
			}
			if shared(answers...) {
				t.Fatal("lists of answers share memory", v, p)
			}
			if !untouched(a, v) || !untouched(b, v) || !pathUntouched(q, p) {
				t.Fatal("an argument was written", v, p)
			}
		}
		for len(q) > 0 {
			q = roomyPath(q[:len(q)-1])
			want := slices.Clone(q)
			impl.Laid(a, q, null())
			impl.Taken(a, q)
			if !untouched(a, v) || !pathUntouched(q, want) {
				t.Fatal("an argument was written", v, q)
			}
		}
	}
}

func TestPathsShareNothing(t *testing.T) {
	for _, v := range append(dressedValues(48, 300), deepList(8)) {
		l, want := impl.PathsOf(v), impl.PathsOf(v)
		for i, p := range l {
			full := p[:cap(p)]
			for j := range full {
				full[j] = at(int64(1000 + i))
			}
		}
		for i, p := range l {
			for _, step := range p[:cap(p)] {
				if step != at(int64(1000+i)) {
					t.Fatal("two paths share memory", v)
				}
			}
		}
		if !samePaths(impl.PathsOf(v), want) {
			t.Fatal("another answer", v)
		}
	}
}

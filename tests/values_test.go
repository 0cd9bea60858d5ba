package tests

import (
	"math"
	"math/rand"
	"slices"
	"strings"
	"testing"

	"loop.example/g00345/impl"
)

func TestRightValues(t *testing.T) {
	long := strings.Repeat("k", impl.MaxText)
	for name, v := range map[string][]impl.VNode{
		"null":           null(),
		"false":          truth(0),
		"true":           truth(1),
		"0":              num(0),
		"greatest":       num(1000000000000000),
		"least":          num(-1000000000000000),
		"empty text":     text(""),
		"60 bytes":       text(long),
		"bytes 0, 127":   text("\x00\x7f"),
		"empty list":     {{Kind: impl.VlList}},
		"empty map":      {{Kind: impl.VlMap}},
		"not nil":        {{Kind: impl.VlNull, Keys: []string{}, Kids: []int64{}}},
		"80 nodes":       wideList(80),
		"8 on a path":    deepList(8),
		"keys":           {{Kind: impl.VlNull}, {Kind: impl.VlNull}, {Kind: impl.VlNull}, {Kind: impl.VlMap, Keys: []string{"", "a", "ab"}, Kids: []int64{0, 1, 2}}},
		"key of 60":      {{Kind: impl.VlNull}, {Kind: impl.VlMap, Keys: []string{long}, Kids: []int64{0}}},
		"key of 127":     {{Kind: impl.VlNull}, {Kind: impl.VlMap, Keys: []string{"\x7f"}, Kids: []int64{0}}},
		"deep then flat": {{Kind: impl.VlNull}, {Kind: impl.VlList, Kids: []int64{0}}, {Kind: impl.VlNull}, {Kind: impl.VlList, Kids: []int64{1, 2}}},
	} {
		if !impl.ValueOk(v) {
			t.Error(name)
		}
		if impl.Order(v, v) != 0 {
			t.Error(name, "is not the same as itself")
		}
	}
	for _, v := range someValues(1, 300) {
		if !impl.ValueOk(v) {
			t.Error(v)
		}
	}
}

// wrongValues are not right, in each way that the chapter names.
func wrongValues() map[string][]impl.VNode {
	long := strings.Repeat("k", impl.MaxText+1)
	one := []int64{0}
	return map[string][]impl.VNode{
		"no node":            nil,
		"81 nodes":           wideList(81),
		"9 on a path":        deepList(9),
		"kind 0":             {{}},
		"kind 7":             {{Kind: 7}},
		"kind -1":            {{Kind: -1}},
		"truth 2":            truth(2),
		"truth -1":           truth(-1),
		"too great":          num(1000000000000001),
		"too small":          num(-1000000000000001),
		"greatest int64":     num(math.MaxInt64),
		"least int64":        num(math.MinInt64),
		"61 bytes":           text(long),
		"byte 128":           text("\x80"),
		"byte 255":           text("\xff"),
		"null with N":        {{Kind: impl.VlNull, N: 1}},
		"text with N":        {{Kind: impl.VlText, N: 1}},
		"list with N":        {{Kind: impl.VlList, N: 1}},
		"map with N":         {{Kind: impl.VlMap, N: 1}},
		"null with S":        {{Kind: impl.VlNull, S: "a"}},
		"truth with S":       {{Kind: impl.VlBool, S: "a"}},
		"number with S":      {{Kind: impl.VlInt, S: "a"}},
		"list with S":        {{Kind: impl.VlList, S: "a"}},
		"map with S":         {{Kind: impl.VlMap, S: "a"}},
		"null with keys":     {{Kind: impl.VlNull, Keys: []string{"a"}}},
		"truth with keys":    {{Kind: impl.VlBool, Keys: []string{"a"}}},
		"number with keys":   {{Kind: impl.VlInt, Keys: []string{"a"}}},
		"text with keys":     {{Kind: impl.VlText, Keys: []string{"a"}}},
		"list with keys":     {{Kind: impl.VlNull}, {Kind: impl.VlList, Keys: []string{"a"}, Kids: one}},
		"null with kids":     {{Kind: impl.VlNull}, {Kind: impl.VlNull, Kids: one}},
		"truth with kids":    {{Kind: impl.VlNull}, {Kind: impl.VlBool, Kids: one}},
		"number with kids":   {{Kind: impl.VlNull}, {Kind: impl.VlInt, Kids: one}},
		"text with kids":     {{Kind: impl.VlNull}, {Kind: impl.VlText, Kids: one}},
		"key without kid":    {{Kind: impl.VlMap, Keys: []string{"a"}}},
		"kid without key":    {{Kind: impl.VlNull}, {Kind: impl.VlMap, Kids: one}},
		"a key twice":        {{Kind: impl.VlNull}, {Kind: impl.VlNull}, {Kind: impl.VlMap, Keys: []string{"a", "a"}, Kids: []int64{0, 1}}},
		"keys that fall":     {{Kind: impl.VlNull}, {Kind: impl.VlNull}, {Kind: impl.VlMap, Keys: []string{"ab", "a"}, Kids: []int64{0, 1}}},
		"key of 61":          {{Kind: impl.VlNull}, {Kind: impl.VlMap, Keys: []string{long}, Kids: one}},
		"key of byte 128":    {{Kind: impl.VlNull}, {Kind: impl.VlMap, Keys: []string{"\x80"}, Kids: one}},
		"two wholes":         {{Kind: impl.VlNull}, {Kind: impl.VlNull}},
		"first is not its":   {{Kind: impl.VlNull}, {Kind: impl.VlNull}, {Kind: impl.VlList, Kids: []int64{1}}},
		"last is not its":    {{Kind: impl.VlNull}, {Kind: impl.VlNull}, {Kind: impl.VlList, Kids: []int64{0}}},
		"a gap":              {{Kind: impl.VlNull}, {Kind: impl.VlNull}, {Kind: impl.VlNull}, {Kind: impl.VlList, Kids: []int64{0, 2}}},
		"kids out of order":  {{Kind: impl.VlNull}, {Kind: impl.VlNull}, {Kind: impl.VlList, Kids: []int64{1, 0}}},
		"a kid twice":        {{Kind: impl.VlNull}, {Kind: impl.VlList, Kids: []int64{0, 0}}},
		"a kid of two":       {{Kind: impl.VlNull}, {Kind: impl.VlList, Kids: one}, {Kind: impl.VlList, Kids: []int64{0, 1}}},
		"its own kid":        {{Kind: impl.VlList, Kids: one}},
		"a kid behind it":    {{Kind: impl.VlList, Kids: []int64{1}}, {Kind: impl.VlNull}},
		"kid -1":             {{Kind: impl.VlList, Kids: []int64{-1}}},
		"kid -1 and 0":       {{Kind: impl.VlNull}, {Kind: impl.VlList, Kids: []int64{-1, 0}}},
		"least kid":          {{Kind: impl.VlNull}, {Kind: impl.VlList, Kids: []int64{math.MinInt64}}},
		"greatest kid":       {{Kind: impl.VlNull}, {Kind: impl.VlList, Kids: []int64{math.MaxInt64}}},
		"wrong inside":       {{Kind: impl.VlInt, N: impl.MaxInt + 1}, {Kind: impl.VlList, Kids: one}},
		"wrong among others": {{Kind: impl.VlNull}, {Kind: impl.VlBool, N: 2}, {Kind: impl.VlNull}, {Kind: impl.VlList, Kids: []int64{0, 1, 2}}},
	}
}

func TestWrongValues(t *testing.T) {
	right := num(1)
	for name, v := range wrongValues() {
		if impl.ValueOk(v) {
			t.Error(name, "is right")
		}
		if impl.Order(v, right) != -2 || impl.Order(right, v) != -2 || impl.Order(v, v) != -2 {
			t.Error(name, "has an order")
		}
		if p, ok := impl.PartOf(v, 0); ok || len(p) != 0 {
			t.Error(name, "has a part")
		}
		if p := impl.PartsOf(v); len(p) != 0 {
			t.Error(name, "has parts")
		}
		if l, ok := impl.ListOf([][]impl.VNode{right, v}); ok || len(l) != 0 {
			t.Error(name, "is in a list")
		}
		if m, ok := impl.MapOf([]string{"a", "b"}, [][]impl.VNode{v, right}); ok || len(m) != 0 {
			t.Error(name, "is in a map")
		}
		if impl.JsonText(v) != "" || impl.Indented(v) != "" {
			t.Error(name, "has a text")
		}
	}
}

// laidOut answers the nodes of the whole n as they must stand; false when they can't.
func laidOut(v []impl.VNode, n int64, deep int, out []impl.VNode) ([]impl.VNode, bool) {
	if deep > impl.MaxDeep || n < 0 || n >= int64(len(v)) || len(out) > impl.MaxNodes {
		return nil, false
	}
	whole := v[n]
	whole.Kids = nil
	for _, k := range v[n].Kids {
		var ok bool
		if out, ok = laidOut(v, k, deep+1, out); !ok {
			return nil, false
		}
		whole.Kids = append(whole.Kids, int64(len(out)-1))
	}
	return append(out, whole), true
}

func TestPlacesOfKids(t *testing.T) {
	r := rand.New(rand.NewSource(2))
	right, wrong := 0, 0
	for _, v := range someValues(3, 2000) {
		v = roomy(v)
		n := r.Intn(len(v))
		if v[n].Kind != impl.VlList {
			continue
		}
		switch places := v[n].Kids; {
		case len(places) == 0 || r.Intn(4) == 0:
			v[n].Kids = append(places, int64(r.Intn(len(v))))
		case r.Intn(4) == 0:
			v[n].Kids = places[1:]
		default:
			places[r.Intn(len(places))] += int64(r.Intn(5) - 2)
		}
		want, ok := laidOut(v, int64(len(v)-1), 1, nil)
		ok = ok && same(want, v)
		if impl.ValueOk(v) != ok {
			t.Error(v, ok)
		}
		if ok {
			right++
		} else {
			wrong++
		}
	}
	if right == 0 || wrong == 0 {
		t.Error(right, wrong)
	}
}

// rising stand in order, no two alike.
var rising = []string{
	"null", "false", "true",
	"-1000000000000000", "-2", "-1", "0", "1", "2", "10", "1000000000000000",
	`""`, `"\u0000"`, `"B"`, `"a"`, `"a\u0000"`, `"aa"`, `"ab"`, `"b"`, `"\u007f"`,
	"[]", "[null]", "[null,null]", "[1]", "[1,2]", "[1,2,0]", "[1,9]", "[2]", "[10]", `["a"]`, "[[]]", "[[],0]", "[[9],0]", "[[9,1]]", "[{}]",
	"{}", `{"":9}`, `{"":9,"a":9}`, `{"":1,"b":9}`, `{"a":1}`, `{"a":2}`, `{"a":[9]}`, `{"a":0,"aa":9}`, `{"a":0,"b":1}`, `{"a":0,"b":2}`, `{"a":1,"b":1}`, `{"a":0,"b":0,"c":0}`, `{"aa":0}`, `{"b":0}`,
}

func TestOrder(t *testing.T) {
	for i, a := range rising {
		for j, b := range rising {
			want := int64(0)
			if i < j {
				want = -1
			} else if i > j {
				want = 1
			}
			if got := impl.Order(read(t, a), read(t, b)); got != want {
				t.Error(a, b, got)
			}
		}
	}
	if impl.Order(nil, nil) != -2 {
		t.Error("an order of nothing")
	}
}

func TestOrderIsTotal(t *testing.T) {
	all := someValues(4, 150)
	for _, a := range all {
		for _, b := range all {
			c := impl.Order(a, b)
			if c < -1 || c > 1 || c != -impl.Order(b, a) {
				t.Fatal(a, b, c)
			}
			if (c == 0) != same(a, b) {
				t.Fatal("neither ahead nor behind", a, b)
			}
		}
	}
	slices.SortFunc(all, func(a, b []impl.VNode) int { return int(impl.Order(a, b)) })
	for i, a := range all {
		for _, b := range all[i:] {
			if impl.Order(a, b) > 0 {
				t.Fatal("a circle", a, b)
			}
		}
	}
}

func TestPartOf(t *testing.T) {
	v := read(t, `{"a":[1,{"b":[true]}],"c":"x"}`)
	for n, want := range []string{"1", "true", "[true]", `{"b":[true]}`, `[1,{"b":[true]}]`, `"x"`, `{"a":[1,{"b":[true]}],"c":"x"}`} {
		p, ok := impl.PartOf(v, int64(n))
		if !ok || !impl.ValueOk(p) || impl.JsonText(p) != want {
			t.Error(n, p, ok)
		}
	}
	for _, n := range []int64{-1, 7, 80, math.MaxInt64, math.MinInt64} {
		if p, ok := impl.PartOf(v, n); ok || len(p) != 0 {
			t.Error(n, p)
		}
	}
}

func TestListOf(t *testing.T) {
	if v, ok := impl.ListOf(nil); !ok || !same(v, []impl.VNode{{Kind: impl.VlList}}) {
		t.Error(v, ok)
	}
	v := list(t, num(7), deepList(7), num(8))
	if len(v) != 10 || !slices.Equal(v[9].Kids, []int64{0, 7, 8}) || v[2].Kids[0] != 1 {
		t.Error(v)
	}
	if _, ok := impl.ListOf([][]impl.VNode{deepList(8)}); ok {
		t.Error("9 on a path")
	}
	if !impl.ValueOk(list(t, wideList(40), wideList(39))) {
		t.Error("80 nodes")
	}
	if _, ok := impl.ListOf([][]impl.VNode{wideList(40), wideList(40)}); ok {
		t.Error("81 nodes")
	}
	var l [][]impl.VNode
	for len(l) < 79 {
		l = append(l, null())
	}
	if v, ok := impl.ListOf(l); !ok || len(v) != 80 {
		t.Error("79 parts", ok)
	}
	for len(l) < 82 {
		l = append(l, null())
		if _, ok := impl.ListOf(l); ok {
			t.Error(len(l), "parts")
		}
	}
}

func TestMapOf(t *testing.T) {
	if v, ok := impl.MapOf(nil, nil); !ok || !same(v, []impl.VNode{{Kind: impl.VlMap}}) {
		t.Error(v, ok)
	}
	want := mapped(t, []string{"", "a", "b", "ba"}, num(0), list(t, num(1), num(2)), num(3), null())
	if !slices.Equal(want[6].Keys, []string{"", "a", "b", "ba"}) || !slices.Equal(want[6].Kids, []int64{0, 3, 4, 5}) {
		t.Fatal(want)
	}
	if v := mapped(t, []string{"ba", "b", "", "a"}, null(), num(3), num(0), list(t, num(1), num(2))); !same(v, want) {
		t.Error(v)
	}
	long := strings.Repeat("k", impl.MaxText)
	mapped(t, []string{long, "\x7f"}, null(), null())
	for name, keys := range map[string][]string{"twice": {"a", "a"}, "too few": {"a"}, "too many": {"a", "b", "c"}, "none": nil, "61 bytes": {"a", long + "k"}, "byte 128": {"\x80", "a"}} {
		if v, ok := impl.MapOf(keys, [][]impl.VNode{num(1), num(2)}); ok || len(v) != 0 {
			t.Error(name, v)
		}
	}
	if _, ok := impl.MapOf([]string{"b", "a", "b"}, [][]impl.VNode{null(), null(), null()}); ok {
		t.Error("twice, not beside each other")
	}
	if _, ok := impl.MapOf([]string{"a"}, [][]impl.VNode{deepList(8)}); ok {
		t.Error("9 on a path")
	}
	if _, ok := impl.MapOf([]string{"a", "b"}, [][]impl.VNode{wideList(40), wideList(40)}); ok {
		t.Error("81 nodes")
	}
	if v, ok := impl.MapOf([]string{"a", "b"}, [][]impl.VNode{wideList(40), wideList(39)}); !ok || len(v) != 80 {
		t.Error("80 nodes")
	}
}

func TestListsAndMapsAreOfTheirParts(t *testing.T) {
	r := rand.New(rand.NewSource(5))
	for _, v := range someValues(6, 500) {
		whole := v[len(v)-1]
		parts := impl.PartsOf(v)
		if len(parts) != len(whole.Kids) {
			t.Fatal(v, parts)
		}
		for i, k := range whole.Kids {
			if p, ok := impl.PartOf(v, k); !ok || !same(p, parts[i]) {
				t.Fatal(v, i, p)
			}
		}
		l, ok := impl.ListOf(parts)
		if !ok || !sameAll(impl.PartsOf(l), parts) || whole.Kind == impl.VlList && !same(l, v) {
			t.Fatal(v, l)
		}
		if whole.Kind == impl.VlMap {
			keys := slices.Clone(whole.Keys)
			r.Shuffle(len(keys), func(i, j int) {
				keys[i], keys[j] = keys[j], keys[i]
				parts[i], parts[j] = parts[j], parts[i]
			})
			if m, ok := impl.MapOf(keys, parts); !ok || !same(m, v) {
				t.Fatal(v, m)
			}
		}
	}
}

func TestArgumentsStay(t *testing.T) {
	for _, v := range append(someValues(7, 200), null(), wideList(80), deepList(8)) {
		a := roomy(v)
		b := roomy(v)
		keys := append(make([]string, 0, 4), "b", "a")
		both := append(make([][]impl.VNode, 0, 4), a, b)
		impl.ValueOk(a)
		impl.Order(a, b)
		for range 2 {
			part, _ := impl.PartOf(a, int64(len(a)-1))
			parts := impl.PartsOf(a)
			l, _ := impl.ListOf(both)
			m, _ := impl.MapOf(keys, both)
			answers := append(parts, part, l, m)
			if !same(part, v) || len(l) > 0 && len(l) != 2*len(v)+1 || !sameAll(parts, impl.PartsOf(v)) {
				t.Fatal("another answer", v)
			}
			if shared(answers...) {
				t.Fatal("lists of one answer share memory", v)
			}
			if !untouched(a, v) || !untouched(b, v) {
				t.Fatal("an argument was written", v)
			}
		}
		if !slices.Equal(keys[:4], []string{"b", "a", "", ""}) || !sameAll(both[:4], [][]impl.VNode{v, v, nil, nil}) {
			t.Fatal("an argument was written", keys, both)
		}
	}
}

package tests

import (
	"math/rand"
	"slices"
	"testing"

	"loop.example/g00345/impl"
)

// An otherRun evaluates node by node with lists and codes, by the functions of chapter 1.
type otherRun struct {
	f    []impl.FNode
	fuel int64
}

func otherEval(f []impl.FNode, v []impl.VNode, fuel int64) ([][]impl.VNode, int64) {
	o := otherRun{f, fuel}
	outs, code := o.of(int64(len(f)-1), v)
	if code != impl.EvDone {
		return nil, code
	}
	return outs, code
}

func whole(v []impl.VNode) impl.VNode { return v[len(v)-1] }

func otherCounts(v []impl.VNode) bool {
	return whole(v).Kind != impl.VlNull && (whole(v).Kind != impl.VlBool || whole(v).N == 1)
}

func (o *otherRun) of(n int64, v []impl.VNode) ([][]impl.VNode, int64) {
	if o.fuel--; o.fuel < 0 {
		return nil, impl.EvFuel
	}
	m := o.f[n]
	switch m.Kind {
	case impl.FlPipe, impl.FlIf:
		return o.ofEach(m, v)
	case impl.FlComma:
		outs, code := o.of(m.Kids[0], v)
		if code != impl.EvDone {
			return nil, code
		}
		more, code := o.of(m.Kids[1], v)
		return few(append(outs, more...), code)
	case impl.FlList:
		if len(m.Kids) == 0 {
			return one(impl.ListOf(nil))
		}
		outs, code := o.of(m.Kids[0], v)
		if code != impl.EvDone {
			return nil, code
		}
		return one(impl.ListOf(outs))
	case impl.FlMap:
		return o.ofMap(m, v)
	case impl.FlSelect:
		outs, code := o.of(m.Kids[0], v)
		return slices.Repeat([][]impl.VNode{v}, len(slices.DeleteFunc(outs, without))), code
	case impl.FlAdd, impl.FlSub, impl.FlEq, impl.FlNe, impl.FlLt, impl.FlLe:
		return o.ofTwo(m, v)
	case impl.FlAlt:
		outs, code := o.of(m.Kids[0], v)
		if code == impl.EvKind {
			outs, code = nil, impl.EvDone
		}
		if outs = slices.DeleteFunc(outs, without); code == impl.EvDone && len(outs) == 0 {
			return o.of(m.Kids[1], v)
		}
		return outs, code
	case impl.FlTry:
		outs, code := o.of(m.Kids[0], v)
		if code == impl.EvKind {
			return nil, impl.EvDone
		}
		return outs, code
	}
	return otherLeaf(m, v)
}

func without(v []impl.VNode) bool { return !otherCounts(v) }

func few(outs [][]impl.VNode, code int64) ([][]impl.VNode, int64) {
	if code == impl.EvDone && len(outs) > 40 {
		return nil, impl.EvLimit
	}
	return outs, code
}

func one(v []impl.VNode, ok bool) ([][]impl.VNode, int64) {
	if !ok {
		return nil, impl.EvLimit
	}
	return [][]impl.VNode{v}, impl.EvDone
}

func otherLeaf(m impl.FNode, v []impl.VNode) ([][]impl.VNode, int64) {
	k, parts := whole(v).Kind, impl.PartsOf(v)
	switch m.Kind {
	case impl.FlSelf:
		return one(v, true)
	case impl.FlConst:
		return one(m.Const, true)
	case impl.FlEmpty:
		return nil, impl.EvDone
	case impl.FlNot:
		if otherCounts(v) {
			return one(truth(0), true)
		}
		return one(truth(1), true)
	case impl.FlLength:
		switch k {
		case impl.VlBool:
			return nil, impl.EvKind
		case impl.VlInt:
			return one(num(max(whole(v).N, -whole(v).N)), true)
		}
		return one(num(int64(len(whole(v).S)+len(parts))), true)
	case impl.FlKey, impl.FlAt:
		return otherStep(m, v)
	}
	if k != impl.VlList && k != impl.VlMap {
		return nil, impl.EvKind
	}
	if m.Kind == impl.FlEach {
		return few(parts, impl.EvDone)
	}
	var keys [][]impl.VNode
	for i := range parts {
		if k == impl.VlList {
			keys = append(keys, num(int64(i)))
		} else {
			keys = append(keys, text(whole(v).Keys[i]))
		}
	}
	return one(impl.ListOf(keys))
}

// otherStep goes by a path, as chapter 6 has it.
func otherStep(m impl.FNode, v []impl.VNode) ([][]impl.VNode, int64) {
	if whole(v).Kind == impl.VlNull {
		return one(null(), true)
	}
	step := key(m.Name)
	if m.Kind == impl.FlAt {
		step = at(m.At)
		if m.At < 0 {
			step = at(m.At + int64(len(whole(v).Kids)))
		}
		if whole(v).Kind != impl.VlList {
			return nil, impl.EvKind
		}
	} else if whole(v).Kind != impl.VlMap {
		return nil, impl.EvKind
	}
	if part, ok := impl.Got(v, path(step)); ok {
		return one(part, true)
	}
	return one(null(), true)
}

func (o *otherRun) ofEach(m impl.FNode, v []impl.VNode) ([][]impl.VNode, int64) {
	first, code := o.of(m.Kids[0], v)
	var outs [][]impl.VNode
	for i := 0; i < len(first) && code == impl.EvDone; i++ {
		var more [][]impl.VNode
		switch {
		case m.Kind == impl.FlPipe:
			more, code = o.of(m.Kids[1], first[i])
		case otherCounts(first[i]):
			more, code = o.of(m.Kids[1], v)
		default:
			more, code = o.of(m.Kids[2], v)
		}
		outs, code = few(append(outs, more...), code)
	}
	return outs, code
}

// ofMap goes through the choices with a row of places, the last kid's innermost.
func (o *otherRun) ofMap(m impl.FNode, v []impl.VNode) ([][]impl.VNode, int64) {
	count := len(m.Kids)
	if count == 0 {
		return one(impl.MapOf(nil, nil))
	}
	rows, places := make([][][]impl.VNode, count), make([]int, count)
	var outs [][]impl.VNode
	for deep, fresh := 0, true; deep >= 0; {
		if fresh {
			var code int64
			if rows[deep], code = o.of(m.Kids[deep], v); code != impl.EvDone {
				return nil, code
			}
			places[deep] = -1
		}
		places[deep]++
		if places[deep] == len(rows[deep]) {
			deep, fresh = deep-1, false
			continue
		}
		if deep+1 < count {
			deep, fresh = deep+1, true
			continue
		}
		fresh = false
		var chosen [][]impl.VNode
		for i, place := range places {
			chosen = append(chosen, rows[i][place])
		}
		made, ok := impl.MapOf(m.Names, chosen)
		if outs = append(outs, made); !ok || len(outs) > 40 {
			return nil, impl.EvLimit
		}
	}
	return outs, impl.EvDone
}

func (o *otherRun) ofTwo(m impl.FNode, v []impl.VNode) ([][]impl.VNode, int64) {
	left, code := o.of(m.Kids[0], v)
	if code != impl.EvDone {
		return nil, code
	}
	var outs [][]impl.VNode
	for _, a := range left {
		right, code := o.of(m.Kids[1], v)
		if code != impl.EvDone {
			return nil, code
		}
		for _, b := range right {
			made, code := otherMade(m.Kind, a, b)
			if outs = append(outs, made); code != impl.EvDone {
				return nil, code
			}
			if len(outs) > 40 {
				return nil, impl.EvLimit
			}
		}
	}
	return outs, impl.EvDone
}

func otherMade(k int64, a, b []impl.VNode) ([]impl.VNode, int64) {
	c, yes := impl.Order(a, b), false
	switch k {
	case impl.FlAdd:
		return otherSum(a, b)
	case impl.FlSub:
		return otherDifference(a, b)
	case impl.FlEq:
		yes = c == 0
	case impl.FlNe:
		yes = c == 1 || c == -1
	case impl.FlLt:
		yes = c == -1
	case impl.FlLe:
		yes = c == 0 || c == -1
	}
	if yes {
		return truth(1), impl.EvDone
	}
	return truth(0), impl.EvDone
}

// livelyFilter has several outcomes more often than someFilter, and ends less often.
func livelyFilter(r *rand.Rand, deep int) []impl.FNode {
	if deep == 1 || r.Intn(6) == 0 {
		switch r.Intn(12) {
		case 0, 1:
			return kind(impl.FlSelf)
		case 2:
			return named([]string{"a", "b", "c"}[r.Intn(3)])
		case 3:
			return placed(int64(r.Intn(7) - 3))
		case 4, 5:
			return kind(impl.FlEach)
		case 6, 7:
			return count(int64(r.Intn(4)))
		case 8:
			return constant([][]impl.VNode{null(), truth(0), truth(1), text("ab"), num(impl.MaxInt)}[r.Intn(5)])
		case 9:
			return kind([]int64{impl.FlLength, impl.FlKeys, impl.FlNot, impl.FlEmpty}[r.Intn(4)])
		}
		return kind(impl.FlComma, count(int64(r.Intn(3))), constant([][]impl.VNode{null(), truth(1), num(7), text("x")}[r.Intn(4)]))
	}
	kid := func() []impl.FNode { return livelyFilter(r, deep-1) }
	switch r.Intn(12) {
	case 0:
		return kind(impl.FlList, kid())
	case 1:
		names := []string{"a", "b", "c", "d", "e"}[:1+r.Intn(5)]
		var kids [][]impl.FNode
		for range names {
			kids = append(kids, kid())
		}
		return table(names, kids...)
	case 2:
		return kind(impl.FlSelect, kid())
	case 3:
		return kind(impl.FlIf, kid(), kid(), kid())
	case 4, 5:
		return kind(impl.FlTry, kid())
	case 6:
		return kind(impl.FlAlt, kid(), kid())
	case 7, 8:
		return kind(impl.FlPipe, kid(), kid())
	case 9, 10:
		return kind(impl.FlComma, kid(), kid())
	}
	ops := []int64{impl.FlAdd, impl.FlSub, impl.FlEq, impl.FlNe, impl.FlLt, impl.FlLe}
	return kind(ops[r.Intn(len(ops))], kid(), kid())
}

func livelyFilters(seed int64, count int) [][]impl.FNode {
	r := rand.New(rand.NewSource(seed))
	var all [][]impl.FNode
	for len(all) < count {
		if f := livelyFilter(r, 1+r.Intn(8)); len(f) <= impl.MaxFilter {
			all = append(all, f)
		}
	}
	return all
}

// inputs are values that filters have something to say of.
func inputs(t *testing.T) [][]impl.VNode {
	t.Helper()
	all := [][]impl.VNode{wideList(5), wideList(13), wideList(41), wideList(42), wideList(80), deepList(8), deepList(4), keyed(t, 30), piecewise(t, 3, 3, 0), piecewise(t, 20, 21, 2), num(impl.MaxInt)}
	for _, s := range append(eachKind, `[[1,2],[3,null],[]]`, `{"a":[1,2,3],"b":{"a":null,"b":[0]},"c":"xy"}`, `{"a":{"a":[{"a":1},{"b":2}]},"b":false}`, `[{"a":1},{"a":2,"b":[1]},{}]`, `[null,false,0,"",[],{}]`, `[true,[1,"x"],"ab"]`) {
		all = append(all, read(t, s))
	}
	return append(all, someValues(91, 20)...)
}

func TestEvalAsOtherwise(t *testing.T) {
	r := rand.New(rand.NewSource(92))
	values := inputs(t)
	codes, many := map[int64]int{}, 0
	for i, f := range append(livelyFilters(93, 30000), someFilters(94, 10000)...) {
		v := values[r.Intn(len(values))]
		fuel := []int64{impl.MaxFuel, int64(r.Intn(len(f) + 5)), int64(r.Intn(150)), int64(r.Intn(impl.MaxFuel))}[i%4]
		got, code := impl.Eval(f, v, fuel)
		want, other := otherEval(f, v, fuel)
		if code != other || !sameAll(got, want) {
			t.Fatalf("%s of %s, %d of fuel: %v %d, not %v %d", impl.FilterText(f), impl.JsonText(v), fuel, got, code, want, other)
		}
		codes[code]++
		if len(got) > 1 {
			many++
		}
	}
	// else they have nothing to tell
	if codes[impl.EvDone] < 5000 || codes[impl.EvKind] < 5000 || codes[impl.EvLimit] < 500 || codes[impl.EvFuel] < 2000 || many < 2000 || len(codes) != 4 {
		t.Error(codes, many)
	}
}

func TestOutcomesAreRightAndTheSameWithMoreFuel(t *testing.T) {
	r := rand.New(rand.NewSource(95))
	values := inputs(t)
	for _, f := range livelyFilters(96, 4000) {
		v := values[r.Intn(len(values))]
		full, code := impl.Eval(f, v, impl.MaxFuel)
		for _, out := range full {
			if !impl.ValueOk(out) {
				t.Fatal("not right", impl.FilterText(f), impl.JsonText(v), out)
			}
		}
		if len(full) > 40 {
			t.Fatal("more than 40", impl.FilterText(f), impl.JsonText(v))
		}
		// there is a least fuel with which all is said, and below it there is none
		ended := false
		for fuel := range int64(120) {
			got, now := impl.Eval(f, v, fuel)
			if now != impl.EvFuel {
				ended = true
			}
			if ended && (now != code || !sameAll(got, full)) || !ended && len(got) > 0 {
				t.Fatal(impl.FilterText(f), impl.JsonText(v), fuel, got, now)
			}
		}
	}
}

// togetherOf answers what a whole of a and b must, by how a and b end.
func togetherOf(outs [][]impl.VNode, next func(v []impl.VNode) ([][]impl.VNode, int64)) ([][]impl.VNode, int64) {
	var all [][]impl.VNode
	for _, x := range outs {
		more, code := next(x)
		if code != impl.EvDone {
			return nil, code
		}
		if all = append(all, more...); len(all) > 40 {
			return nil, impl.EvLimit
		}
	}
	return all, impl.EvDone
}

func TestFiltersBehindAndBesideEachOther(t *testing.T) {
	r := rand.New(rand.NewSource(97))
	values := inputs(t)
	filters := livelyFilters(98, 3000)
	said := 0
	for range 15000 {
		a, b, v := filters[r.Intn(len(filters))], filters[r.Intn(len(filters))], values[r.Intn(len(values))]
		behind, beside := kind(impl.FlPipe, a, b), kind(impl.FlComma, a, b)
		if !impl.FilterOk(behind) {
			continue
		}
		got, code := impl.Eval(behind, v, impl.MaxFuel)
		row, rowCode := impl.Eval(beside, v, impl.MaxFuel)
		if code == impl.EvFuel || rowCode == impl.EvFuel {
			continue
		}
		outs, first := impl.Eval(a, v, impl.MaxFuel)
		want, wantCode := [][]impl.VNode(nil), first
		if first == impl.EvDone {
			want, wantCode = togetherOf(outs, func(x []impl.VNode) ([][]impl.VNode, int64) { return impl.Eval(b, x, impl.MaxFuel) })
		}
		if code != wantCode || !sameAll(got, want) {
			t.Fatal(impl.FilterText(behind), impl.JsonText(v), got, code)
		}
		more, second := impl.Eval(b, v, impl.MaxFuel)
		want, wantCode = slices.Concat(outs, more), first
		if first == impl.EvDone {
			wantCode = second
		}
		if wantCode == impl.EvDone && len(want) > 40 {
			wantCode = impl.EvLimit
		}
		if wantCode != impl.EvDone {
			want = nil
		}
		if rowCode != wantCode || !sameAll(row, want) {
			t.Fatal(impl.FilterText(beside), impl.JsonText(v), row, rowCode)
		}
		if len(got) > 0 && len(row) > 0 {
			said++
		}
	}
	if said < 1000 {
		t.Error(said)
	}
}

func TestWhatIsSelectedIsTheValue(t *testing.T) {
	r := rand.New(rand.NewSource(99))
	values := inputs(t)
	said := 0
	for _, a := range livelyFilters(100, 6000) {
		v := values[r.Intn(len(values))]
		f := kind(impl.FlSelect, a)
		if !impl.FilterOk(f) {
			continue
		}
		got, code := impl.Eval(f, v, impl.MaxFuel)
		outs, want := impl.Eval(a, v, impl.MaxFuel-1)
		count := 0
		for _, x := range outs {
			if otherCounts(x) {
				count++
			}
		}
		if code != want || len(got) != count {
			t.Fatal(impl.FilterText(f), impl.JsonText(v), got, code)
		}
		for _, x := range got {
			if !same(x, v) {
				t.Fatal(impl.FilterText(f), impl.JsonText(v), x)
			}
		}
		said += count
	}
	if said < 1000 {
		t.Error(said)
	}
}

func TestEvalArgumentsStay(t *testing.T) {
	r := rand.New(rand.NewSource(101))
	values := inputs(t)
	all := livelyFilters(102, 3000)
	for _, s := range []string{".", "., .", "select(1, 2, 3)", "{a: ., b: .}", "{a: (1, 2), b: .}", ". + .", ". - .", ".[]", ".[], .[]", ". // .", "[.], [.]", "keys, keys", "{a: 1} + ., . + {a: 1}", "\"x\", \"x\"", ".a, .a, .b"} {
		all = append(all, slices.Repeat([][]impl.FNode{filter(t, s)}, 30)...)
	}
	for _, f := range all {
		v := values[r.Intn(len(values))]
		g, w := roomyFilter(f), roomy(v)
		first, code := impl.Eval(g, w, impl.MaxFuel)
		second, again := impl.Eval(g, w, impl.MaxFuel)
		impl.Eval(g, w, int64(r.Intn(20)))
		if code != again || !sameAll(first, second) {
			t.Fatal("another answer", impl.FilterText(f), impl.JsonText(v))
		}
		if shared(append(first, second...)...) {
			t.Fatal("outcomes share memory", impl.FilterText(f), impl.JsonText(v))
		}
		if !untouched(w, v) || !filterUntouched(g, f) {
			t.Fatal("an argument was written", impl.FilterText(f), impl.JsonText(v))
		}
	}
	for name, f := range wrongFilters() {
		g, w := roomyFilter(f), roomy(wideList(3))
		impl.Eval(g, w, 10)
		if !untouched(w, wideList(3)) || !filterUntouched(g, f) {
			t.Fatal("an argument was written", name)
		}
	}
	for name, v := range wrongValues() {
		w := roomy(v)
		impl.Eval(kind(impl.FlEach), w, 10)
		impl.Plus(w, w)
		impl.Minus(w, w)
		impl.LengthOf(w)
		if !untouched(w, v) {
			t.Fatal("an argument was written", name)
		}
	}
}

package tests

import (
	"math"
	"math/rand"
	"slices"
	"strings"
	"testing"

	"loop.example/g00345/impl"
)

// transcodes asks for that answer, twice.
func transcodes(t *testing.T, from, to int64, filter, input string, fuel int64, want string, code int64) {
	t.Helper()
	for range 2 {
		if s, c := impl.Transcoded(from, to, filter, input, fuel); s != want || c != code {
			t.Errorf("%d to %d by %q of %q with %d: %q %d, wanted %q %d", from, to, filter, input, fuel, s, c, want, code)
		}
	}
}

// refusesAll asks for a code, and nothing beside it.
func refusesAll(t *testing.T, from, to int64, filter, input string, fuel int64, code int64) {
	t.Helper()
	transcodes(t, from, to, filter, input, fuel, "", code)
}

// eachPair calls with each of the pairs of formats.
func eachPair(call func(from, to rowKind)) {
	for _, from := range rowKinds() {
		for _, to := range rowKinds() {
			call(from, to)
		}
	}
}

func TestTranscodedByLiterals(t *testing.T) {
	texts := []string{"{\"b\":[1,null],\"a\":\"x y\"}\n-1\n", "\xa2\x61b\x82\x01\xf6\x61a\x63x y\x20", "\x82\xa1b\x92\x01\xc0\xa1a\xa3x y\xff", "---\nb:\n  - 1\n  - null\na: x y\n---\n-1\n"}
	wants := []string{"{\"a\":\"x y\",\"b\":[1,null]}\n-1\n", "\xa2\x61a\x63x y\x61b\x82\x01\xf6\x20", "\x82\xa1a\xa3x y\xa1b\x92\x01\xc0\xff", "---\na: x y\nb:\n  - 1\n  - null\n---\n-1\n"}
	lengths := []string{"2\n1\n", "\x02\x01", "\x02\x01", "---\n2\n---\n1\n"}
	for i, input := range texts {
		for j := range wants {
			from, to := int64(i+1), int64(j+1)
			transcodes(t, from, to, ".", input, 1, wants[j], impl.TcDone)
			transcodes(t, from, to, "length", input, 1, lengths[j], impl.TcDone)
			transcodes(t, from, to, "empty", input, 1, "", impl.TcDone)
			transcodes(t, from, to, " ( . ) ", input, 1, wants[j], impl.TcDone)
		}
	}
}

func TestEachPairOfFormats(t *testing.T) {
	rows := [][]string{nil, {"[1,2]"}, {"[1,2]", "[]", `[null,{"a":"x"}]`}}
	outs := map[string][]string{
		"empty":                     {"", "", ""},
		"select(length == 9)":       {"", "", ""},
		".":                         {"", "[1,2]", `[1,2] [] [null,{"a":"x"}]`},
		"length":                    {"", "2", "2 0 2"},
		"[.[0]]":                    {"", "[1]", "[1] [null] [null]"},
		".[]":                       {"", "1 2", `1 2 null {"a":"x"}`},
		"length, .[-1], length":     {"", "2 2 2", `2 2 2 0 null 0 2 {"a":"x"} 2`},
		".[0] | select(. != 1)":     {"", "", "null null"},
		"if .[0] then . else 9 end": {"", "[1,2]", "[1,2] 9 9"},
	}
	eachPair(func(from, to rowKind) {
		for filter, said := range outs {
			for i, row := range rows {
				want := readAllOf(t, strings.Fields(said[i])...)
				transcodes(t, from.format, to.format, filter, from.joined(readAllOf(t, row...)), 100, to.joined(want), impl.TcDone)
			}
		}
	})
}

func TestEachCodeAlone(t *testing.T) {
	eachPair(func(from, to rowKind) {
		a, b := from.format, to.format
		input := from.write(num(1)) + from.write(num(2))
		for _, none := range noFormats {
			refusesAll(t, none, b, ".", input, 9, impl.TcFormat)
			refusesAll(t, a, none, ".", input, 9, impl.TcFormat)
			refusesAll(t, none, none, ".", "", 9, impl.TcFormat)
		}
		for _, fuel := range []int64{-1, -2, 2001, 2002, 4000, math.MinInt64, math.MaxInt64} {
			refusesAll(t, a, b, ".", input, fuel, impl.TcFormat)
			refusesAll(t, a, b, "empty", "", fuel, impl.TcFormat)
		}
		for _, f := range []string{"", " ", "a", "..", "1 <", "1 < 2 < 3", ".a.b", "select", "\xff", ".\x00", "." + strings.Repeat(" ", 1000)} {
			refusesAll(t, a, b, f, input, 9, impl.TcFilter)
			refusesAll(t, a, b, f, "", 9, impl.TcFilter)
		}
		transcodes(t, a, b, "."+strings.Repeat(" ", 999), input, 9, to.write(num(1))+to.write(num(2)), impl.TcDone)
		for _, s := range []string{"\x1c\xc1", from.write(text("ab"))[:2], "\xff\xc1\x01", input + "\xff\xc1", strings.Repeat(from.write(num(1)), 41), strings.Repeat("\x01", 4001)} {
			refusesAll(t, a, b, ".", s, 9, impl.TcInput)
			refusesAll(t, a, b, "empty", s, 0, impl.TcInput)
		}
		for _, f := range []string{".a", ".[]", "keys", ". + \"x\"", "., .a"} {
			refusesAll(t, a, b, f, input, 9, impl.TcKind)
		}
		refusesAll(t, a, b, ".", input, 0, impl.TcFuel)
		refusesAll(t, a, b, ". | .", input, 2, impl.TcFuel)
		refusesAll(t, a, b, ". + 1000000000000000", input, 9, impl.TcLimit)
		refusesAll(t, a, b, ".[]", from.write(wideList(42)), 9, impl.TcLimit)
		refusesAll(t, a, b, ".[], .[]", from.write(wideList(12))+from.write(wideList(12)), 9, impl.TcLimit)
	})
}

// Of a format, a filter and an input, each right or wrong, the first that is wrong is told, ahead of what a value ends with.
func TestWhichCodeComesFirst(t *testing.T) {
	json := rowKinds()[0]
	formats := []struct {
		from, to, fuel int64
		code           int64
	}{{1, 1, 2, impl.TcDone}, {0, 1, 2, impl.TcFormat}, {1, 5, 2, impl.TcFormat}, {1, 1, -1, impl.TcFormat}, {1, 1, 2001, impl.TcFormat}, {-1, 1, 2001, impl.TcFormat}, {1, 0, -1, impl.TcFormat}, {9, 9, 9999, impl.TcFormat}}
	filters := []struct {
		text string
		code int64
	}{{".", impl.TcDone}, {".a", impl.TcKind}, {"1 | 2", impl.TcFuel}, {"1 + 2", impl.TcFuel}, {"{a: .}", impl.TcDone}, {"[.]", impl.TcDone}, {"a", impl.TcFilter}, {"", impl.TcFilter}, {strings.Repeat("(", 1001), impl.TcFilter}}
	inputs := []struct {
		text string
		code int64
	}{{"1\n", impl.TcDone}, {"?", impl.TcInput}, {"1\n2", impl.TcInput}, {strings.Repeat("1\n", 41), impl.TcInput}, {strings.Repeat(" ", 4001), impl.TcInput}}
	for _, m := range formats {
		for _, f := range filters {
			for _, in := range inputs {
				want := m.code
				if want == impl.TcDone && f.code == impl.TcFilter {
					want = f.code
				}
				if want == impl.TcDone {
					want = in.code
				}
				if want == impl.TcDone {
					want = f.code
				}
				s, code := impl.Transcoded(m.from, m.to, f.text, in.text, m.fuel)
				if code != want || (code != impl.TcDone) != (s == "") {
					t.Errorf("%v %q %q: %q %d, wanted %d", m, f.text, in.text, s, code, want)
				}
			}
		}
	}
	// with an input that is none, nothing is evaluated
	refusesAll(t, 1, 1, ".a", json.write(num(1))+"?", 1, impl.TcInput)
	refusesAll(t, 1, 1, ".", json.write(num(1))+"?\n", 0, impl.TcInput)
	// without values there is nothing that could end with a code
	for _, f := range []string{".a", ". | .", "1 + \"x\"", "1000000000000000 + 1"} {
		transcodes(t, 1, 4, f, "", 0, "", impl.TcDone)
	}
}

// Values 0, 1, 2, 3 end with no code, TcKind, TcLimit, TcFuel, with 16 of fuel.
const endsByValue = "if . == 1 then .a else if . == 2 then . + 1000000000000000 else if . == 3 then . | . | . | . | . else . end end end"

func TestTheFirstValueWithACode(t *testing.T) {
	codes := []int64{impl.TcDone, impl.TcKind, impl.TcLimit, impl.TcFuel}
	for _, k := range rowKinds() {
		for length := 1; length <= 4; length++ {
			for n := range 1 << (2 * length) {
				input, want, code := "", "", int64(impl.TcDone)
				for i := range length {
					digit := n >> (2 * i) & 3
					input += k.write(num(int64(digit)))
					want += k.write(num(int64(digit)))
					if code == impl.TcDone {
						code = codes[digit]
					}
				}
				if code != impl.TcDone {
					want = ""
				}
				transcodes(t, k.format, k.format, endsByValue, input, 16, want, code)
			}
		}
	}
}

// A list of no parts ends with TcKind, one of one with TcFuel, with 12 of fuel; of others all parts are said.
const endsByLength = "if length == 0 then .a else if length == 1 then . | . | . | . | . else .[] end end"

func TestOutcomesTogether(t *testing.T) {
	for _, r := range []struct {
		lengths []int
		code    int64
	}{
		{[]int{40}, impl.TcDone},
		{[]int{41}, impl.TcLimit},
		{[]int{20, 20}, impl.TcDone},
		{[]int{20, 21}, impl.TcLimit},
		{[]int{21, 20}, impl.TcLimit},
		{[]int{38, 2}, impl.TcDone},
		{[]int{39, 2}, impl.TcLimit},
		{[]int{40, 2}, impl.TcLimit},
		{[]int{2, 40}, impl.TcLimit},
		{slices.Repeat([]int{2}, 20), impl.TcDone},
		{slices.Repeat([]int{2}, 21), impl.TcLimit},
		{append(slices.Repeat([]int{2}, 18), 4), impl.TcDone},
		{append(slices.Repeat([]int{2}, 18), 5), impl.TcLimit},
		{slices.Repeat([]int{40}, 5), impl.TcLimit},
		// what a later value ends with comes ahead of how many there are together
		{[]int{20, 21, 0}, impl.TcKind},
		{[]int{20, 21, 1}, impl.TcFuel},
		{[]int{20, 21, 41}, impl.TcLimit},
		{[]int{20, 21, 41, 0}, impl.TcLimit},
		{[]int{20, 21, 0, 1, 41}, impl.TcKind},
		{[]int{20, 21, 1, 0, 41}, impl.TcFuel},
		{[]int{40, 40, 40, 0}, impl.TcKind},
		{[]int{40, 2, 2, 1}, impl.TcFuel},
		{[]int{20, 0, 21}, impl.TcKind},
		{[]int{1, 20, 21}, impl.TcFuel},
		{[]int{41, 0}, impl.TcLimit},
		{[]int{41, 1}, impl.TcLimit},
		{[]int{40, 0}, impl.TcKind},
	} {
		eachPair(func(from, to rowKind) {
			input, want := "", ""
			for _, n := range r.lengths {
				input += from.write(wideList(n + 1))
				want += to.joined(impl.PartsOf(wideList(n + 1)))
			}
			if r.code != impl.TcDone {
				want = ""
			}
			transcodes(t, from.format, to.format, endsByLength, input, 12, want, r.code)
		})
	}
}

func TestFuelOfEachValue(t *testing.T) {
	eachPair(func(from, to rowKind) {
		a, b := from.format, to.format
		// . + 1 uses three for each part, and there are two nodes ahead
		const f = ".[] | . + 1"
		for _, lengths := range [][]int{{0}, {1}, {3}, {1, 3, 0}, {3, 3, 3}, {0, 0, 5}, {5, 0, 0}, slices.Repeat([]int{1}, 40), slices.Repeat([]int{4}, 10)} {
			input, want := "", ""
			least := int64(0)
			for _, n := range lengths {
				least = max(least, 2+3*int64(n))
				input += from.write(wideList(n + 1))
				for i := range n {
					want += to.write(num(int64(i + 1)))
				}
			}
			for fuel := range least {
				refusesAll(t, a, b, f, input, fuel, impl.TcFuel)
			}
			for _, fuel := range []int64{least, least + 1, 1999, 2000} {
				transcodes(t, a, b, f, input, fuel, want, impl.TcDone)
			}
			refusesAll(t, a, b, f, input, 2001, impl.TcFormat)
			refusesAll(t, a, b, f, input, -1, impl.TcFormat)
		}
		for _, fuel := range []int64{0, 1, 1999, 2000} {
			transcodes(t, a, b, f, "", fuel, "", impl.TcDone)
		}
		transcodes(t, a, b, ".", from.write(num(1)), 1, to.write(num(1)), impl.TcDone)
		refusesAll(t, a, b, ".", from.write(num(1)), 0, impl.TcFuel)
	})
	// 40 times 115 and some, for one value
	const dear = ".[] | (1, 2, 3, 4, 5, 6) + (1, 2, 3, 4, 5, 6) | empty"
	refusesAll(t, 1, 1, dear, impl.JsonText(wideList(41))+"\n", 2000, impl.TcFuel)
	transcodes(t, 1, 1, dear, strings.Repeat(impl.JsonText(wideList(15))+"\n", 40), 2000, "", impl.TcDone)
}

func TestOutcomesOfMoreThanMaxIn(t *testing.T) {
	eachPair(func(from, to rowKind) {
		l := from.rowOfBytes(t, 4000)
		want := to.joined(slices.Concat(slices.Repeat(l[:1], 3), slices.Repeat(l[1:2], 3), slices.Repeat(l[2:3], 3)))
		got, code := impl.Transcoded(from.format, to.format, "., ., .", from.joined(l[:3]), 5)
		if code != impl.TcDone || got != want || len(got) <= 4000 {
			t.Error(from.name, to.name, code, len(got))
		}
		to.refuses(t, got)
		transcodes(t, from.format, to.format, ".", from.joined(l), 1, to.joined(l), impl.TcDone)
		refusesAll(t, from.format, to.format, ".", from.joined(from.rowOfBytes(t, 4001)), 1, impl.TcInput)
	})
}

// eachFilter are filters whose wholes are of each of the twenty-three kinds.
var eachFilter = []string{
	".", ".a", ".[0]", ".[-1]", ".[]", "null", "-7", `"a b\n"`, ". | .", ".[]? | .", "., .", "[]", "[.]", "[.[]?]", "{}", "{a: ., b: (1, .)}", "select(.)", "select(. != null)",
	"length", "keys", "not", "empty", ". + .", ". + null", ". - .", ". - [1]", ". == .", `. == "a"`, ". != .", `. != [1]`, ". < .", `. < "a b"`, ". <= .", `"a" <= .`, ". // 1", ".a // .", "if . then 1 else . end", "if . == [] then . else [.] end", ".a?", "(keys | .[])?", "(. + .)?",
}

func TestEachKindOfFilterIsThere(t *testing.T) {
	kinds := map[int64]bool{}
	for _, s := range eachFilter {
		f := filter(t, s)
		kinds[f[len(f)-1].Kind] = true
	}
	for k := int64(1); k <= 23; k++ {
		if !kinds[k] {
			t.Error("no filter of the kind", k)
		}
	}
}

// byTheWay asks that s, of the format a, says under the filter what it says when it has gone by way of each other format.
func byTheWay(t *testing.T, a rowKind, s string, filters []string, fuel int64) (int, int) {
	t.Helper()
	done, ended := 0, 0
	for _, b := range rowKinds() {
		way, code := impl.Transcoded(a.format, b.format, ".", s, 1)
		if code != impl.TcDone {
			t.Fatalf("%s to %s: %q: %d", a.name, b.name, s, code)
		}
		if len(way) > 4000 {
			continue
		}
		back, code := impl.Transcoded(b.format, a.format, ".", way, 1)
		l, _ := impl.ReadAll(a.format, s)
		if code != impl.TcDone || back != a.joined(l) {
			t.Fatalf("%s to %s and back: %q: %q", a.name, b.name, s, back)
		}
		for i, f := range filters {
			to := rowKinds()[i%4]
			want, first := impl.Transcoded(a.format, to.format, f, s, fuel)
			got, second := impl.Transcoded(b.format, to.format, f, way, fuel)
			if got != want || first != second {
				t.Fatalf("%q: %s %q: %q %d, %s %q: %q %d", f, a.name, s, want, first, b.name, way, got, second)
			}
			if first == impl.TcDone && got != "" {
				done++
			} else if first != impl.TcDone {
				ended++
			}
		}
	}
	return done, ended
}

func TestNoFormatChangesWhatAFilterSays(t *testing.T) {
	r := rand.New(rand.NewSource(120))
	done, ended := 0, 0
	for i, l := range someRows(121, 400) {
		l = l[:min(len(l), 3)]
		a := rowKinds()[i%4]
		s := ""
		for _, v := range l {
			s += a.loose(r, v)
		}
		if len(s) > 4000 {
			continue
		}
		yes, no := byTheWay(t, a, s, eachFilter, impl.MaxFuel)
		done, ended = done+yes, ended+no
	}
	if done < 10000 || ended < 5000 {
		t.Error(done, ended)
	}
}

func TestNoFormatChangesWhatLivelyFiltersSay(t *testing.T) {
	r := rand.New(rand.NewSource(122))
	values := inputs(t)
	var filters []string
	for _, f := range livelyFilters(123, 2000) {
		filters = append(filters, impl.FilterText(f))
	}
	done, ended := 0, 0
	for i := range 400 {
		a := rowKinds()[i%4]
		s := ""
		for range r.Intn(4) {
			s += a.loose(r, values[r.Intn(len(values))])
		}
		if len(s) > 4000 {
			continue
		}
		at := r.Intn(len(filters) - 20)
		yes, no := byTheWay(t, a, s, filters[at:at+20], []int64{impl.MaxFuel, int64(r.Intn(40))}[r.Intn(2)])
		done, ended = done+yes, ended+no
	}
	if done < 3000 || ended < 3000 {
		t.Error(done, ended)
	}
}

// otherTranscoded asks for the codes one by one, with the other readers and the other evaluator.
func otherTranscoded(from, to int64, filter, input string, fuel int64) (string, int64) {
	if from < 1 || from > 4 || to < 1 || to > 4 || fuel < 0 || fuel > 2000 {
		return "", 1
	}
	f, ok := otherFilter(filter)
	if !ok || !impl.FilterOk(f) {
		return "", 3
	}
	l, ok := rowKinds()[from-1].otherAll(input)
	if !ok {
		return "", 2
	}
	var all [][]impl.VNode
	for _, v := range l {
		outs, code := otherEval(f, v, fuel)
		if code != 0 {
			return "", []int64{0, 1, 4, 5, 6}[code]
		}
		all = append(all, outs...)
	}
	if len(all) > 40 {
		return "", 5
	}
	return rowKinds()[to-1].joined(all), 0
}

func TestTranscodedAsOtherwise(t *testing.T) {
	r := rand.New(rand.NewSource(124))
	values := inputs(t)
	codes := map[int64]int{}
	filters := append(livelyFilters(125, 4000), someFilters(126, 1000)...)
	for range 8000 {
		from, to := int64(1+r.Intn(4)), int64(1+r.Intn(4))
		k := rowKinds()[from-1]
		input := ""
		for range r.Intn(5) {
			input += k.loose(r, values[r.Intn(len(values))])
		}
		f := impl.FilterText(filters[r.Intn(len(filters))])
		fuel := []int64{impl.MaxFuel, int64(r.Intn(60)), int64(r.Intn(impl.MaxFuel))}[r.Intn(3)]
		switch r.Intn(12) {
		case 0:
			from = int64(r.Intn(6))
		case 1:
			to = int64(r.Intn(6))
		case 2:
			fuel = []int64{-1, 0, 2000, 2001}[r.Intn(4)]
		case 3:
			f = changedFilter(r, f)
		case 4:
			input = k.spoil(r, input)
		}
		got, code := impl.Transcoded(from, to, f, input, fuel)
		want, other := otherTranscoded(from, to, f, input, fuel)
		if got != want || code != other {
			t.Fatalf("%d to %d by %q of %q with %d: %q %d, otherwise %q %d", from, to, f, input, fuel, got, code, want, other)
		}
		if again, now := impl.Transcoded(from, to, f, input, fuel); again != got || now != code {
			t.Fatalf("another answer: %d to %d by %q of %q with %d", from, to, f, input, fuel)
		}
		codes[code]++
	}
	for code := range int64(7) {
		if codes[code] < 100 {
			t.Error(codes)
		}
	}
}

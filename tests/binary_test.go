package tests

import (
	"encoding/binary"
	"math/rand"
	"slices"
	"strings"
	"testing"

	"loop.example/g00345/impl"
)

// binaryFormat is one of the formats whose reader tells how many bytes it took.
// loose writes a value by heads that r chooses among those that the reader
// takes, its keys in an order that r chooses; other reads in another way.
type binaryFormat struct {
	name  string
	write func([]impl.VNode) string
	read  func(string) ([]impl.VNode, int64, bool)
	loose func(r *rand.Rand, v []impl.VNode) string
	other func(b []byte) ([]impl.VNode, []byte, bool)
}

func binaryFormats() []binaryFormat {
	return []binaryFormat{
		{"cbor", impl.CborText, impl.ReadCbor, looseCbor, otherCbor},
		{"pack", impl.PackText, impl.ReadPack, loosePack, otherPack},
	}
}

// wide answers n in that many bytes, the highest first.
func wide(n int64, width int) string {
	b := make([]byte, 8)
	binary.BigEndian.PutUint64(b, uint64(n))
	return string(b[8-width:])
}

// behind are bytes that may stand behind a value, and say nothing there.
var behind = []string{"", "x", "\x00", "\xff", "\xf6\xf6", "\xc0\xc0", "\x9b\xff\xff\xff\xff\xff\xff\xff\xff", "\xdd\xff\xff\xff\xff"}

func (f binaryFormat) refuses(t *testing.T, s string) {
	t.Helper()
	if v, used, ok := f.read(s); ok || used != 0 || len(v) != 0 {
		t.Errorf("%s: %q is read: %v %d %v", f.name, s, v, used, ok)
	}
}

func (f binaryFormat) reads(t *testing.T, s string, used int, want []impl.VNode) {
	t.Helper()
	v, n, ok := f.read(s)
	if !ok || n != int64(used) || !same(v, want) {
		t.Errorf("%s: %q: %v %d %v, wanted %v %d", f.name, s, v, n, ok, want, used)
	}
}

// leadsBack asks that v is written as want, comes back whatever stands behind,
// and is not read when its bytes are cut.
func (f binaryFormat) leadsBack(t *testing.T, v []impl.VNode, want string) {
	t.Helper()
	if s := f.write(v); s != want {
		t.Errorf("%s: %v is written %q, wanted %q", f.name, v, s, want)
	}
	for _, rest := range behind {
		f.reads(t, want+rest, len(want), v)
	}
	for i := range len(want) {
		f.refuses(t, want[:i])
	}
}

// keyed is a map of n keys of two digits, each with its place as its value.
func keyed(t *testing.T, n int) []impl.VNode {
	t.Helper()
	var keys []string
	var l [][]impl.VNode
	for i := range n {
		keys = append(keys, string([]byte{byte('0' + i/10), byte('0' + i%10)}))
		l = append(l, num(int64(i)))
	}
	return mapped(t, keys, l...)
}

func TestWrittenOfNoRightValues(t *testing.T) {
	for _, v := range [][]impl.VNode{
		nil,
		{},
		{{}},
		{{Kind: 7}},
		{{Kind: impl.VlBool, N: 2}},
		{{Kind: impl.VlInt, N: impl.MaxInt + 1}},
		{{Kind: impl.VlInt, N: -impl.MaxInt - 1}},
		{{Kind: impl.VlText, S: "\x80"}},
		{{Kind: impl.VlText, S: strings.Repeat("a", 61)}},
		{{Kind: impl.VlList, Kids: []int64{0}}},
		{{Kind: impl.VlNull}, {Kind: impl.VlNull}},
		{{Kind: impl.VlNull}, {Kind: impl.VlMap, Kids: []int64{0}}},
		wideList(81),
		deepList(9),
	} {
		for _, f := range binaryFormats() {
			if s := f.write(v); s != "" {
				t.Errorf("%s: %v: %q", f.name, v, s)
			}
		}
	}
}

func TestBinaryValuesComeBack(t *testing.T) {
	for _, f := range binaryFormats() {
		for i, v := range append(someValues(21, 1500), wideList(80), deepList(8), keyed(t, 79)) {
			s := f.write(v)
			if len(s) == 0 || len(s) > impl.MaxIn-10 {
				t.Fatal(f.name, v, len(s))
			}
			rest := behind[i%len(behind)]
			f.reads(t, s+rest, len(s), v)
			for cut := range len(s) {
				f.refuses(t, s[:cut])
			}
		}
	}
}

func TestBinaryWrittenLooselyComesBack(t *testing.T) {
	r := rand.New(rand.NewSource(22))
	for _, f := range binaryFormats() {
		longer := 0
		for _, v := range someValues(23, 1500) {
			s := f.loose(r, v)
			f.reads(t, s+"\x01", len(s), v)
			for cut := range len(s) {
				f.refuses(t, s[:cut])
			}
			if short := f.write(v); len(s) < len(short) {
				t.Fatalf("%s: %v has fewer bytes than %q", f.name, v, short)
			} else if len(s) > len(short) {
				longer++
			}
		}
		if longer < 500 {
			t.Error(f.name, longer)
		}
	}
}

// changed answers s with some bytes changed, lost, new or doubled.
func changed(r *rand.Rand, s string) string {
	b := []byte(s)
	for range 1 + r.Intn(3) {
		at := r.Intn(len(b) + 1)
		c := byte(r.Intn(256))
		switch r.Intn(5) {
		case 0:
			b = slices.Insert(b, at, c)
		case 1:
			b = slices.Delete(b, min(at, len(b)), min(at+1, len(b)))
		case 2:
			b = append(b, b[at:]...)
		default:
			if at < len(b) {
				b[at] = c
			}
		}
	}
	return string(b)
}

func TestBinaryReadAsTheOtherReaderReads(t *testing.T) {
	r := rand.New(rand.NewSource(24))
	for _, f := range binaryFormats() {
		read, refused := 0, 0
		for _, v := range someValues(25, 1500) {
			for range 20 {
				s := changed(r, f.loose(r, v))
				want, rest, fine := f.other([]byte(s))
				got, used, ok := f.read(s)
				if ok != fine || ok && (!same(got, want) || used != int64(len(s)-len(rest))) {
					t.Fatalf("%s: %q: %v %d %v, the other one: %v %v", f.name, s, got, used, ok, want, fine)
				}
				if !ok {
					refused++
					continue
				}
				read++
				again := f.write(got)
				f.reads(t, again, len(again), got)
			}
		}
		if read < 1000 || refused < 1000 {
			t.Error(f.name, read, refused)
		}
	}
}

func TestBinaryInputsOfMaxIn(t *testing.T) {
	for _, f := range binaryFormats() {
		for _, v := range [][]impl.VNode{null(), num(-300), text("ab"), keyed(t, 20)} {
			s := f.write(v)
			full := s + strings.Repeat("\x00", 4000-len(s))
			f.reads(t, full, len(s), v)
			f.refuses(t, full+"\x00")
		}
	}
}

// writtenIn is a list whose bytes are n, some 4000.
func (f binaryFormat) writtenIn(t *testing.T, n int) []impl.VNode {
	t.Helper()
	var l [][]impl.VNode
	for range 64 {
		l = append(l, text(strings.Repeat("a", 60)))
	}
	for last := range 61 {
		v := list(t, append(l, text(strings.Repeat("b", last)))...)
		if len(f.write(v)) == n {
			return v
		}
	}
	t.Fatal(f.name, n)
	return nil
}

func TestBinaryWrittenInMaxIn(t *testing.T) {
	for _, f := range binaryFormats() {
		for _, n := range []int{3999, 4000} {
			v := f.writtenIn(t, n)
			f.reads(t, f.write(v), n, v)
		}
		for _, n := range []int{4001, 4002} {
			f.refuses(t, f.write(f.writtenIn(t, n)))
		}
	}
}

func TestBinaryArgumentsStay(t *testing.T) {
	for _, f := range binaryFormats() {
		for _, v := range append(someValues(26, 200), keyed(t, 30)) {
			a := roomy(v)
			s := f.write(a)
			if !untouched(a, v) || f.write(a) != s {
				t.Fatal(f.name, "an argument was written", v)
			}
			w, _, _ := f.read(s)
			again, _, _ := f.read(s)
			if !same(w, v) || !same(again, v) {
				t.Fatal(f.name, "another answer", v)
			}
			if shared(w, again) {
				t.Fatal(f.name, "lists of answers share memory", v)
			}
		}
	}
}

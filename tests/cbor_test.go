package tests

import (
	"cmp"
	"math/rand"
	"slices"
	"strconv"
	"strings"
	"testing"

	"loop.example/g00345/impl"
)

func cbor() binaryFormat { return binaryFormats()[0] }

// cborLeadsBack asks beyond leadsBack that want and nothing else is shortest.
func cborLeadsBack(t *testing.T, v []impl.VNode, want string) {
	t.Helper()
	cbor().leadsBack(t, v, want)
	if !impl.Shortest(want) {
		t.Errorf("not shortest: %q", want)
	}
	for _, rest := range behind[1:] {
		if impl.Shortest(want + rest) {
			t.Errorf("shortest, with more behind: %q", want+rest)
		}
	}
	for i := range len(want) {
		if impl.Shortest(want[:i]) {
			t.Errorf("shortest, but cut: %q", want[:i])
		}
	}
}

func TestCborNumbers(t *testing.T) {
	for n, want := range map[int64]string{
		0:                "\x00",
		1:                "\x01",
		22:               "\x16",
		23:               "\x17",
		24:               "\x18\x18",
		25:               "\x18\x19",
		127:              "\x18\x7f",
		128:              "\x18\x80",
		255:              "\x18\xff",
		256:              "\x19\x01\x00",
		32767:            "\x19\x7f\xff",
		32768:            "\x19\x80\x00",
		65535:            "\x19\xff\xff",
		65536:            "\x1a\x00\x01\x00\x00",
		2147483647:       "\x1a\x7f\xff\xff\xff",
		2147483648:       "\x1a\x80\x00\x00\x00",
		4294967295:       "\x1a\xff\xff\xff\xff",
		4294967296:       "\x1b\x00\x00\x00\x01\x00\x00\x00\x00",
		impl.MaxInt - 1:  "\x1b\x00\x03\x8d\x7e\xa4\xc6\x7f\xff",
		impl.MaxInt:      "\x1b\x00\x03\x8d\x7e\xa4\xc6\x80\x00",
		-1:               "\x20",
		-2:               "\x21",
		-24:              "\x37",
		-25:              "\x38\x18",
		-32:              "\x38\x1f",
		-33:              "\x38\x20",
		-128:             "\x38\x7f",
		-129:             "\x38\x80",
		-256:             "\x38\xff",
		-257:             "\x39\x01\x00",
		-32768:           "\x39\x7f\xff",
		-32769:           "\x39\x80\x00",
		-65536:           "\x39\xff\xff",
		-65537:           "\x3a\x00\x01\x00\x00",
		-2147483648:      "\x3a\x7f\xff\xff\xff",
		-2147483649:      "\x3a\x80\x00\x00\x00",
		-4294967296:      "\x3a\xff\xff\xff\xff",
		-4294967297:      "\x3b\x00\x00\x00\x01\x00\x00\x00\x00",
		-impl.MaxInt + 1: "\x3b\x00\x03\x8d\x7e\xa4\xc6\x7f\xfe",
		-impl.MaxInt:     "\x3b\x00\x03\x8d\x7e\xa4\xc6\x7f\xff",
	} {
		cborLeadsBack(t, num(n), want)
	}
}

func TestCborTexts(t *testing.T) {
	cborLeadsBack(t, null(), "\xf6")
	cborLeadsBack(t, truth(0), "\xf4")
	cborLeadsBack(t, truth(1), "\xf5")
	for n, head := range map[int]string{0: "\x60", 1: "\x61", 22: "\x76", 23: "\x77", 24: "\x78\x18", 31: "\x78\x1f", 32: "\x78\x20", 59: "\x78\x3b", 60: "\x78\x3c"} {
		s := strings.Repeat("\x7f", n)
		cborLeadsBack(t, text(s), head+s)
		cborLeadsBack(t, mapped(t, []string{s}, null()), "\xa1"+head+s+"\xf6")
	}
	cborLeadsBack(t, text("\x00\n\"\\"), "\x64\x00\n\"\\")
	for n, size := range map[int]string{0: "\x00", 1: "\x01", 15: "\x0f", 16: "\x10", 23: "\x17", 24: "\x18\x18", 25: "\x18\x19"} {
		l := make([][]impl.VNode, n)
		pairs := ""
		for i := range l {
			l[i] = null()
			pairs += "\x62" + string([]byte{byte('0' + i/10), byte('0' + i%10)}) + cborNumber(int64(i))
		}
		cborLeadsBack(t, list(t, l...), kindOf(4, size)+strings.Repeat("\xf6", n))
		cborLeadsBack(t, keyed(t, n), kindOf(5, size)+pairs)
	}
	cborLeadsBack(t, wideList(80), "\x98\x4f"+cborNumbers(79))
	cborLeadsBack(t, list(t, num(1), list(t), mapped(t, nil), list(t, text("a"))), "\x84\x01\x80\xa0\x81\x61a")
	cborLeadsBack(t, deepList(8), "\x81\x81\x81\x81\x81\x81\x81\x80")
}

// kindOf turns the head of a number into one of another major kind.
func kindOf(kind int, head string) string {
	return string([]byte{byte(32*kind) + head[0]}) + head[1:]
}

func cborNumber(n int64) string {
	if n < 24 {
		return wide(n, 1)
	}
	return "\x18" + wide(n, 1)
}

func cborNumbers(count int) string {
	s := ""
	for i := range count {
		s += cborNumber(int64(i))
	}
	return s
}

func TestCborKeysByLength(t *testing.T) {
	cborLeadsBack(t, mapped(t, []string{"aa", "b"}, num(2), num(1)), "\xa2\x61b\x01\x62aa\x02")
	cborLeadsBack(t, mapped(t, []string{"", "a", "aa", "ab", "b", "ba", "c"}, num(0), num(1), num(2), num(3), num(4), num(5), num(6)),
		"\xa7\x60\x00\x61a\x01\x61b\x04\x61c\x06\x62aa\x02\x62ab\x03\x62ba\x05")
	cborLeadsBack(t, mapped(t, []string{"B", "a", "\x7f", "\x00", "_"}, num(1), num(2), num(3), num(4), num(5)),
		"\xa5\x61\x00\x04\x61B\x01\x61_\x05\x61a\x02\x61\x7f\x03")
	long, longer := strings.Repeat("z", 23), strings.Repeat("a", 24)
	cborLeadsBack(t, mapped(t, []string{long, longer}, num(1), num(2)), "\xa2\x77"+long+"\x01\x78\x18"+longer+"\x02")
	cborLeadsBack(t, list(t, mapped(t, []string{"x"}, mapped(t, []string{"cc", "d"}, null(), null()))), "\x81\xa1\x61x\xa2\x61d\xf6\x62cc\xf6")
}

func TestCborManyKeysByLength(t *testing.T) {
	var keys []string
	var l [][]impl.VNode
	for i := range 79 {
		keys = append(keys, strconv.Itoa(i*i%1009))
		l = append(l, null())
	}
	v := mapped(t, keys, l...)
	slices.SortFunc(keys, func(a, b string) int {
		return cmp.Or(cmp.Compare(len(a), len(b)), cmp.Compare(a, b))
	})
	want := "\xb8\x4f"
	for _, key := range keys {
		want += wide(int64(96+len(key)), 1) + key + "\xf6"
	}
	cborLeadsBack(t, v, want)
}

func TestCborKeysInAnyOrder(t *testing.T) {
	pairs := []string{"\x60\x00", "\x61b\x01", "\x62aa\x02", "\x62ab\x03"}
	want := mapped(t, []string{"", "aa", "ab", "b"}, num(0), num(2), num(3), num(1))
	for i := range 256 {
		order := []int{i & 3, i >> 2 & 3, i >> 4 & 3, i >> 6}
		s := "\xa4"
		for _, at := range order {
			s += pairs[at]
		}
		if rising := slices.Sorted(slices.Values(order)); !slices.Equal(rising, []int{0, 1, 2, 3}) {
			cbor().refuses(t, s)
			continue
		}
		cbor().reads(t, s, len(s), want)
		if impl.Shortest(s) != slices.IsSorted(order) {
			t.Errorf("%q", s)
		}
	}
}

func TestCborLongerHeads(t *testing.T) {
	read := func(s string, want []impl.VNode) {
		t.Helper()
		cbor().reads(t, s+"\xff", len(s), want)
		if impl.Shortest(s) {
			t.Errorf("shortest: %q", s)
		}
		for i := range len(s) {
			cbor().refuses(t, s[:i])
		}
	}
	for step, width := range []int{1, 2, 4, 8} {
		for _, n := range []int64{0, 1, 23, 24, 255, 256, 65535, 65536, 4294967295} {
			if n >= 24 && n>>(4*width) > 0 || width == 1 && n > 23 {
				continue // these are the fewest bytes, or too few
			}
			read(string([]byte{byte(24 + step)})+wide(n, width), num(n))
			read(string([]byte{byte(32 + 24 + step)})+wide(n, width), num(-1-n))
		}
		for _, n := range []int64{0, 1, 5, 23} {
			s := strings.Repeat("k", int(n))
			head := wide(n, width)
			read(string([]byte{byte(96 + 24 + step)})+head+s, text(s))
			read("\xa1"+string([]byte{byte(96 + 24 + step)})+head+s+"\xf5", mapped(t, []string{s}, truth(1)))
			read(string([]byte{byte(128 + 24 + step)})+head+cborNumbers(int(n)), wideList(int(n)+1))
			pairs := ""
			for i := range n {
				pairs += "\x62" + string([]byte{byte('0' + i/10), byte('0' + i%10)}) + cborNumber(i)
			}
			read(string([]byte{byte(160 + 24 + step)})+head+pairs, keyed(t, int(n)))
		}
	}
	// a longer head anywhere inside
	read("\x82\x01\x18\x02", list(t, num(1), num(2)))
	read("\xa2\x61b\x01\x78\x02aa\x02", mapped(t, []string{"aa", "b"}, num(2), num(1)))
}

func TestReadNoCbor(t *testing.T) {
	sixtyOne := strings.Repeat("a", 61)
	for _, s := range []string{
		"",
		// numbers out of bounds
		"\x1b\x00\x03\x8d\x7e\xa4\xc6\x80\x01", "\x3b\x00\x03\x8d\x7e\xa4\xc6\x80\x00", "\x1b\x7f\xff\xff\xff\xff\xff\xff\xff", "\x1b\x80\x00\x00\x00\x00\x00\x00\x00",
		"\x1b\xff\xff\xff\xff\xff\xff\xff\xff", "\x1b\xff\xff\xff\xff\xff\xff\xff\xfb", "\x3b\x7f\xff\xff\xff\xff\xff\xff\xff", "\x3b\x80\x00\x00\x00\x00\x00\x00\x00", "\x3b\xff\xff\xff\xff\xff\xff\xff\xff", "\x3b\xff\xff\xff\xff\xff\xff\xff\xf0",
		// lengths greater than what is there
		"\x61", "\x62a", "\x78\x02a", "\x79\x00\x02a", "\x7a\x00\x00\x00\x02a", "\x7b\x00\x00\x00\x00\x00\x00\x00\x02a", "\x7b\xff\xff\xff\xff\xff\xff\xff\xffa", "\x7b\x80\x00\x00\x00\x00\x00\x00\x01a", "\x7b\x7f\xff\xff\xff\xff\xff\xff\xffa",
		"\x81", "\x82\x01", "\x98\x02\x01", "\x9b\x00\x00\x00\x00\x00\x00\x00\x02\x01", "\x9b\xff\xff\xff\xff\xff\xff\xff\xff\x01", "\x9b\x80\x00\x00\x00\x00\x00\x00\x00", "\x9b\x00\x03\x8d\x7e\xa4\xc6\x80\x00\x01",
		"\xa1", "\xa1\x61a", "\xa2\x61a\x01", "\xa2\x61a\x01\x61b", "\xb8\x02\x61a\x01", "\xbb\xff\xff\xff\xff\xff\xff\xff\xff\x61a\x01", "\xbb\x80\x00\x00\x00\x00\x00\x00\x00", "\xbb\x00\x03\x8d\x7e\xa4\xc6\x80\x00\x61a\x01",
		// two keys that are the same
		"\xa2\x61a\x01\x61a\x01", "\xa2\x61a\x01\x61a\x02", "\xa3\x61a\x01\x61b\x02\x61a\x01", "\xa2\x60\x01\x60\x02", "\xa2\x61a\x01\x78\x01a\x02", "\x81\xa1\x61x\xa2\x61a\x01\x61a\x01",
		// keys that are no texts
		"\xa1\x01\x02", "\xa1\xf6\x01", "\xa1\xf5\x01", "\xa1\x80\x01", "\xa1\xa0\x01", "\xa1\x41a\x01", "\xa1\x20\x01", "\xa2\x61a\x01\x02\x03",
		// texts too long, or with bytes past 127
		"\x78\x3d" + sixtyOne, "\xa1\x78\x3d" + sixtyOne + "\x01", "\x61\x80", "\x61\xff", "\x62\xc3\xa9", "\xa1\x61\x80\x01", "\x63a\x80b",
		// kinds that the chapter does not name
		"\x40", "\x41a", "\x58\x01a", "\x5f\xff", "\x5f\x41a\xff", "\x7f\xff", "\x7f\x61a\xff", "\x9f\xff", "\x9f\x01\xff", "\xbf\xff", "\xbf\x61a\x01\xff",
		"\xc0\x00", "\xc1\x00", "\xc2\x41a", "\xd8\x18\x00", "\xd9\xd9\xf7\x00", "\xda\x00\x00\x00\x01\x00", "\xdb\x00\x00\x00\x00\x00\x00\x00\x01\x00",
		"\xe0", "\xf3", "\xf7", "\xf8\x14", "\xf8\x15", "\xf8\x16", "\xf8\x20", "\xf8\xff", "\xf9\x00\x00", "\xfa\x00\x00\x00\x00", "\xfb\x00\x00\x00\x00\x00\x00\x00\x00", "\xfc", "\xfd", "\xfe", "\xff",
		"\x1c", "\x1d", "\x1e", "\x1f", "\x3c", "\x3f", "\x7c\x00", "\x9c\x00", "\xbc\x00", "\x1c\x00\x00\x00\x00\x00\x00\x00\x00\x00\x00\x00\x00\x00\x00\x00\x00",
		// nodes too deep or too many
		"\x81\x81\x81\x81\x81\x81\x81\x81\x80", "\x81\x81\x81\x81\x81\x81\x81\x81\x01", "\x98\x50" + cborNumbers(80), "\x82" + "\x98\x4e" + cborNumbers(78) + "\x01",
		strings.Repeat("\x81", 4000), strings.Repeat("\x81", 3999) + "\x80", strings.Repeat("\xa1\x60", 2000), strings.Repeat("\xa1", 4000), "\x99\x0f\x9c" + strings.Repeat("\x00", 3996),
	} {
		cbor().refuses(t, s)
		if impl.Shortest(s) {
			t.Errorf("shortest: %q", s)
		}
	}
}

func TestCborEachFirstByte(t *testing.T) {
	for c := range 256 {
		kind, short := c/32, c%32
		s := string([]byte{byte(c)}) + strings.Repeat("\x00", 8)
		// With noughts behind: long numbers are 0, texts have bytes 0, lists noughts; maps of more than no key have none.
		want := short < 28 && (kind == 0 || kind == 1) || (kind == 3 || kind == 4) && (short <= 8 || short >= 24 && short < 28) || kind == 5 && (short == 0 || short >= 24 && short < 28) || c >= 244 && c <= 246
		if _, _, ok := impl.ReadCbor(s); ok != want {
			t.Errorf("%#x: %v", c, ok)
		}
		alone := short < 24 && (kind == 0 || kind == 1) || c == 96 || c == 128 || c == 160 || c >= 244 && c <= 246
		if impl.Shortest(s[:1]) != alone {
			t.Errorf("%#x alone: %v", c, !alone)
		}
	}
}

func TestShortestIsJustWhatIsWritten(t *testing.T) {
	r := rand.New(rand.NewSource(31))
	shortest, others := 0, 0
	for _, v := range someValues(32, 1500) {
		s := looseCbor(r, v)
		if impl.Shortest(s) != (s == impl.CborText(v)) {
			t.Fatalf("%q", s)
		}
		if impl.Shortest(s) {
			shortest++
		} else {
			others++
		}
		s = changed(r, impl.CborText(v))
		w, used, ok := impl.ReadCbor(s)
		if want := ok && used == int64(len(s)) && impl.CborText(w) == s; impl.Shortest(s) != want {
			t.Fatalf("%q", s)
		}
	}
	if shortest < 100 || others < 100 {
		t.Error(shortest, others)
	}
	for _, n := range []int{3999, 4000, 4001, 4002} {
		if impl.Shortest(impl.CborText(cbor().writtenIn(t, n))) != (n <= 4000) {
			t.Error(n)
		}
	}
}

// looseHead writes a head, now and then with more bytes than needed.
func looseHead(r *rand.Rand, kind int, n int64) string {
	step := 3
	for step > 0 && n < 1<<(4<<step) && r.Intn(4) > 0 {
		step--
	}
	if step == 0 && n < 24 && r.Intn(3) > 0 {
		return wide(int64(32*kind)+n, 1)
	}
	return wide(int64(32*kind+24+step), 1) + wide(n, 1<<step)
}

func looseCbor(r *rand.Rand, v []impl.VNode) string {
	whole := v[len(v)-1]
	parts := impl.PartsOf(v)
	switch whole.Kind {
	case impl.VlNull:
		return "\xf6"
	case impl.VlBool:
		return wide(244+whole.N, 1)
	case impl.VlInt:
		if whole.N < 0 {
			return looseHead(r, 1, -1-whole.N)
		}
		return looseHead(r, 0, whole.N)
	case impl.VlText:
		return looseHead(r, 3, int64(len(whole.S))) + whole.S
	case impl.VlList:
		s := looseHead(r, 4, int64(len(parts)))
		for _, part := range parts {
			s += looseCbor(r, part)
		}
		return s
	}
	s := looseHead(r, 5, int64(len(parts)))
	for _, i := range r.Perm(len(parts)) {
		s += looseHead(r, 3, int64(len(whole.Keys[i]))) + whole.Keys[i] + looseCbor(r, parts[i])
	}
	return s
}

// cborHead answers a head's kind and number, and what stands behind it.
func cborHead(b []byte) (int, uint64, []byte, bool) {
	if len(b) == 0 {
		return 0, 0, nil, false
	}
	kind, short := int(b[0]>>5), int(b[0]&31)
	b = b[1:]
	width := map[int]int{24: 1, 25: 2, 26: 4, 27: 8}[short]
	if short > 27 || len(b) < width {
		return 0, 0, nil, false
	}
	if width == 0 {
		return kind, uint64(short), b, true
	}
	n := uint64(0)
	for _, c := range b[:width] {
		n = n*256 + uint64(c)
	}
	return kind, n, b[width:], true
}

// otherCbor reads without giving up by a panic, and asks at each value whether it is right.
func otherCbor(b []byte) ([]impl.VNode, []byte, bool) {
	if len(b) > 0 {
		switch b[0] {
		case 0xf4, 0xf5:
			return truth(int64(b[0] - 0xf4)), b[1:], true
		case 0xf6:
			return null(), b[1:], true
		}
	}
	kind, n, b, ok := cborHead(b)
	if !ok || n > impl.MaxInt {
		return nil, nil, false
	}
	switch kind {
	case 0:
		return num(int64(n)), b, true
	case 1:
		v := num(-1 - int64(n))
		return v, b, impl.ValueOk(v)
	case 3:
		if n > uint64(len(b)) {
			return nil, nil, false
		}
		v := text(string(b[:n]))
		return v, b[n:], impl.ValueOk(v)
	case 4, 5:
		return otherParts(b, n, kind == 5, otherCbor)
	}
	return nil, nil, false
}

// otherParts reads the parts of a list or map of either format.
func otherParts(b []byte, n uint64, named bool, read func([]byte) ([]impl.VNode, []byte, bool)) ([]impl.VNode, []byte, bool) {
	var keys []string
	var l [][]impl.VNode
	for ; n > 0; n-- {
		if named {
			key, rest, ok := read(b)
			if !ok || key[len(key)-1].Kind != impl.VlText {
				return nil, nil, false
			}
			keys = append(keys, key[0].S)
			b = rest
		}
		v, rest, ok := read(b)
		if !ok {
			return nil, nil, false
		}
		l = append(l, v)
		b = rest
	}
	if named {
		v, ok := impl.MapOf(keys, l)
		return v, b, ok
	}
	v, ok := impl.ListOf(l)
	return v, b, ok
}

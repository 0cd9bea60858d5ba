package tests

import (
	"encoding/binary"
	"math/rand"
	"slices"
	"strings"
	"testing"

	"loop.example/g00345/impl"
)

func pack() binaryFormat { return binaryFormats()[1] }

func TestPackNumbers(t *testing.T) {
	for n, want := range map[int64]string{
		0:                "\x00",
		1:                "\x01",
		23:               "\x17",
		24:               "\x18",
		126:              "\x7e",
		127:              "\x7f",
		128:              "\xcc\x80",
		255:              "\xcc\xff",
		256:              "\xcd\x01\x00",
		32767:            "\xcd\x7f\xff",
		32768:            "\xcd\x80\x00",
		65535:            "\xcd\xff\xff",
		65536:            "\xce\x00\x01\x00\x00",
		2147483647:       "\xce\x7f\xff\xff\xff",
		2147483648:       "\xce\x80\x00\x00\x00",
		4294967295:       "\xce\xff\xff\xff\xff",
		4294967296:       "\xcf\x00\x00\x00\x01\x00\x00\x00\x00",
		impl.MaxInt - 1:  "\xcf\x00\x03\x8d\x7e\xa4\xc6\x7f\xff",
		impl.MaxInt:      "\xcf\x00\x03\x8d\x7e\xa4\xc6\x80\x00",
		-1:               "\xff",
		-2:               "\xfe",
		-24:              "\xe8",
		-25:              "\xe7",
		-31:              "\xe1",
		-32:              "\xe0",
		-33:              "\xd0\xdf",
		-127:             "\xd0\x81",
		-128:             "\xd0\x80",
		-129:             "\xd1\xff\x7f",
		-255:             "\xd1\xff\x01",
		-256:             "\xd1\xff\x00",
		-257:             "\xd1\xfe\xff",
		-32767:           "\xd1\x80\x01",
		-32768:           "\xd1\x80\x00",
		-32769:           "\xd2\xff\xff\x7f\xff",
		-65536:           "\xd2\xff\xff\x00\x00",
		-2147483647:      "\xd2\x80\x00\x00\x01",
		-2147483648:      "\xd2\x80\x00\x00\x00",
		-2147483649:      "\xd3\xff\xff\xff\xff\x7f\xff\xff\xff",
		-4294967296:      "\xd3\xff\xff\xff\xff\x00\x00\x00\x00",
		-impl.MaxInt + 1: "\xd3\xff\xfc\x72\x81\x5b\x39\x80\x01",
		-impl.MaxInt:     "\xd3\xff\xfc\x72\x81\x5b\x39\x80\x00",
	} {
		pack().leadsBack(t, num(n), want)
	}
}

// packPairs are the pairs of keyed.
func packPairs(count int) string {
	s := ""
	for i := range count {
		s += "\xa2" + string([]byte{byte('0' + i/10), byte('0' + i%10)}) + wide(int64(i), 1)
	}
	return s
}

// packNumbers are the parts of wideList.
func packNumbers(count int) string {
	s := ""
	for i := range count {
		s += wide(int64(i), 1)
	}
	return s
}

func TestPackTexts(t *testing.T) {
	pack().leadsBack(t, null(), "\xc0")
	pack().leadsBack(t, truth(0), "\xc2")
	pack().leadsBack(t, truth(1), "\xc3")
	for n, head := range map[int]string{0: "\xa0", 1: "\xa1", 23: "\xb7", 24: "\xb8", 30: "\xbe", 31: "\xbf", 32: "\xd9\x20", 59: "\xd9\x3b", 60: "\xd9\x3c"} {
		s := strings.Repeat("\x7f", n)
		pack().leadsBack(t, text(s), head+s)
		pack().leadsBack(t, mapped(t, []string{s}, null()), "\x81"+head+s+"\xc0")
	}
	pack().leadsBack(t, text("\x00\n\"\\"), "\xa4\x00\n\"\\")
	for n, heads := range map[int][2]string{
		0:  {"\x90", "\x80"},
		1:  {"\x91", "\x81"},
		14: {"\x9e", "\x8e"},
		15: {"\x9f", "\x8f"},
		16: {"\xdc\x00\x10", "\xde\x00\x10"},
		17: {"\xdc\x00\x11", "\xde\x00\x11"},
		23: {"\xdc\x00\x17", "\xde\x00\x17"},
		24: {"\xdc\x00\x18", "\xde\x00\x18"},
		79: {"\xdc\x00\x4f", "\xde\x00\x4f"},
	} {
		pack().leadsBack(t, wideList(n+1), heads[0]+packNumbers(n))
		pack().leadsBack(t, keyed(t, n), heads[1]+packPairs(n))
	}
	pack().leadsBack(t, list(t, num(1), list(t), mapped(t, nil), list(t, text("a"))), "\x94\x01\x90\x80\x91\xa1a")
	pack().leadsBack(t, deepList(8), "\x91\x91\x91\x91\x91\x91\x91\x90")
}

func TestPackKeysInOrder(t *testing.T) {
	pack().leadsBack(t, mapped(t, []string{"b", "aa"}, num(1), num(2)), "\x82\xa2aa\x02\xa1b\x01")
	pack().leadsBack(t, mapped(t, []string{"", "a", "aa", "ab", "b", "ba", "c"}, num(0), num(1), num(2), num(3), num(4), num(5), num(6)),
		"\x87\xa0\x00\xa1a\x01\xa2aa\x02\xa2ab\x03\xa1b\x04\xa2ba\x05\xa1c\x06")
	pack().leadsBack(t, mapped(t, []string{"B", "a", "\x7f", "\x00", "_"}, num(1), num(2), num(3), num(4), num(5)),
		"\x85\xa1\x00\x04\xa1B\x01\xa1_\x05\xa1a\x02\xa1\x7f\x03")
	pairs := []string{"\xa0\x00", "\xa2aa\x02", "\xd9\x02ab\x03", "\xa1b\x01"}
	want := mapped(t, []string{"", "aa", "ab", "b"}, num(0), num(2), num(3), num(1))
	for i := range 256 {
		order := []int{i & 3, i >> 2 & 3, i >> 4 & 3, i >> 6}
		s := "\x84"
		for _, at := range order {
			s += pairs[at]
		}
		if rising := slices.Sorted(slices.Values(order)); !slices.Equal(rising, []int{0, 1, 2, 3}) {
			pack().refuses(t, s)
			continue
		}
		pack().reads(t, s, len(s), want)
	}
}

func TestPackMoreBytesThanNeeded(t *testing.T) {
	read := func(s string, want []impl.VNode) {
		t.Helper()
		pack().reads(t, s+"\xff", len(s), want)
		for i := range len(s) {
			pack().refuses(t, s[:i])
		}
	}
	for step, width := range []int{1, 2, 4, 8} {
		for _, n := range []int64{0, 1, 31, 32, 127, 128, 255, 256, 32767, 32768, 65535, 65536, 2147483647, 2147483648, 4294967295, 4294967296, impl.MaxInt} {
			if n>>(8*width) == 0 {
				read(wide(int64(204+step), 1)+wide(n, width), num(n))
			}
			if n>>(8*width-1) == 0 {
				read(wide(int64(208+step), 1)+wide(n, width), num(n))
				read(wide(int64(208+step), 1)+wide(-n, width), num(-n))
			}
		}
	}
	read("\xd0\x80", num(-128))
	read("\xd1\x80\x00", num(-32768))
	read("\xd2\x80\x00\x00\x00", num(-2147483648))
	for step, width := range []int{1, 2, 4} {
		for _, n := range []int64{0, 1, 23, 24, 31, 32, 60} {
			s := strings.Repeat("k", int(n))
			head := wide(int64(217+step), 1) + wide(n, width)
			read(head+s, text(s))
			read("\x81"+head+s+"\xc3", mapped(t, []string{s}, truth(1)))
		}
	}
	for step, width := range []int{2, 4} {
		for _, n := range []int{0, 1, 15, 16, 23, 24, 79} {
			read(wide(int64(220+step), 1)+wide(int64(n), width)+packNumbers(n), wideList(n+1))
			read(wide(int64(222+step), 1)+wide(int64(n), width)+packPairs(n), keyed(t, n))
		}
	}
}

func TestReadNoPack(t *testing.T) {
	sixtyOne := strings.Repeat("a", 61)
	for _, s := range []string{
		"",
		// numbers out of bounds
		"\xcf\x00\x03\x8d\x7e\xa4\xc6\x80\x01", "\xcf\x7f\xff\xff\xff\xff\xff\xff\xff", "\xcf\x80\x00\x00\x00\x00\x00\x00\x00", "\xcf\xff\xff\xff\xff\xff\xff\xff\xff", "\xcf\xff\xff\xff\xff\xff\xff\xff\xfb",
		"\xd3\x00\x03\x8d\x7e\xa4\xc6\x80\x01", "\xd3\xff\xfc\x72\x81\x5b\x39\x7f\xff", "\xd3\x7f\xff\xff\xff\xff\xff\xff\xff", "\xd3\x80\x00\x00\x00\x00\x00\x00\x00", "\xd3\x80\x00\x00\x00\x00\x00\x00\x01",
		// lengths greater than what is there
		"\xa1", "\xa2a", "\xbfa", "\xd9", "\xd9\x01", "\xd9\x02a", "\xda\x00", "\xda\x00\x02a", "\xdb\x00\x00\x00", "\xdb\x00\x00\x00\x02a", "\xdb\xff\xff\xff\xffa", "\xdb\x80\x00\x00\x00a",
		"\x91", "\x92\x01", "\x9f\x01", "\xdc", "\xdc\x00", "\xdc\x00\x02\x01", "\xdd\x00\x00\x00", "\xdd\x00\x00\x00\x02\x01", "\xdd\xff\xff\xff\xff\x01", "\xdd\x80\x00\x00\x00",
		"\x81", "\x81\xa1a", "\x82\xa1a\x01", "\x82\xa1a\x01\xa1b", "\xde", "\xde\x00\x02\xa1a\x01", "\xdf\x00\x00\x00\x02\xa1a\x01", "\xdf\xff\xff\xff\xff\xa1a\x01", "\xdf\x80\x00\x00\x00",
		// two keys that are the same
		"\x82\xa1a\x01\xa1a\x01", "\x82\xa1a\x01\xa1a\x02", "\x83\xa1a\x01\xa1b\x02\xa1a\x01", "\x82\xa0\x01\xa0\x02", "\x82\xa1a\x01\xd9\x01a\x02", "\x91\x81\xa1x\x82\xa1a\x01\xa1a\x01", "\xdf\x00\x00\x00\x02\xa1a\x01\xa1a\x01",
		// keys that are no texts
		"\x81\x01\x02", "\x81\xc0\x01", "\x81\xc3\x01", "\x81\x90\x01", "\x81\x80\x01", "\x81\xc4\x01a\x01", "\x81\xff\x01", "\x82\xa1a\x01\x02\x03",
		// texts too long, or with bytes past 127
		"\xd9\x3d" + sixtyOne, "\xda\x00\x3d" + sixtyOne, "\x81\xd9\x3d" + sixtyOne + "\x01", "\xa1\x80", "\xa1\xff", "\xa2\xc3\xa9", "\x81\xa1\x80\x01", "\xa3a\x80b",
		// kinds that the chapter does not name
		"\xc1", "\xc4\x00", "\xc4\x01a", "\xc5\x00\x00", "\xc5\x00\x01a", "\xc6\x00\x00\x00\x00", "\xc7\x00\x01", "\xc7\x01\x01a", "\xc8\x00\x01\x01a", "\xc9\x00\x00\x00\x01\x01a",
		"\xca\x00\x00\x00\x00", "\xcb\x00\x00\x00\x00\x00\x00\x00\x00", "\xd4\x01\x00", "\xd5\x01\x00\x00", "\xd6\xff\x00\x00\x00\x00", "\xd7\xff\x00\x00\x00\x00\x00\x00\x00\x00", "\xd8" + strings.Repeat("\x00", 17),
		// nodes too deep or too many
		"\x91\x91\x91\x91\x91\x91\x91\x91\x90", "\x91\x91\x91\x91\x91\x91\x91\x91\x01", "\xdc\x00\x50" + packNumbers(80), "\x92\xdc\x00\x4e" + packNumbers(78) + "\x01",
		strings.Repeat("\x91", 4000), strings.Repeat("\x91", 3999) + "\x90", strings.Repeat("\x81\xa0", 2000), strings.Repeat("\x81", 4000), "\xdc\x0f\x9c" + strings.Repeat("\x00", 3996),
	} {
		pack().refuses(t, s)
	}
}

func TestPackEachFirstByte(t *testing.T) {
	for c := range 256 {
		s := wide(int64(c), 1) + strings.Repeat("\x00", 16)
		// With noughts behind: long numbers are 0, texts have bytes 0, lists noughts; maps of more than no key have none.
		want := c <= 128 || c >= 144 && c <= 176 || c == 192 || c == 194 || c == 195 || c >= 204 && c <= 211 || c >= 217
		if _, _, ok := impl.ReadPack(s); ok != want {
			t.Errorf("%#x: %v", c, ok)
		}
		alone := c <= 128 || c == 144 || c == 160 || c == 192 || c == 194 || c == 195 || c >= 224
		if _, _, ok := impl.ReadPack(s[:1]); ok != alone {
			t.Errorf("%#x alone: %v", c, ok)
		}
	}
}

// looseRow writes one of a row of first bytes, whose widths are told, and n behind it.
func looseRow(r *rand.Rand, row int, widths []int, n int64) string {
	for {
		at := r.Intn(len(widths))
		if n>>(8*widths[at]) == 0 {
			return wide(int64(row+at), 1) + wide(n, widths[at])
		}
	}
}

func looseNumber(r *rand.Rand, n int64) string {
	if n >= -32 && n <= 127 && r.Intn(2) == 0 {
		return wide(n, 1)
	}
	if n >= 0 && r.Intn(2) == 0 {
		return looseRow(r, 204, []int{1, 2, 4, 8}, n)
	}
	for {
		at := r.Intn(4)
		if bits := 8<<at - 1; n>>bits == 0 || n>>bits == -1 {
			return wide(int64(208+at), 1) + wide(n, 1<<at)
		}
	}
}

func looseText(r *rand.Rand, s string) string {
	if len(s) < 32 && r.Intn(2) == 0 {
		return wide(int64(160+len(s)), 1) + s
	}
	return looseRow(r, 217, []int{1, 2, 4}, int64(len(s))) + s
}

func looseCount(r *rand.Rand, few, many, n int) string {
	if n < 16 && r.Intn(2) == 0 {
		return wide(int64(few+n), 1)
	}
	return looseRow(r, many, []int{2, 4}, int64(n))
}

func loosePack(r *rand.Rand, v []impl.VNode) string {
	whole := v[len(v)-1]
	parts := impl.PartsOf(v)
	switch whole.Kind {
	case impl.VlNull:
		return "\xc0"
	case impl.VlBool:
		return wide(194+whole.N, 1)
	case impl.VlInt:
		return looseNumber(r, whole.N)
	case impl.VlText:
		return looseText(r, whole.S)
	case impl.VlList:
		s := looseCount(r, 144, 220, len(parts))
		for _, part := range parts {
			s += loosePack(r, part)
		}
		return s
	}
	s := looseCount(r, 128, 222, len(parts))
	for _, i := range r.Perm(len(parts)) {
		s += looseText(r, whole.Keys[i]) + loosePack(r, parts[i])
	}
	return s
}

// packShape says of each first byte which kind begins with it, how many bytes
// of number follow, and the number if none do.
func packShape(c byte) (kind int64, width int, n uint64) {
	switch {
	case c < 0x80:
		return impl.VlInt, 0, uint64(c)
	case c < 0x90:
		return impl.VlMap, 0, uint64(c & 15)
	case c < 0xa0:
		return impl.VlList, 0, uint64(c & 15)
	case c < 0xc0:
		return impl.VlText, 0, uint64(c & 31)
	case c >= 0xe0:
		return impl.VlInt, 0, uint64(c) - 256
	}
	switch c {
	case 0xc0:
		return impl.VlNull, 0, 0
	case 0xc2, 0xc3:
		return impl.VlBool, 0, uint64(c - 0xc2)
	case 0xcc, 0xd0:
		return impl.VlInt, 1, 0
	case 0xcd, 0xd1:
		return impl.VlInt, 2, 0
	case 0xce, 0xd2:
		return impl.VlInt, 4, 0
	case 0xcf, 0xd3:
		return impl.VlInt, 8, 0
	case 0xd9:
		return impl.VlText, 1, 0
	case 0xda:
		return impl.VlText, 2, 0
	case 0xdb:
		return impl.VlText, 4, 0
	case 0xdc:
		return impl.VlList, 2, 0
	case 0xdd:
		return impl.VlList, 4, 0
	case 0xde:
		return impl.VlMap, 2, 0
	case 0xdf:
		return impl.VlMap, 4, 0
	}
	return 0, 0, 0
}

// otherPack reads without giving up by a panic, and asks at each value whether it is right.
func otherPack(b []byte) ([]impl.VNode, []byte, bool) {
	if len(b) == 0 {
		return nil, nil, false
	}
	first := b[0]
	kind, width, n := packShape(first)
	b = b[1:]
	if len(b) < width {
		return nil, nil, false
	}
	if width > 0 {
		n = binary.BigEndian.Uint64(append(make([]byte, 8-width), b[:width]...))
	}
	b = b[width:]
	switch kind {
	case impl.VlNull:
		return null(), b, true
	case impl.VlBool:
		return truth(int64(n)), b, true
	case impl.VlInt:
		whole := int64(n)
		switch first {
		case 0xd0:
			whole = int64(int8(n))
		case 0xd1:
			whole = int64(int16(n))
		case 0xd2:
			whole = int64(int32(n))
		case 0xcf:
			if n > impl.MaxInt {
				return nil, nil, false
			}
		}
		return num(whole), b, impl.ValueOk(num(whole))
	case impl.VlText:
		if n > uint64(len(b)) {
			return nil, nil, false
		}
		return text(string(b[:n])), b[n:], impl.ValueOk(text(string(b[:n])))
	case impl.VlList, impl.VlMap:
		return otherParts(b, n, kind == impl.VlMap, otherPack)
	}
	return nil, nil, false
}

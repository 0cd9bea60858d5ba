package impl

import (
	"strconv"
	"strings"
)

const (
	hexDigits = "0123456789abcdef"
	// A byte of escapedBytes is written as a \ and the letter at its place.
	escapedBytes  = "\"\\\b\t\n\f\r"
	escapeLetters = "\"\\btnfr"
)

func JsonText(v []VNode) string {
	x, ok := valueOf(v)
	if !ok {
		return ""
	}
	var w jsonWriter
	w.write(x, 0)
	return w.out.String()
}

func Indented(v []VNode) string {
	x, ok := valueOf(v)
	if !ok {
		return ""
	}
	w := jsonWriter{lines: true}
	w.write(x, 0)
	w.out.WriteByte('\n')
	return w.out.String()
}

type jsonWriter struct {
	out   strings.Builder
	lines bool // each part has a line of its own
}

func (w *jsonWriter) write(x value, deep int) {
	switch y := x.(type) {
	case nullValue:
		w.out.WriteString("null")
	case boolValue:
		w.out.WriteString(strconv.FormatBool(y.n == 1))
	case intValue:
		w.out.WriteString(strconv.FormatInt(y.n, 10))
	case textValue:
		w.out.WriteString(quoted(y.s))
	case listValue:
		w.out.WriteByte('[')
		w.writeParts(nil, y.items, deep)
		w.out.WriteByte(']')
	case mapValue:
		w.out.WriteByte('{')
		w.writeParts(y.keys, y.items, deep)
		w.out.WriteByte('}')
	}
}

// writeParts takes no keys for the parts of a list.
func (w *jsonWriter) writeParts(keys []string, items []value, deep int) {
	if len(items) == 0 {
		return
	}
	for i, x := range items {
		if i > 0 {
			w.out.WriteByte(',')
		}
		w.beginLine(deep + 1)
		if len(keys) > 0 {
			w.writeKey(keys[i])
		}
		w.write(x, deep+1)
	}
	w.beginLine(deep)
}

func (w *jsonWriter) beginLine(deep int) {
	if w.lines {
		w.out.WriteByte('\n')
		w.out.WriteString(strings.Repeat("  ", deep))
	}
}

func (w *jsonWriter) writeKey(key string) {
	w.out.WriteString(quoted(key))
	w.out.WriteByte(':')
	if w.lines {
		w.out.WriteByte(' ')
	}
}

// quoted answers the text in quotes, as JSON has it.
func quoted(s string) string {
	var out strings.Builder
	out.WriteByte('"')
	for i := range len(s) {
		c := s[i]
		if at := strings.IndexByte(escapedBytes, c); at >= 0 {
			out.WriteByte('\\')
			out.WriteByte(escapeLetters[at])
		} else if c < 32 || c == 127 {
			out.WriteString("\\u00")
			out.WriteByte(hexDigits[c/16])
			out.WriteByte(hexDigits[c%16])
		} else {
			out.WriteByte(c)
		}
	}
	out.WriteByte('"')
	return out.String()
}

func ReadJson(s string) ([]VNode, bool) {
	if len(s) > MaxIn {
		return nil, false
	}
	x, ok := readJsonValue(s)
	if !ok {
		return nil, false
	}
	return rightNodes(x)
}

// readJsonValue answers what s says, be it right or not (too deep, with a key
// twice ..): how far it reaches down is bounded by the length of s alone.
func readJsonValue(s string) (value, bool) {
	r := jsonReader{newSignReader(s, "\t\n\r ")}
	return unlessGivenUp(func() value {
		x := r.readAround()
		if r.at < len(s) {
			panic(gaveUp{})
		}
		return x
	})
}

// gaveUp is what a reader panics with where s says nothing.
type gaveUp struct{}

// unlessGivenUp answers false when read gives up.
func unlessGivenUp[T any](read func() T) (x T, ok bool) {
	defer func() {
		if recover() != nil {
			ok = false
		}
	}()
	return read(), true
}

type byteReader struct {
	s  string
	at int
}

// peek answers 0 at the end, too.
func (r *byteReader) peek() byte {
	if r.at == len(r.s) {
		return 0
	}
	return r.s[r.at]
}

func (r *byteReader) next() byte {
	if r.at == len(r.s) {
		panic(gaveUp{})
	}
	c := r.s[r.at]
	r.at++
	return c
}

// A signReader may peek for what stands next: no byte 0 may stand anywhere.
type signReader struct {
	byteReader
	blanks string // the bytes that may stand around signs
}

func newSignReader(s string, blanks string) signReader {
	return signReader{byteReader{s: s}, blanks}
}

func (r *signReader) skipBlanks() {
	for r.at < len(r.s) && strings.IndexByte(r.blanks, r.s[r.at]) >= 0 {
		r.at++
	}
}

// took goes past the sign, and what blanks follow it, if it stands here.
func (r *signReader) took(sign byte) bool {
	if r.peek() != sign {
		return false
	}
	r.at++
	r.skipBlanks()
	return true
}

func (r *signReader) must(sign byte) {
	if !r.took(sign) {
		panic(gaveUp{})
	}
}

type jsonReader struct{ signReader }

// readAround reads a value with the blanks around it.
func (r *jsonReader) readAround() value {
	r.skipBlanks()
	x := r.read()
	r.skipBlanks()
	return x
}

func (r *jsonReader) read() value {
	switch r.peek() {
	case 'n':
		r.readWord("null")
		return nullValue{}
	case 'f':
		r.readWord("false")
		return boolValue{0}
	case 't':
		r.readWord("true")
		return boolValue{1}
	case '"':
		return textValue{r.readText()}
	case '[':
		return r.readList()
	case '{':
		return r.readMap()
	}
	return intValue{r.readNumber()}
}

func (r *jsonReader) readWord(word string) {
	if !strings.HasPrefix(r.s[r.at:], word) {
		panic(gaveUp{})
	}
	r.at += len(word)
}

func (r *jsonReader) readNumber() int64 {
	sign := int64(1)
	if r.peek() == '-' {
		sign = -1
		r.at++
	}
	first := r.at
	n := int64(0)
	for r.peek() >= '0' && r.peek() <= '9' {
		n = 10*n + int64(r.next()-'0')
		if n > MaxInt {
			panic(gaveUp{})
		}
	}
	digits := r.s[first:r.at]
	if digits == "" || len(digits) > 1 && digits[0] == '0' {
		panic(gaveUp{})
	}
	return sign * n
}

func (r *jsonReader) readList() value {
	r.must('[')
	if r.took(']') {
		return listValue{}
	}
	var items []value
	for {
		items = append(items, r.readAround())
		if r.took(']') {
			return listValue{items}
		}
		r.must(',')
	}
}

func (r *jsonReader) readMap() value {
	r.must('{')
	if r.took('}') {
		return mapValue{}
	}
	var keys []string
	var items []value
	for {
		keys = append(keys, r.readText())
		r.skipBlanks()
		r.must(':')
		items = append(items, r.readAround())
		if r.took('}') {
			return sortedMap(keys, items)
		}
		r.must(',')
	}
}

// readText reads a text in quotes.
func (r *signReader) readText() string {
	if r.next() != '"' {
		panic(gaveUp{})
	}
	var out strings.Builder
	for {
		c := r.next()
		switch {
		case c == '"':
			return out.String()
		case c == '\\':
			c = r.readEscape()
		case c < 32 || c > 127:
			panic(gaveUp{})
		}
		out.WriteByte(c)
	}
}

// readEscape reads what stands behind a \ in a text.
func (r *signReader) readEscape() byte {
	c := r.next()
	if c == '/' {
		return c
	}
	if c == 'u' {
		return r.readCode()
	}
	at := strings.IndexByte(escapeLetters, c)
	if at < 0 {
		panic(gaveUp{})
	}
	return escapedBytes[at]
}

func (r *signReader) readCode() byte {
	n := 0
	for range 4 {
		n = 16*n + hexValue(r.next())
	}
	if n > 127 {
		panic(gaveUp{})
	}
	return byte(n)
}

// hexValue gives up when c is no digit.
func hexValue(c byte) int {
	if c >= 'A' && c <= 'F' {
		c += 'a' - 'A'
	}
	at := strings.IndexByte(hexDigits, c)
	if at < 0 {
		panic(gaveUp{})
	}
	return at
}

package tests

import (
	"math/rand"
	"slices"
	"strings"
	"testing"

	"loop.example/g00345/impl"
)

func null() []impl.VNode { return []impl.VNode{{Kind: impl.VlNull}} }

func truth(n int64) []impl.VNode { return []impl.VNode{{Kind: impl.VlBool, N: n}} }

func num(n int64) []impl.VNode { return []impl.VNode{{Kind: impl.VlInt, N: n}} }

func text(s string) []impl.VNode { return []impl.VNode{{Kind: impl.VlText, S: s}} }

func list(t *testing.T, l ...[]impl.VNode) []impl.VNode {
	t.Helper()
	v, ok := impl.ListOf(l)
	if !ok {
		t.Fatal("no list of", l)
	}
	return v
}

func mapped(t *testing.T, keys []string, l ...[]impl.VNode) []impl.VNode {
	t.Helper()
	v, ok := impl.MapOf(keys, l)
	if !ok {
		t.Fatal("no map of", keys, l)
	}
	return v
}

func read(t *testing.T, s string) []impl.VNode {
	t.Helper()
	v, ok := impl.ReadJson(s)
	if !ok {
		t.Fatalf("not read: %q", s)
	}
	return v
}

// same holds nodes against each other field by field; an empty list and nil are the same.
func same(a, b []impl.VNode) bool {
	return slices.EqualFunc(a, b, func(m, n impl.VNode) bool {
		return m.Kind == n.Kind && m.N == n.N && m.S == n.S && slices.Equal(m.Keys, n.Keys) && slices.Equal(m.Kids, n.Kids)
	})
}

func sameAll(a, b [][]impl.VNode) bool { return slices.EqualFunc(a, b, same) }

// deepList is a list in a list .. of n nodes, all on one path.
func deepList(n int) []impl.VNode {
	v := []impl.VNode{{Kind: impl.VlList}}
	for len(v) < n {
		v = append(v, impl.VNode{Kind: impl.VlList, Kids: []int64{int64(len(v) - 1)}})
	}
	return v
}

// wideList is a list of numbers, of n nodes in all.
func wideList(n int) []impl.VNode {
	var v []impl.VNode
	whole := impl.VNode{Kind: impl.VlList}
	for i := range n - 1 {
		v = append(v, impl.VNode{Kind: impl.VlInt, N: int64(i)})
		whole.Kids = append(whole.Kids, int64(i))
	}
	return append(v, whole)
}

const oddBytes = "\x00\x01\b\t\n\v\f\r\x1f \"/\\09Aaz{}[],:~\x7f"

func someText(r *rand.Rand) string {
	var b strings.Builder
	for range r.Intn(6) {
		b.WriteByte(oddBytes[r.Intn(len(oddBytes))])
	}
	return b.String()
}

// someValue makes its nodes by itself, without the functions under test.
func someValue(r *rand.Rand, deep int) []impl.VNode {
	kinds := 6
	if deep == 1 {
		kinds = 4
	}
	switch 1 + r.Intn(kinds) {
	case impl.VlNull:
		return null()
	case impl.VlBool:
		return truth(int64(r.Intn(2)))
	case impl.VlInt:
		some := r.Int63n(impl.MaxInt) >> r.Intn(50)
		edges := []int64{0, -1, 9, -10, impl.MaxInt, -impl.MaxInt, some, some, -some, -some}
		return num(edges[r.Intn(len(edges))])
	case impl.VlText:
		return text(someText(r))
	case impl.VlList:
		return someWhole(r, deep, impl.VNode{Kind: impl.VlList}, r.Intn(4))
	}
	m := impl.VNode{Kind: impl.VlMap}
	for range r.Intn(4) {
		m.Keys = append(m.Keys, someText(r))
	}
	slices.Sort(m.Keys)
	m.Keys = slices.Compact(m.Keys)
	return someWhole(r, deep, m, len(m.Keys))
}

func someWhole(r *rand.Rand, deep int, whole impl.VNode, parts int) []impl.VNode {
	var v []impl.VNode
	for range parts {
		from := int64(len(v))
		for _, n := range someValue(r, deep-1) {
			for i := range n.Kids {
				n.Kids[i] += from
			}
			v = append(v, n)
		}
		whole.Kids = append(whole.Kids, int64(len(v)-1))
	}
	return append(v, whole)
}

// someValues are right by how they are made: few enough nodes, not too deep.
func someValues(seed int64, count int) [][]impl.VNode {
	r := rand.New(rand.NewSource(seed))
	var all [][]impl.VNode
	for len(all) < count {
		if v := someValue(r, 1+r.Intn(impl.MaxDeep)); len(v) <= impl.MaxNodes {
			all = append(all, v)
		}
	}
	return all
}

const (
	mark    = int64(-77)
	markKey = "mark"
)

// roomy answers a copy of v with marked spare room behind each of its lists.
func roomy(v []impl.VNode) []impl.VNode {
	out := make([]impl.VNode, len(v), len(v)+3)
	for i, n := range v {
		n.Keys = append(slices.Clone(n.Keys), markKey, markKey)[:len(n.Keys)]
		n.Kids = append(slices.Clone(n.Kids), mark, mark)[:len(n.Kids)]
		out[i] = n
	}
	for i := range out[len(v):cap(out)] {
		out[:len(v)+i+1][len(v)+i].N = mark
	}
	return out
}

// untouched tells whether v, which roomy made of want, is as it was, spare room and all.
func untouched(v, want []impl.VNode) bool {
	for _, n := range v[len(v) : len(v)+3] {
		if n.N != mark || n.Kind != 0 {
			return false
		}
	}
	for _, n := range v {
		keys, kids := n.Keys[len(n.Keys):len(n.Keys)+2], n.Kids[len(n.Kids):len(n.Kids)+2]
		if keys[0] != markKey || keys[1] != markKey || kids[0] != mark || kids[1] != mark {
			return false
		}
	}
	return same(v, want)
}

// shared tells whether two lists of the answers share memory; it writes into all of them.
func shared(l ...[]impl.VNode) bool {
	stamp := int64(0)
	for _, v := range l {
		for i := range v {
			v[i].N = stamp
			for j := range v[i].Kids[:cap(v[i].Kids)] {
				v[i].Kids[:cap(v[i].Kids)][j] = stamp
			}
			for j := range v[i].Keys[:cap(v[i].Keys)] {
				v[i].Keys[:cap(v[i].Keys)][j] = string(rune(stamp))
			}
			stamp++
		}
		for i := len(v); i < cap(v); i++ {
			v[:cap(v)][i] = impl.VNode{N: -1}
		}
	}
	stamp = 0
	for _, v := range l {
		for _, n := range v {
			if n.N != stamp {
				return true
			}
			for _, k := range n.Kids[:cap(n.Kids)] {
				if k != stamp {
					return true
				}
			}
			for _, k := range n.Keys[:cap(n.Keys)] {
				if k != string(rune(stamp)) {
					return true
				}
			}
			stamp++
		}
	}
	return false
}

package impl

import (
	"cmp"
	"slices"
	"strings"
)

const (
	VlNull   = 1
	VlBool   = 2
	VlInt    = 3
	VlText   = 4
	VlList   = 5
	VlMap    = 6
	MaxNodes = 80
	MaxDeep  = 8
	MaxText  = 60
	MaxInt   = 1000000000000000
)

type VNode struct {
	Kind int64
	N    int64
	S    string
	Keys []string
	Kids []int64
}

// A value holds its parts themselves, where nodes hold only their places:
// the layers build and walk values, and turn them into nodes at the end.
type value interface {
	kind() int64
	parts() []value
}

type nullValue struct{}

type boolValue struct{ n int64 }

type intValue struct{ n int64 }

type textValue struct{ s string }

type listValue struct{ items []value }

type mapValue struct {
	keys  []string
	items []value
}

func (nullValue) kind() int64 { return VlNull }
func (boolValue) kind() int64 { return VlBool }
func (intValue) kind() int64  { return VlInt }
func (textValue) kind() int64 { return VlText }
func (listValue) kind() int64 { return VlList }
func (mapValue) kind() int64  { return VlMap }

func (nullValue) parts() []value   { return nil }
func (boolValue) parts() []value   { return nil }
func (intValue) parts() []value    { return nil }
func (textValue) parts() []value   { return nil }
func (x listValue) parts() []value { return x.items }
func (x mapValue) parts() []value  { return x.items }

func ValueOk(v []VNode) bool {
	if len(v) < 1 || len(v) > MaxNodes {
		return false
	}
	kids := make([][]int64, len(v))
	for i, n := range v {
		if !unnamedZero(n) || !namedOk(n) {
			return false
		}
		kids[i] = n.Kids
	}
	return nodesStand(kids, MaxDeep)
}

// unnamedZero tells whether the fields that the node's kind does not name are zero.
func unnamedZero(n VNode) bool {
	switch {
	case n.Kind != VlBool && n.Kind != VlInt && n.N != 0:
		return false
	case n.Kind != VlText && n.S != "":
		return false
	case n.Kind != VlMap && len(n.Keys) > 0:
		return false
	case n.Kind != VlList && n.Kind != VlMap && len(n.Kids) > 0:
		return false
	}
	return true
}

// namedOk tells whether the fields that the node's kind names are right, but
// for the places of its kids, which hang on the other nodes.
func namedOk(n VNode) bool {
	switch n.Kind {
	case VlNull, VlList:
		return true
	case VlBool:
		return n.N == 0 || n.N == 1
	case VlInt:
		return n.N >= -MaxInt && n.N <= MaxInt
	case VlText:
		return textOk(n.S)
	case VlMap:
		return len(n.Keys) == len(n.Kids) && keysRise(n.Keys)
	}
	return false
}

func textOk(s string) bool {
	if len(s) > MaxText {
		return false
	}
	for i := range len(s) {
		if s[i] > 127 {
			return false
		}
	}
	return true
}

func keysRise(keys []string) bool {
	for i, k := range keys {
		if !textOk(k) || i > 0 && keys[i-1] >= k {
			return false
		}
	}
	return true
}

// nodesStand tells whether each node stands right behind its kids, the first
// node is the last one's, and no path from that down has more than deepest nodes.
func nodesStand(kids [][]int64, deepest int64) bool {
	first := make([]int64, len(kids))
	height := make([]int64, len(kids))
	for i, places := range kids {
		behind := int64(i)
		height[i] = 1
		for _, k := range slices.Backward(places) {
			if behind == 0 || k != behind-1 {
				return false
			}
			behind = first[k]
			height[i] = max(height[i], height[k]+1)
		}
		first[i] = behind
	}
	last := len(kids) - 1
	return first[last] == 0 && height[last] <= deepest
}

// valuesAt answers the value of each node. The nodes must be right.
func valuesAt(v []VNode) []value {
	all := make([]value, len(v))
	for i, n := range v {
		var items []value
		for _, k := range n.Kids {
			items = append(items, all[k])
		}
		switch n.Kind {
		case VlBool:
			all[i] = boolValue{n.N}
		case VlInt:
			all[i] = intValue{n.N}
		case VlText:
			all[i] = textValue{n.S}
		case VlList:
			all[i] = listValue{items}
		case VlMap:
			all[i] = mapValue{n.Keys, items}
		default:
			all[i] = nullValue{}
		}
	}
	return all
}

// valueOf answers false when the nodes are not right.
func valueOf(v []VNode) (value, bool) {
	if !ValueOk(v) {
		return nil, false
	}
	return valuesAt(v)[len(v)-1], true
}

// withNodes answers v and, behind it, the nodes of x.
func withNodes(v []VNode, x value) []VNode {
	n := VNode{Kind: x.kind()}
	for _, part := range x.parts() {
		v = withNodes(v, part)
		n.Kids = append(n.Kids, int64(len(v)-1))
	}
	switch y := x.(type) {
	case boolValue:
		n.N = y.n
	case intValue:
		n.N = y.n
	case textValue:
		n.S = y.s
	case mapValue:
		n.Keys = append(n.Keys, y.keys...)
	}
	return append(v, n)
}

// rightNodes answers false when the nodes of x are no right value.
func rightNodes(x value) ([]VNode, bool) {
	v := withNodes(nil, x)
	if !ValueOk(v) {
		return nil, false
	}
	return v, true
}

// sortedMap makes a map of as many keys as items; two keys that are the same
// stay beside each other, so that its nodes are not right.
func sortedMap(keys []string, items []value) mapValue {
	var m mapValue
	for _, i := range sortedPlaces(keys, strings.Compare) {
		m.keys = append(m.keys, keys[i])
		m.items = append(m.items, items[i])
	}
	return m
}

// sortedPlaces answers the places of the texts in that order; those that are
// neither ahead nor behind stay as they stand.
func sortedPlaces(texts []string, compare func(a, b string) int) []int {
	places := make([]int, len(texts))
	for i := range places {
		places[i] = i
	}
	slices.SortStableFunc(places, func(i, j int) int {
		return compare(texts[i], texts[j])
	})
	return places
}

// compared answers -1, 0 or 1.
func compared(a value, b value) int {
	if c := cmp.Compare(a.kind(), b.kind()); c != 0 {
		return c
	}
	c := 0
	switch x := a.(type) {
	case boolValue:
		c = cmp.Compare(x.n, b.(boolValue).n)
	case intValue:
		c = cmp.Compare(x.n, b.(intValue).n)
	case textValue:
		c = strings.Compare(x.s, b.(textValue).s)
	case mapValue:
		c = slices.Compare(x.keys, b.(mapValue).keys)
	}
	if c != 0 {
		return c
	}
	return slices.CompareFunc(a.parts(), b.parts(), compared)
}

func Order(a []VNode, b []VNode) int64 {
	x, ok := valueOf(a)
	y, fine := valueOf(b)
	if !ok || !fine {
		return -2
	}
	return int64(compared(x, y))
}

func PartOf(v []VNode, n int64) ([]VNode, bool) {
	if !ValueOk(v) || n < 0 || n >= int64(len(v)) {
		return nil, false
	}
	return withNodes(nil, valuesAt(v)[n]), true
}

// valuesOf answers false when one of l is not right, or there are more than
// any list or map can have.
func valuesOf(l [][]VNode) ([]value, bool) {
	if len(l) > MaxNodes {
		return nil, false
	}
	var all []value
	for _, v := range l {
		x, ok := valueOf(v)
		if !ok {
			return nil, false
		}
		all = append(all, x)
	}
	return all, true
}

func ListOf(l [][]VNode) ([]VNode, bool) {
	items, ok := valuesOf(l)
	if !ok {
		return nil, false
	}
	return rightNodes(listValue{items})
}

func MapOf(keys []string, l [][]VNode) ([]VNode, bool) {
	items, ok := valuesOf(l)
	if !ok || len(keys) != len(items) {
		return nil, false
	}
	return rightNodes(sortedMap(keys, items))
}

func PartsOf(v []VNode) [][]VNode {
	x, ok := valueOf(v)
	if !ok {
		return nil
	}
	var all [][]VNode
	for _, part := range x.parts() {
		all = append(all, withNodes(nil, part))
	}
	return all
}

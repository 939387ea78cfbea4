package tests

import (
	"reflect"
	"strings"
	"testing"
	"unsafe"

	"loop.example/chest/impl"
)

func nilVal() impl.Val { return impl.Val{Kind: impl.VNil} }

func num(n int64) impl.Val { return impl.Val{Kind: impl.VNum, Num: n} }

func bits(n int64) impl.Val { return impl.Val{Kind: impl.VBits, Num: n} }

func txt(s string) impl.Val { return impl.Val{Kind: impl.VText, Text: s} }

func to(place int) impl.Val { return impl.Val{Kind: impl.VNode, Node: place} }

func node(tag int, vals ...impl.Val) impl.Node { return impl.Node{Tag: tag, Vals: vals} }

func graph(root impl.Val, nodes ...impl.Node) impl.Graph {
	return impl.Graph{Root: root, Nodes: nodes}
}

func copyOf(g impl.Graph) impl.Graph {
	out := impl.Graph{Root: g.Root}
	out.Root.Text = strings.Clone(g.Root.Text)
	for _, n := range g.Nodes {
		m := impl.Node{Tag: n.Tag}
		for _, v := range n.Vals {
			v.Text = strings.Clone(v.Text)
			m.Vals = append(m.Vals, v)
		}
		out.Nodes = append(out.Nodes, m)
	}
	return out
}

// same takes an empty list and nil as one value, as the document does.
func same(a, b impl.Graph) bool {
	return reflect.DeepEqual(copyOf(a), copyOf(b))
}

// renumbered is g with node i at place order[i].
func renumbered(g impl.Graph, order []int) impl.Graph {
	moved := func(v impl.Val) impl.Val {
		if v.Kind == impl.VNode {
			v.Node = order[v.Node]
		}
		return v
	}
	out := impl.Graph{Root: moved(g.Root), Nodes: make([]impl.Node, len(g.Nodes))}
	for i, n := range g.Nodes {
		m := impl.Node{Tag: n.Tag}
		for _, v := range n.Vals {
			m.Vals = append(m.Vals, moved(v))
		}
		out.Nodes[order[i]] = m
	}
	return out
}

// permutations is every order of 0 .. n-1.
func permutations(n int) [][]int {
	if n == 0 {
		return [][]int{{}}
	}
	var out [][]int
	for _, p := range permutations(n - 1) {
		for at := 0; at < n; at++ {
			q := append([]int{}, p[:at]...)
			q = append(q, n-1)
			out = append(out, append(q, p[at:]...))
		}
	}
	return out
}

// stretch is memory that a list or a text holds, up to its capacity.
type stretch struct {
	name       string
	begin, end uintptr
}

func stretchOf[T any](name string, l []T) stretch {
	begin := uintptr(unsafe.Pointer(unsafe.SliceData(l)))
	return stretch{name, begin, begin + uintptr(cap(l))*unsafe.Sizeof(*new(T))}
}

func stretchOfText(name, s string) stretch {
	begin := uintptr(unsafe.Pointer(unsafe.StringData(s)))
	return stretch{name, begin, begin + uintptr(len(s))}
}

func listsOf(name string, g impl.Graph) []stretch {
	out := []stretch{stretchOf(name+".Nodes", g.Nodes)}
	for _, n := range g.Nodes {
		out = append(out, stretchOf(name+".Vals", n.Vals))
	}
	return out
}

func textsOf(name string, g impl.Graph) []stretch {
	out := []stretch{stretchOfText(name+".Root.Text", g.Root.Text)}
	for _, n := range g.Nodes {
		for _, v := range n.Vals {
			out = append(out, stretchOfText(name+".Text", v.Text))
		}
	}
	return out
}

func overlap(a, b stretch) bool {
	return a.begin < a.end && b.begin < b.end && a.begin < b.end && b.begin < a.end
}

// askApart fails when a stretch of the answer lies in one of the argument, or when two lists of the answer meet.
func askApart(t *testing.T, answer, argument impl.Graph) {
	t.Helper()
	given := append(listsOf("argument", argument), textsOf("argument", argument)...)
	for _, a := range append(listsOf("answer", answer), textsOf("answer", answer)...) {
		for _, b := range given {
			if overlap(a, b) {
				t.Errorf("%s shares memory with %s", a.name, b.name)
			}
		}
	}
	askListsApart(t, answer)
}

// askListsApart fails when two lists of one graph meet.
func askListsApart(t *testing.T, g impl.Graph) {
	t.Helper()
	lists := listsOf("answer", g)
	for i, a := range lists {
		for _, b := range lists[:i] {
			if overlap(a, b) {
				t.Errorf("%s shares memory with %s of the same answer", a.name, b.name)
			}
		}
	}
}

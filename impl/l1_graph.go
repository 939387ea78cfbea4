package impl

import (
	"slices"
	"strings"
)

const (
	MaxNodes = 300
	MaxVals  = 100
	MaxTag   = 1000
	MaxText  = 1000
)

const (
	VNil  = 0
	VNum  = 1
	VBits = 2
	VText = 3
	VNode = 4
)

// Val is nothing, a number, the bits of a float, a text, or a node.
type Val struct {
	Kind int
	Num  int64
	Text string
	Node int
}

// Node is a thing: what it is, and what it holds.
type Node struct {
	Tag  int
	Vals []Val
}

// Graph is things that hold one another, and where to begin.
type Graph struct {
	Root  Val
	Nodes []Node
}

// value stands for a Val inside: a type for each Kind, so that none has a field that its Kind does not name.
type value interface {
	kind() int
}

type nothing struct{}

type number int64

type floatBits int64

type text string

// thing is a node that is told by its address alone: the place that it had in Nodes must not show in a form.
type thing struct {
	tag  int
	vals []value
}

func (nothing) kind() int { return VNil }

func (number) kind() int { return VNum }

func (floatBits) kind() int { return VBits }

func (text) kind() int { return VText }

func (*thing) kind() int { return VNode }

// GraphOk says whether a graph is well made; nodes that nothing leads to are asked like the others.
func GraphOk(g Graph) bool {
	if len(g.Nodes) > MaxNodes || !valOk(g.Root, len(g.Nodes)) {
		return false
	}
	for _, n := range g.Nodes {
		if !nodeOk(n, len(g.Nodes)) {
			return false
		}
	}
	return true
}

func nodeOk(n Node, nodes int) bool {
	if n.Tag < 0 || n.Tag > MaxTag || len(n.Vals) > MaxVals {
		return false
	}
	for _, v := range n.Vals {
		if !valOk(v, nodes) {
			return false
		}
	}
	return true
}

// valOk holds a value against one made of its Kind's own field: whatever differs stands in a field that is not named.
func valOk(v Val, nodes int) bool {
	switch v.Kind {
	case VNil:
		return v == Val{}
	case VNum, VBits:
		return v == Val{Kind: v.Kind, Num: v.Num}
	case VText:
		return len(v.Text) <= MaxText && v == Val{Kind: VText, Text: v.Text}
	case VNode:
		return v.Node >= 0 && v.Node < nodes && v == Val{Kind: VNode, Node: v.Node}
	}
	return false
}

// Canon is the graph in its one form, the zero value when it is not well made.
func Canon(g Graph) Graph {
	if !GraphOk(g) {
		return Graph{}
	}
	return formOf(linked(g))
}

// linked is the root of a well made graph whose places have become pointers.
func linked(g Graph) value {
	things := make([]*thing, len(g.Nodes))
	for i, n := range g.Nodes {
		things[i] = &thing{tag: n.Tag}
	}
	// The values come second: in a ring a node leads to one that stands behind it.
	for i, n := range g.Nodes {
		for _, v := range n.Vals {
			things[i].vals = append(things[i].vals, valueOf(v, things))
		}
	}
	return valueOf(g.Root, things)
}

func valueOf(v Val, things []*thing) value {
	switch v.Kind {
	case VNum:
		return number(v.Num)
	case VBits:
		return floatBits(v.Num)
	case VText:
		return text(v.Text)
	case VNode:
		return things[v.Node]
	}
	return nothing{}
}

// meeting numbers things as they are met.
type meeting struct {
	places map[*thing]int
	met    []*thing
}

func formOf(root value) Graph {
	m := meeting{places: map[*thing]int{}}
	g := Graph{Root: m.valOf(root)}
	// The list grows while it is gone through, so its length is asked anew each time.
	for i := 0; i < len(m.met); i++ {
		g.Nodes = append(g.Nodes, m.nodeOf(m.met[i]))
	}
	return g
}

func (m *meeting) nodeOf(t *thing) Node {
	n := Node{Tag: t.tag}
	for _, v := range t.vals {
		n.Vals = append(n.Vals, m.valOf(v))
	}
	return n
}

// valOf copies a text, for the answer shares no memory with the graph that it came from.
func (m *meeting) valOf(v value) Val {
	out := Val{Kind: v.kind()}
	switch x := v.(type) {
	case number:
		out.Num = int64(x)
	case floatBits:
		out.Num = int64(x)
	case text:
		out.Text = strings.Clone(string(x))
	case *thing:
		out.Node = m.placeOf(x)
	}
	return out
}

func (m *meeting) placeOf(t *thing) int {
	place, met := m.places[t]
	if !met {
		place = len(m.met)
		m.places[t] = place
		m.met = append(m.met, t)
	}
	return place
}

// Alike says whether both graphs are well made and have the same form.
func Alike(a, b Graph) bool {
	// Asked first, for two graphs that are not well made have the same Canon.
	if !GraphOk(a) || !GraphOk(b) {
		return false
	}
	x, y := Canon(a), Canon(b)
	return x.Root == y.Root && slices.EqualFunc(x.Nodes, y.Nodes, sameNode)
}

func sameNode(a, b Node) bool {
	return a.Tag == b.Tag && slices.Equal(a.Vals, b.Vals)
}

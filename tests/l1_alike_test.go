package tests

import (
	"math/rand"
	"testing"

	"loop.example/chest/impl"
)

// loom has a ring, a node met twice, all kinds of values, and a node (the last) that nothing leads to.
func loom() impl.Graph {
	return graph(to(0),
		node(10, to(1), num(5), to(2), txt("warp")),
		node(11, to(2), nilVal(), bits(5)),
		node(12, to(0), to(3)),
		node(13, to(3)),
		node(14, to(0), num(8)))
}

func askAlike(t *testing.T, name string, a, b impl.Graph, want bool) {
	t.Helper()
	beforeA, beforeB := copyOf(a), copyOf(b)
	if impl.Alike(a, b) != want || impl.Alike(b, a) != want {
		t.Errorf("%s: Alike is not %v in both orders", name, want)
	}
	if !same(a, beforeA) || !same(b, beforeB) {
		t.Errorf("%s: an argument was changed", name)
	}
}

func TestNumberedAnew(t *testing.T) {
	form := impl.Canon(loom())
	for _, order := range permutations(5) {
		g := renumbered(loom(), order)
		askAlike(t, "numbered anew", loom(), g, true)
		if !same(impl.Canon(g), form) {
			t.Errorf("numbered by %v the form is another", order)
		}
	}
}

func TestNodesThatNothingLeadsTo(t *testing.T) {
	g := loom()
	g.Nodes[4] = node(900, to(4), to(1), txt("loose"))
	askAlike(t, "another node that is not met", loom(), g, true)
	g.Nodes = g.Nodes[:4]
	askAlike(t, "no node that is not met", loom(), g, true)
	for len(g.Nodes) < impl.MaxNodes {
		g.Nodes = append(g.Nodes, node(len(g.Nodes), to(0)))
	}
	askAlike(t, "many nodes that are not met", loom(), g, true)
	g.Nodes = append(g.Nodes, node(1))
	askAlike(t, "too many nodes that are not met", loom(), g, false)
	askAlike(t, "roots that are no nodes", graph(num(4), node(1)), graph(num(4), node(2, to(0)), node(3)), true)
	askAlike(t, "no nodes", impl.Graph{}, graph(nilVal(), node(2)), true)
}

// A node that nothing leads to is asked all the same whether it is well made.
func TestFaultsWhereNothingLeads(t *testing.T) {
	for name, n := range map[string]impl.Node{
		"Tag":      node(impl.MaxTag + 1),
		"place":    node(1, to(5)),
		"Kind":     node(1, impl.Val{Kind: 5}),
		"field":    node(1, impl.Val{Num: 1}),
		"values":   node(1, make([]impl.Val, impl.MaxVals+1)...),
		"below 0":  node(-1),
		"place -1": node(1, to(-1)),
	} {
		g := loom()
		g.Nodes[4] = n
		askAlike(t, name, loom(), g, false)
		askAlike(t, name+", both", g, g, false)
	}
}

func TestEmptyListsAreNil(t *testing.T) {
	a := graph(to(0), impl.Node{Tag: 1, Vals: []impl.Val{}})
	b := graph(to(0), impl.Node{Tag: 1})
	askAlike(t, "values", a, b, true)
	askAlike(t, "nodes", impl.Graph{Nodes: []impl.Node{}}, impl.Graph{}, true)
}

func TestOneChange(t *testing.T) {
	for name, change := range map[string]func(g *impl.Graph){
		"root":                 func(g *impl.Graph) { g.Root = to(1) },
		"root no node":         func(g *impl.Graph) { g.Root = nilVal() },
		"Tag":                  func(g *impl.Graph) { g.Nodes[3].Tag = 14 },
		"number":               func(g *impl.Graph) { g.Nodes[0].Vals[1] = num(6) },
		"number of other sign": func(g *impl.Graph) { g.Nodes[0].Vals[1] = num(-5) },
		"number to bits":       func(g *impl.Graph) { g.Nodes[0].Vals[1] = bits(5) },
		"bits":                 func(g *impl.Graph) { g.Nodes[1].Vals[2] = bits(4) },
		"bits to number":       func(g *impl.Graph) { g.Nodes[1].Vals[2] = num(5) },
		"text":                 func(g *impl.Graph) { g.Nodes[0].Vals[3] = txt("weft") },
		"shorter text":         func(g *impl.Graph) { g.Nodes[0].Vals[3] = txt("war") },
		"nothing to number 0":  func(g *impl.Graph) { g.Nodes[1].Vals[1] = num(0) },
		"nothing to bits 0":    func(g *impl.Graph) { g.Nodes[1].Vals[1] = bits(0) },
		"nothing to no text":   func(g *impl.Graph) { g.Nodes[1].Vals[1] = txt("") },
		"nothing to node 0":    func(g *impl.Graph) { g.Nodes[1].Vals[1] = to(0) },
		"a value more":         func(g *impl.Graph) { g.Nodes[3].Vals = append(g.Nodes[3].Vals, nilVal()) },
		"a value less":         func(g *impl.Graph) { g.Nodes[1].Vals = g.Nodes[1].Vals[:2] },
		"values in turn":       func(g *impl.Graph) { v := g.Nodes[1].Vals; v[1], v[2] = v[2], v[1] },
		"leading elsewhere":    func(g *impl.Graph) { g.Nodes[2].Vals[0] = to(1) },
		"ring cut":             func(g *impl.Graph) { g.Nodes[3].Vals[0] = to(4) },
		"a node less is met":   func(g *impl.Graph) { g.Nodes[2].Vals[1] = to(2) },
	} {
		g := loom()
		change(&g)
		if !impl.GraphOk(g) {
			t.Fatalf("%s: the change should leave it well made", name)
		}
		askAlike(t, name, loom(), g, false)
		askAlike(t, name+", with itself", g, copyOf(g), true)
	}
}

// Graphs that read the same to whoever only follows values, but have another shape.
func TestSameReadingOtherShape(t *testing.T) {
	one := graph(to(0), node(1, to(0)))
	two := graph(to(0), node(1, to(1)), node(1, to(0)))
	three := graph(to(0), node(1, to(1)), node(1, to(2)), node(1, to(0)))
	in := graph(to(0), node(1, to(1)), node(1, to(1)))
	rings := []impl.Graph{one, two, three, in}
	for i, a := range rings {
		for k, b := range rings {
			askAlike(t, "rings", a, b, i == k)
		}
	}
	askAlike(t, "one node twice, two nodes",
		graph(to(0), node(1, to(1), to(1)), node(2)),
		graph(to(0), node(1, to(1), to(2)), node(2), node(2)), false)
	askAlike(t, "two nodes in turn",
		graph(to(0), node(1, to(1), to(2)), node(2), node(3)),
		graph(to(0), node(1, to(2), to(1)), node(2), node(3)), false)
	askAlike(t, "one is the beginning of the other",
		graph(to(0), node(1, to(1)), node(2)),
		graph(to(0), node(1, to(1)), node(2, to(2)), node(3)), false)
}

// walkedAlike tells by a walk through both graphs at once, with no form made.
func walkedAlike(a, b impl.Graph) bool {
	pairs := map[[2]int]int{}
	left, right := map[int]int{}, map[int]int{}
	var walk func(v, w impl.Val) bool
	walk = func(v, w impl.Val) bool {
		if v.Kind != impl.VNode || w.Kind != impl.VNode {
			return v == w
		}
		if _, ok := pairs[[2]int{v.Node, w.Node}]; ok {
			return true
		}
		left[v.Node]++
		right[w.Node]++
		if left[v.Node] > 1 || right[w.Node] > 1 {
			return false
		}
		pairs[[2]int{v.Node, w.Node}] = 1
		n, m := a.Nodes[v.Node], b.Nodes[w.Node]
		if n.Tag != m.Tag || len(n.Vals) != len(m.Vals) {
			return false
		}
		for i := range n.Vals {
			if !walk(n.Vals[i], m.Vals[i]) {
				return false
			}
		}
		return true
	}
	return walk(a.Root, b.Root)
}

func TestAlikeOfManyGraphs(t *testing.T) {
	rnd := rand.New(rand.NewSource(2))
	var all []impl.Graph
	for len(all) < 400 {
		g := anyGraph(rnd)
		if g.Root.Kind == impl.VNode || rnd.Intn(8) == 0 {
			all = append(all, g)
		}
	}
	yes := 0
	for i, a := range all {
		for k, b := range all {
			want := walkedAlike(a, b)
			if impl.Alike(a, b) != want {
				t.Fatalf("Alike is not %v: %v and %v", want, a, b)
			}
			if want && i != k {
				yes++
			}
		}
	}
	if yes == 0 {
		t.Error("no two of the graphs are alike: this asks nothing")
	}
}

package tests

import (
	"math/rand"
	"reflect"
	"strings"
	"testing"

	"loop.example/chest/impl"
)

// chain is n nodes, each leading to the one before it, the root to the last.
func chain(n int) impl.Graph {
	g := graph(to(n-1), node(0))
	for i := 1; i < n; i++ {
		g.Nodes = append(g.Nodes, node(i%impl.MaxTag, to(i-1)))
	}
	return g
}

// anyGraph is a well made graph; rnd begins at a fixed seed, so it is the same in each run.
func anyGraph(rnd *rand.Rand) impl.Graph {
	n := rnd.Intn(9)
	anyVal := func() impl.Val {
		switch k := rnd.Intn(8); {
		case k == 0:
			return nilVal()
		case k == 1:
			return num(rnd.Int63n(3) - 1)
		case k == 2:
			return bits(rnd.Int63n(3) - 1)
		case k == 3:
			return txt(strings.Repeat("a", rnd.Intn(3)))
		case n > 0:
			return to(rnd.Intn(n))
		}
		return nilVal()
	}
	g := impl.Graph{Root: anyVal()}
	for i := 0; i < n; i++ {
		m := impl.Node{Tag: rnd.Intn(2)}
		for k := rnd.Intn(4); k > 0; k-- {
			m.Vals = append(m.Vals, anyVal())
		}
		g.Nodes = append(g.Nodes, m)
	}
	return g
}

// askForm holds Canon of g against what chapter 1 asks of it, without numbering anything itself: read in order, the places of the form come up as 0, 1, 2 .., every node comes up, and what stands at each place is what stands in g.
func askForm(t *testing.T, name string, g impl.Graph) {
	t.Helper()
	c := impl.Canon(g)
	var from []int // from[i]: where node i of the form stands in g
	pair := func(v, w impl.Val) {
		if v.Kind != impl.VNode || w.Kind != impl.VNode {
			if v != w {
				t.Fatalf("%s: %v became %v", name, v, w)
			}
			return
		}
		if w.Node == len(from) {
			for _, f := range from {
				if f == v.Node {
					t.Fatalf("%s: node %d is there twice", name, f)
				}
			}
			from = append(from, v.Node)
		}
		if w.Node < 0 || w.Node >= len(from) || from[w.Node] != v.Node || w.Num != 0 || w.Text != "" {
			t.Fatalf("%s: %v became %v", name, v, w)
		}
	}
	pair(g.Root, c.Root)
	for i := 0; i < len(from); i++ {
		if i >= len(c.Nodes) {
			t.Fatalf("%s: the form has %d nodes", name, len(c.Nodes))
		}
		a, b := g.Nodes[from[i]], c.Nodes[i]
		if a.Tag != b.Tag || len(a.Vals) != len(b.Vals) {
			t.Fatalf("%s: %v became %v", name, a, b)
		}
		for k := range a.Vals {
			pair(a.Vals[k], b.Vals[k])
		}
	}
	if len(c.Nodes) != len(from) {
		t.Errorf("%s: the form has %d nodes, %d are met", name, len(c.Nodes), len(from))
	}
	if !same(impl.Canon(c), c) {
		t.Errorf("%s: the form of the form is another", name)
	}
}

var forms = []struct {
	name       string
	given, has impl.Graph
}{
	{"the zero value", impl.Graph{}, impl.Graph{}},
	{"an empty list", impl.Graph{Nodes: []impl.Node{}}, impl.Graph{}},
	{"one node", graph(to(0), node(5)), graph(to(0), node(5))},
	{"empty values", graph(to(0), impl.Node{Tag: 5, Vals: []impl.Val{}}), graph(to(0), node(5))},
	{"a root that is nothing", graph(nilVal(), node(1, to(0))), graph(nilVal())},
	{"a root that is a number", graph(num(-7), node(1, to(0)), node(2)), graph(num(-7))},
	{"a root that is bits", graph(bits(-7), node(1)), graph(bits(-7))},
	{"a root that is a text", graph(txt("top"), node(1)), graph(txt("top"))},
	{"a root that is no node, no nodes", graph(txt("top")), graph(txt("top"))},
	{"a ring of one", graph(to(1), node(9), node(1, to(1))), graph(to(0), node(1, to(0)))},
	{"a ring of three, against the order",
		graph(to(1), node(10, to(2)), node(11, to(0)), node(12, to(1))),
		graph(to(0), node(11, to(1)), node(10, to(2)), node(12, to(0)))},
	{"a way into a ring",
		graph(to(2), node(10, to(1)), node(11, to(0)), node(12, to(1))),
		graph(to(0), node(12, to(1)), node(11, to(2)), node(10, to(1)))},
	{"two ways to one node",
		graph(to(2), node(10), node(11, to(0)), node(12, to(1), to(0), to(1))),
		graph(to(0), node(12, to(1), to(2), to(1)), node(11, to(2)), node(10))},
	// A walk into the depth would meet 13 second behind the root's first value.
	{"the new list is gone through, not the depth",
		graph(to(0), node(10, to(2), to(1)), node(11), node(12, to(3)), node(13)),
		graph(to(0), node(10, to(1), to(2)), node(12, to(3)), node(11), node(13))},
	{"nodes that are not met lead to those that are",
		graph(to(3), node(10, to(1), to(3)), node(11, to(0)), node(12, to(4)), node(13, to(4)), node(14)),
		graph(to(0), node(13, to(1)), node(14))},
	{"values of all kinds",
		graph(to(1), node(2), node(1, nilVal(), num(-1), bits(-1), txt(""), txt("\xff\x00"), to(0), to(1), num(0), bits(0))),
		graph(to(0), node(1, nilVal(), num(-1), bits(-1), txt(""), txt("\xff\x00"), to(1), to(0), num(0), bits(0)), node(2))},
	{"nodes that hold the same stay two",
		graph(to(0), node(1, to(2), to(1)), node(4, num(3)), node(4, num(3))),
		graph(to(0), node(1, to(1), to(2)), node(4, num(3)), node(4, num(3)))},
}

func TestForms(t *testing.T) {
	for _, f := range forms {
		before := copyOf(f.given)
		c := impl.Canon(f.given)
		if !same(c, f.has) {
			t.Errorf("%s: %v", f.name, c)
		}
		if !same(before, f.given) {
			t.Errorf("%s: the argument was changed", f.name)
		}
		if !same(impl.Canon(f.given), c) {
			t.Errorf("%s: another answer to the same argument", f.name)
		}
		askForm(t, f.name, f.given)
		askApart(t, c, f.given)
		if !impl.Alike(f.given, f.has) || !impl.Alike(f.has, f.given) {
			t.Errorf("%s: not alike to its form", f.name)
		}
	}
}

func TestFormOfTheLongestChain(t *testing.T) {
	g := chain(impl.MaxNodes)
	c := impl.Canon(g)
	askForm(t, "chain", g)
	if len(c.Nodes) != impl.MaxNodes || c.Nodes[299].Tag != 0 || c.Nodes[0].Tag != 299 {
		t.Errorf("%d nodes", len(c.Nodes))
	}
	g.Nodes[0].Vals = []impl.Val{to(impl.MaxNodes - 1)}
	askForm(t, "ring", g)
	g.Root = to(150)
	askForm(t, "ring, begun elsewhere", g)
	g.Nodes[0].Vals = nil
	if c := impl.Canon(g); len(c.Nodes) != 151 {
		t.Errorf("half a chain: %d nodes", len(c.Nodes))
	}
}

func TestFormsOfManyGraphs(t *testing.T) {
	rnd := rand.New(rand.NewSource(1))
	for i := 0; i < 5000; i++ {
		g := anyGraph(rnd)
		before := copyOf(g)
		askForm(t, "any", g)
		c := impl.Canon(g)
		askApart(t, c, g)
		if !impl.Alike(g, c) || !impl.Alike(c, g) {
			t.Fatalf("not alike to its form: %v", g)
		}
		order := rnd.Perm(len(g.Nodes))
		if h := renumbered(g, order); !same(impl.Canon(h), c) || !impl.Alike(g, h) || !impl.Alike(h, g) {
			t.Fatalf("numbered anew by %v it is another: %v", order, g)
		}
		if !same(g, before) {
			t.Fatalf("the argument was changed: %v", before)
		}
	}
}

// One fault anywhere, be it in a node that nothing leads to, and there is no form.
func TestNoForm(t *testing.T) {
	for _, f := range []impl.Graph{
		graph(to(2), node(1), node(2)),
		graph(to(0), node(1), node(1001)),
		graph(to(0), node(1), node(1, to(2))),
		graph(num(4), node(1, impl.Val{Kind: 9})),
		{Root: num(4), Nodes: make([]impl.Node, 301)},
	} {
		if c := impl.Canon(f); !reflect.DeepEqual(c, impl.Graph{}) {
			t.Errorf("%v", c)
		}
	}
}

// What is written into an answer is seen in nothing else: not in the argument, not in the next answer.
func TestAnswersAreNewMemory(t *testing.T) {
	shared := []impl.Val{num(1), txt(strings.Repeat("z", 40)), to(1)}
	g := graph(to(0), impl.Node{Tag: 1, Vals: shared}, impl.Node{Tag: 2, Vals: shared})
	before := copyOf(g)
	c := impl.Canon(g)
	kept := copyOf(c)
	askApart(t, c, g)
	askApart(t, impl.Canon(c), c)
	askApart(t, impl.Canon(g), c)
	for i := range c.Nodes {
		c.Nodes[i].Tag = 77
		for k := range c.Nodes[i].Vals {
			c.Nodes[i].Vals[k] = nilVal()
		}
	}
	if !same(g, before) || !same(impl.Canon(g), kept) {
		t.Error("writing into an answer is seen elsewhere")
	}
}

// Lists with room behind them: nothing is written there either.
func TestNothingIsWrittenBehindAnArgument(t *testing.T) {
	vals := []impl.Val{to(1), num(5), num(6)}
	nodes := []impl.Node{{Tag: 1, Vals: vals[:1]}, node(2), node(3), node(4)}
	g := impl.Graph{Root: to(0), Nodes: nodes[:2]}
	impl.GraphOk(g)
	impl.Canon(g)
	impl.Alike(g, g)
	if vals[1] != num(5) || vals[2] != num(6) || nodes[2].Tag != 3 || nodes[3].Tag != 4 || len(nodes[2].Vals) != 0 {
		t.Error("written behind an argument")
	}
}

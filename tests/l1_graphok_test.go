package tests

import (
	"math"
	"reflect"
	"strings"
	"testing"

	"loop.example/chest/impl"
)

// places are the places of a graph where a value may stand: Root, a node that is met, and one that is not.
var places = []struct {
	name string
	with func(v impl.Val) impl.Graph
}{
	{"root", func(v impl.Val) impl.Graph { return graph(v, node(1), node(2), node(3)) }},
	{"met", func(v impl.Val) impl.Graph { return graph(to(0), node(1, num(4), v), node(2), node(3)) }},
	{"not met", func(v impl.Val) impl.Graph { return graph(to(0), node(1), node(2, v, num(4)), node(3)) }},
	{"last", func(v impl.Val) impl.Graph { return graph(to(0), node(1), node(2), node(3, num(4), num(5), v)) }},
}

// askWellMade asks all three functions whether a graph is well made.
func askWellMade(t *testing.T, name string, g impl.Graph, want bool) {
	t.Helper()
	before := copyOf(g)
	if got := impl.GraphOk(g); got != want {
		t.Errorf("%s: GraphOk is %v", name, got)
	}
	if got := impl.Alike(g, g); got != want {
		t.Errorf("%s: Alike with itself is %v", name, got)
	}
	c := impl.Canon(g)
	if !want && !reflect.DeepEqual(c, impl.Graph{}) {
		t.Errorf("%s: Canon is %v, not the zero value", name, c)
	}
	if want && c.Root.Kind != g.Root.Kind {
		t.Errorf("%s: Canon has the root %v", name, c.Root)
	}
	well := graph(to(0), node(1))
	if !want && (impl.Alike(g, well) || impl.Alike(well, g) || impl.Alike(g, impl.Graph{}) || impl.Alike(impl.Graph{}, g)) {
		t.Errorf("%s: alike to a graph that is well made", name)
	}
	if !same(g, before) {
		t.Errorf("%s: the argument was changed", name)
	}
}

func TestValues(t *testing.T) {
	const low, high = math.MinInt64, math.MaxInt64
	cases := []struct {
		name string
		v    impl.Val
		want bool
	}{
		{"nothing", nilVal(), true},
		{"number 0", num(0), true},
		{"number below 0", num(-1), true},
		{"lowest number", num(low), true},
		{"highest number", num(high), true},
		{"bits 0", bits(0), true},
		{"bits below 0", bits(-1), true},
		{"lowest bits", bits(low), true},
		{"highest bits", bits(high), true},
		{"empty text", txt(""), true},
		{"text", txt("heddle"), true},
		{"text that is no UTF-8", txt("\xff\x00\xfe"), true},
		{"text at the limit", txt(strings.Repeat("x", impl.MaxText)), true},
		{"text beyond the limit", txt(strings.Repeat("x", impl.MaxText+1)), false},
		{"text with 1000 bytes in 500 letters", txt(strings.Repeat("é", 500)), true},
		{"text with 1002 bytes in 501 letters", txt(strings.Repeat("é", 501)), false},
		{"first place", to(0), true},
		{"last place", to(2), true},
		{"place at the number of nodes", to(3), false},
		{"place below 0", to(-1), false},
		{"lowest place", to(low), false},
		{"highest place", to(high), false},
		{"Kind below 0", impl.Val{Kind: -1}, false},
		{"Kind beyond the last", impl.Val{Kind: 5}, false},
		{"lowest Kind", impl.Val{Kind: low}, false},
		{"highest Kind", impl.Val{Kind: high}, false},
		{"Kind 256 + VNum", impl.Val{Kind: 257, Num: 1}, false},
		{"Kind 2^32 + VNum", impl.Val{Kind: 1<<32 + 1, Num: 1}, false},
	}
	for _, c := range cases {
		for _, p := range places {
			askWellMade(t, c.name+", "+p.name, p.with(c.v), c.want)
		}
	}
}

func TestFieldsThatAreNotNamed(t *testing.T) {
	kinds := []struct {
		name              string
		v                 impl.Val
		num, text, placed bool
	}{
		{"nothing", nilVal(), false, false, false},
		{"number", num(3), true, false, false},
		{"number 0", num(0), true, false, false},
		{"bits", bits(3), true, false, false},
		{"bits 0", bits(0), true, false, false},
		{"text", txt("t"), false, true, false},
		{"empty text", txt(""), false, true, false},
		{"node", to(1), false, false, true},
		{"node 0", to(0), false, false, true},
	}
	for _, k := range kinds {
		for _, p := range places {
			for _, n := range []int64{1, -1, math.MinInt64} {
				v := k.v
				v.Num = n
				askWellMade(t, k.name+" with Num, "+p.name, p.with(v), k.num)
			}
			for _, s := range []string{"x", "\x00"} {
				v := k.v
				v.Text = s
				askWellMade(t, k.name+" with Text, "+p.name, p.with(v), k.text)
			}
			v := k.v
			v.Node = 2
			askWellMade(t, k.name+" with Node, "+p.name, p.with(v), k.placed)
			v.Node = -1
			askWellMade(t, k.name+" with Node below 0, "+p.name, p.with(v), false)
		}
	}
}

func TestTags(t *testing.T) {
	for _, c := range []struct {
		tag  int
		want bool
	}{{0, true}, {1, true}, {impl.MaxTag, true}, {impl.MaxTag + 1, false}, {-1, false}, {math.MinInt, false}, {math.MaxInt, false}} {
		askWellMade(t, "Tag of a node that is met", graph(to(0), node(c.tag), node(1)), c.want)
		askWellMade(t, "Tag of a node that is not met", graph(to(0), node(1), node(c.tag)), c.want)
		askWellMade(t, "Tag, the root no node", graph(num(1), node(1), node(c.tag)), c.want)
	}
}

func TestNumberOfValues(t *testing.T) {
	for _, c := range []struct {
		n    int
		want bool
	}{{0, true}, {1, true}, {impl.MaxVals, true}, {impl.MaxVals + 1, false}, {5000, false}} {
		askWellMade(t, "values of a node that is met", graph(to(0), node(1, make([]impl.Val, c.n)...), node(2)), c.want)
		askWellMade(t, "values of a node that is not met", graph(to(0), node(1), node(2, make([]impl.Val, c.n)...)), c.want)
	}
}

func TestNumberOfNodes(t *testing.T) {
	for _, c := range []struct {
		n    int
		want bool
	}{{0, true}, {1, true}, {impl.MaxNodes, true}, {impl.MaxNodes + 1, false}, {5000, false}} {
		askWellMade(t, "nodes that are not met", impl.Graph{Nodes: make([]impl.Node, c.n)}, c.want)
		if c.n > 0 {
			askWellMade(t, "nodes that are met", chain(c.n), c.want)
		}
	}
}

// All limits at once: each is met exactly, and a place is asked against the number of nodes that there are.
func TestAllLimitsMet(t *testing.T) {
	g := impl.Graph{Root: to(impl.MaxNodes - 1)}
	for i := 0; i < impl.MaxNodes; i++ {
		n := node(impl.MaxTag)
		for k := 0; k < impl.MaxVals; k++ {
			n.Vals = append(n.Vals, to((i*impl.MaxVals+k)%impl.MaxNodes))
		}
		n.Vals[0] = txt(strings.Repeat("y", impl.MaxText))
		g.Nodes = append(g.Nodes, n)
	}
	askWellMade(t, "all limits met", g, true)
	askForm(t, "all limits met", g)
	g.Nodes[0].Vals[99] = to(impl.MaxNodes)
	askWellMade(t, "a place at the number of nodes", g, false)
}

func TestNoNodes(t *testing.T) {
	askWellMade(t, "the zero value", impl.Graph{}, true)
	askWellMade(t, "an empty list", impl.Graph{Nodes: []impl.Node{}}, true)
	askWellMade(t, "a text without nodes", graph(txt("t")), true)
	askWellMade(t, "place 0 without nodes", graph(to(0)), false)
	askWellMade(t, "place -1 without nodes", graph(to(-1)), false)
}

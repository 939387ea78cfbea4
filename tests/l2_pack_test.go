package tests

import (
	"bytes"
	"encoding/binary"
	"math"
	"math/rand"
	"strings"
	"testing"

	"loop.example/chest/impl"
)

// bodyBy is a graph's image ahead of the sum, its nodes in the order in which they stand: made by the library's numbers, and for graphs that are not well made too.
func bodyBy(g impl.Graph) []byte {
	b := []byte("H1")
	count := func(n int) { b = binary.AppendUvarint(b, uint64(n)) }
	val := func(v impl.Val) {
		b = append(b, byte(v.Kind))
		switch v.Kind {
		case impl.VNum:
			b = binary.AppendVarint(b, v.Num)
		case impl.VBits:
			b = binary.LittleEndian.AppendUint64(b, uint64(v.Num))
		case impl.VText:
			count(len(v.Text))
			b = append(b, v.Text...)
		case impl.VNode:
			count(v.Node)
		}
	}
	count(len(g.Nodes))
	val(g.Root)
	for _, n := range g.Nodes {
		count(n.Tag)
		count(len(n.Vals))
		for _, v := range n.Vals {
			val(v)
		}
	}
	return b
}

// sealed is a body with the sum behind it that it ought to have.
func sealed(body []byte) []byte {
	return binary.LittleEndian.AppendUint64(bytes.Clone(body), uint64(sumBy(body)))
}

func stretchesOf(name string, g impl.Graph) []stretch {
	return append(listsOf(name, g), textsOf(name, g)...)
}

func askNoneMeets(t *testing.T, one stretch, others []stretch) {
	t.Helper()
	for _, o := range others {
		if overlap(one, o) {
			t.Errorf("%s shares memory with %s", one.name, o.name)
		}
	}
}

// askImage asks that the image of g is made by its form, that it is read as that form, and that nothing is shared or changed.
func askImage(t *testing.T, name string, g impl.Graph) {
	t.Helper()
	before := copyOf(g)
	b := impl.Pack(g)
	form := impl.Canon(g)
	if want := sealed(bodyBy(form)); !bytes.Equal(b, want) {
		t.Fatalf("%s: the image is %v, not %v", name, b, want)
	}
	if !bytes.Equal(impl.Pack(g), b) {
		t.Errorf("%s: another image of the same graph", name)
	}
	image := bytes.Clone(b)
	u := impl.Unpack(b)
	if !u.Ok || !same(u.Graph, form) {
		t.Fatalf("%s: read as %v", name, u)
	}
	if v := impl.Unpack(b); !v.Ok || !same(v.Graph, form) {
		t.Errorf("%s: another answer to the same image", name)
	}
	if !bytes.Equal(b, image) || !same(g, before) {
		t.Errorf("%s: an argument was changed", name)
	}
	askNoneMeets(t, stretchOf("the image", b), append(stretchesOf("the graph", g), stretchesOf("the graph read", u.Graph)...))
	askNoneMeets(t, stretchOf("the image", b), []stretch{stretchOf("the next image", impl.Pack(g))})
	// Texts are left out here: Go has one stretch of memory for all texts of the same one byte.
	for _, l := range listsOf("the graph read", u.Graph) {
		askNoneMeets(t, l, append(listsOf("the graph", g), listsOf("the graph read next", impl.Unpack(b).Graph)...))
	}
	askListsApart(t, u.Graph)
}

// askNoImage asks that there is no image of g.
func askNoImage(t *testing.T, name string, g impl.Graph) {
	t.Helper()
	before := copyOf(g)
	if b := impl.Pack(g); len(b) != 0 {
		t.Errorf("%s: an image of %d bytes", name, len(b))
	}
	if !same(g, before) {
		t.Errorf("%s: the argument was changed", name)
	}
}

func TestImagesByteByByte(t *testing.T) {
	for _, c := range []struct {
		name string
		g    impl.Graph
		want []byte
	}{
		{"the zero value", impl.Graph{}, []byte{'H', '1', 0, 0}},
		{"number 0", graph(num(0)), []byte{'H', '1', 0, 1, 0}},
		{"number 1", graph(num(1)), []byte{'H', '1', 0, 1, 2}},
		{"number -1", graph(num(-1)), []byte{'H', '1', 0, 1, 1}},
		{"number 63", graph(num(63)), []byte{'H', '1', 0, 1, 126}},
		{"number -64", graph(num(-64)), []byte{'H', '1', 0, 1, 127}},
		{"number 64", graph(num(64)), []byte{'H', '1', 0, 1, 128, 1}},
		{"number -65", graph(num(-65)), []byte{'H', '1', 0, 1, 129, 1}},
		{"number 8191", graph(num(8191)), []byte{'H', '1', 0, 1, 254, 127}},
		{"number -8192", graph(num(-8192)), []byte{'H', '1', 0, 1, 255, 127}},
		{"number 8192", graph(num(8192)), []byte{'H', '1', 0, 1, 128, 128, 1}},
		{"the greatest number", graph(num(math.MaxInt64)), []byte{'H', '1', 0, 1, 254, 255, 255, 255, 255, 255, 255, 255, 255, 1}},
		{"the least number", graph(num(math.MinInt64)), []byte{'H', '1', 0, 1, 255, 255, 255, 255, 255, 255, 255, 255, 255, 1}},
		{"bits 0", graph(bits(0)), []byte{'H', '1', 0, 2, 0, 0, 0, 0, 0, 0, 0, 0}},
		{"bits of eight bytes", graph(bits(0x0807060504030201)), []byte{'H', '1', 0, 2, 1, 2, 3, 4, 5, 6, 7, 8}},
		{"the least bits", graph(bits(math.MinInt64)), []byte{'H', '1', 0, 2, 0, 0, 0, 0, 0, 0, 0, 128}},
		{"all bits", graph(bits(-1)), []byte{'H', '1', 0, 2, 255, 255, 255, 255, 255, 255, 255, 255}},
		{"an empty text", graph(txt("")), []byte{'H', '1', 0, 3, 0}},
		{"a text", graph(txt("a\x00\xff")), []byte{'H', '1', 0, 3, 3, 'a', 0, 255}},
		{"a node", graph(to(0), node(5)), []byte{'H', '1', 1, 4, 0, 5, 0}},
		{"Tag 127", graph(to(0), node(127)), []byte{'H', '1', 1, 4, 0, 127, 0}},
		{"Tag 128", graph(to(0), node(128)), []byte{'H', '1', 1, 4, 0, 128, 1, 0}},
		{"Tag 1000", graph(to(0), node(1000)), []byte{'H', '1', 1, 4, 0, 232, 7, 0}},
		{"a ring that stands against the order",
			graph(to(1), node(10, to(2)), node(11, num(-2), to(0)), node(12, to(1), nilVal())),
			[]byte{'H', '1', 3, 4, 0, 11, 2, 1, 3, 4, 1, 10, 1, 4, 2, 12, 2, 4, 0, 0}},
		{"nodes that nothing leads to", graph(num(3), node(1, to(0)), node(2, txt("t"))), []byte{'H', '1', 0, 1, 6}},
	} {
		if got, want := impl.Pack(c.g), sealed(c.want); !bytes.Equal(got, want) {
			t.Errorf("%s: %v, not %v", c.name, got, want)
		}
		askImage(t, c.name, c.g)
	}
}

func TestImagesOfForms(t *testing.T) {
	for _, f := range forms {
		askImage(t, f.name, f.given)
		if !bytes.Equal(impl.Pack(f.given), impl.Pack(f.has)) {
			t.Errorf("%s: its form has another image", f.name)
		}
	}
}

// Numbers around each bit, the seventh ones among them.
func TestImagesOfNumbers(t *testing.T) {
	for k := 0; k < 64; k++ {
		for _, n := range []int64{1<<k - 1, 1 << k, 1<<k + 1, -1 << k, -1<<k - 1, -1<<k + 1} {
			askImage(t, "a number", graph(num(n)))
			askImage(t, "bits", graph(bits(n)))
			askImage(t, "both in a node", graph(to(0), node(1, num(n), bits(n), num(n))))
		}
	}
	// A number of k bytes at most, and the one behind it.
	for k := 1; k < 10; k++ {
		last := int64(-1) << (7*k - 1)
		for n, want := range map[int64]int{last: k, -last - 1: k, -last: k + 1, last - 1: k + 1} {
			if got := len(impl.Pack(graph(num(n)))) - len(impl.Pack(impl.Graph{})); got != want {
				t.Errorf("%d: in %d bytes", n, got)
			}
		}
	}
}

func TestImagesOfBitsWithEveryByte(t *testing.T) {
	for at := 0; at < 64; at += 8 {
		for x := uint64(0); x < 256; x++ {
			askImage(t, "bits", graph(bits(int64(x<<at))))
			askImage(t, "bits among others", graph(bits(int64(x<<at^0x55aa55aa55aa55aa))))
		}
	}
}

func TestImagesOfTexts(t *testing.T) {
	for _, n := range []int{0, 1, 127, 128, 129, 999, impl.MaxText} {
		askImage(t, "a text", graph(txt(strings.Repeat("x", n))))
		askImage(t, "a text in a node", graph(to(0), node(3, txt(strings.Repeat("y", n)), num(1))))
	}
	askNoImage(t, "a text above the limit", graph(txt(strings.Repeat("x", impl.MaxText+1))))
	every := make([]byte, 256)
	for i := range every {
		every[i] = byte(i)
		askImage(t, "a text of one byte", graph(txt(string([]byte{byte(i)}))))
	}
	askImage(t, "every byte", graph(txt(string(every))))
}

func TestImagesAtTheLimitsOfNodes(t *testing.T) {
	for _, tag := range []int{0, 1, 127, 128, 129, 999, impl.MaxTag} {
		askImage(t, "Tag", graph(to(0), node(tag), node(1)))
	}
	for _, n := range []int{0, 1, 2, 99, impl.MaxVals} {
		askImage(t, "values", graph(to(0), node(4, make([]impl.Val, n)...)))
	}
	for _, n := range []int{1, 2, 127, 128, 129, 299, impl.MaxNodes} {
		g := chain(n)
		askImage(t, "a chain", g)
		g.Nodes[0].Vals = []impl.Val{to(n - 1)}
		askImage(t, "a ring", g)
		askImage(t, "nodes that nothing leads to", impl.Graph{Root: num(1), Nodes: g.Nodes})
	}
	askNoImage(t, "Tag above the limit", graph(to(0), node(impl.MaxTag+1)))
	askNoImage(t, "values above the limit", graph(to(0), node(4, make([]impl.Val, impl.MaxVals+1)...)))
	askNoImage(t, "nodes above the limit", chain(impl.MaxNodes+1))
}

// long is a graph whose image has n bytes, if it may: four long texts, and a fifth that fills up.
func long(n int) impl.Graph {
	full := txt(strings.Repeat("l", impl.MaxText))
	g := graph(to(0), node(7, full, full, full, full, txt("")))
	have := len(sealed(bodyBy(g)))
	g.Nodes[0].Vals[4] = txt(strings.Repeat("m", n-have))
	return g
}

func TestTheLongestImage(t *testing.T) {
	for n := impl.MaxImage - 20; n <= impl.MaxImage+20; n++ {
		g := long(n)
		if len(sealed(bodyBy(g))) != n {
			t.Fatal("the test itself is wrong")
		}
		if n > impl.MaxImage {
			askNoImage(t, "above MaxImage", g)
			continue
		}
		askImage(t, "at most MaxImage", g)
		if len(impl.Pack(g)) != n {
			t.Errorf("an image of %d bytes, not %d", len(impl.Pack(g)), n)
		}
	}
	// What nothing leads to takes no room.
	g := long(impl.MaxImage)
	g.Nodes = append(g.Nodes, node(1, txt(strings.Repeat("n", impl.MaxText)), to(0)))
	askImage(t, "at MaxImage, with a node that nothing leads to", g)
	if !bytes.Equal(impl.Pack(g), impl.Pack(long(impl.MaxImage))) {
		t.Error("a node that nothing leads to is in the image")
	}
}

// An image that ends with one value or another has no room for its last bytes.
func TestNoRoomAtAnyValue(t *testing.T) {
	for _, v := range []impl.Val{nilVal(), num(5), num(math.MinInt64), bits(1), txt(""), txt("abcdefghij"), to(0), to(1)} {
		for n := impl.MaxImage - 40; n <= impl.MaxImage; n++ {
			g := long(n)
			g.Nodes[0].Vals = append(g.Nodes[0].Vals, v)
			g.Nodes = append(g.Nodes, node(1000))
			if size := len(sealed(bodyBy(impl.Canon(g)))); size > impl.MaxImage {
				askNoImage(t, "above MaxImage", g)
			} else {
				askImage(t, "at most MaxImage", g)
			}
		}
	}
}

func TestNoImageOfAllLimits(t *testing.T) {
	g := impl.Graph{Root: to(0)}
	full := strings.Repeat("y", impl.MaxText)
	for i := 0; i < impl.MaxNodes; i++ {
		n := node(impl.MaxTag)
		for k := 0; k < impl.MaxVals; k++ {
			n.Vals = append(n.Vals, txt(full))
		}
		n.Vals[0] = to((i + 1) % impl.MaxNodes)
		g.Nodes = append(g.Nodes, n)
	}
	askNoImage(t, "all limits met", g)
	g.Root = txt("short")
	askImage(t, "all limits met, and nothing leads there", g)
}

func TestNoImageOfGraphsThatAreNotWellMade(t *testing.T) {
	for _, v := range []impl.Val{
		{Kind: 5}, {Kind: -1}, {Kind: 256}, {Kind: 257, Num: 1}, {Kind: math.MinInt},
		{Num: 1}, {Text: "x"}, {Node: 1},
		{Kind: impl.VNum, Text: "x"}, {Kind: impl.VNum, Node: 1},
		{Kind: impl.VBits, Text: "x"}, {Kind: impl.VBits, Node: 1},
		{Kind: impl.VText, Num: 1}, {Kind: impl.VText, Node: 1},
		{Kind: impl.VNode, Num: 1}, {Kind: impl.VNode, Text: "x"},
		to(3), to(-1), to(math.MaxInt), to(math.MinInt), txt(strings.Repeat("x", impl.MaxText+1)),
	} {
		for _, p := range places {
			askNoImage(t, p.name, p.with(v))
		}
	}
	for _, tag := range []int{-1, impl.MaxTag + 1, math.MinInt, math.MaxInt} {
		askNoImage(t, "Tag", graph(to(0), node(tag)))
		askNoImage(t, "Tag of a node that is not met", graph(to(0), node(1), node(tag)))
	}
	askNoImage(t, "a root without nodes", graph(to(0)))
	askNoImage(t, "nodes that nothing leads to above the limit", impl.Graph{Nodes: make([]impl.Node, impl.MaxNodes+1)})
	askNoImage(t, "values of a node that is not met", graph(num(1), node(1, make([]impl.Val, impl.MaxVals+1)...)))
}

func TestOneImageForEachNumbering(t *testing.T) {
	for _, f := range forms {
		want := impl.Pack(f.given)
		for _, order := range permutations(len(f.given.Nodes)) {
			if !bytes.Equal(impl.Pack(renumbered(f.given, order)), want) {
				t.Errorf("%s: numbered anew by %v it has another image", f.name, order)
			}
		}
	}
}

// Graphs have the same image if, and only if, they are alike.
func TestImagesOfManyGraphs(t *testing.T) {
	rnd := rand.New(rand.NewSource(3))
	var others []impl.Graph
	for i := 0; i < 3000; i++ {
		g := anyGraph(rnd)
		askImage(t, "any", g)
		if h := renumbered(g, rnd.Perm(len(g.Nodes))); !bytes.Equal(impl.Pack(h), impl.Pack(g)) {
			t.Fatalf("numbered anew it has another image: %v", g)
		}
		h := copyOf(g)
		h.Nodes = append(h.Nodes, node(9, to(len(h.Nodes)), to(0)))
		if !bytes.Equal(impl.Pack(h), impl.Pack(g)) {
			t.Fatalf("a node that nothing leads to changes the image: %v", g)
		}
		for _, o := range others {
			if impl.Alike(o, g) != bytes.Equal(impl.Pack(o), impl.Pack(g)) {
				t.Fatalf("alike, or the same image, but not both: %v, %v", o, g)
			}
		}
		if i%30 == 0 {
			others = append(others, g)
		}
	}
}

func TestImagesWriteNothingBehindAnArgument(t *testing.T) {
	vals := []impl.Val{to(1), num(5), num(6)}
	nodes := []impl.Node{{Tag: 1, Vals: vals[:1]}, node(2), node(3), node(4)}
	b := impl.Pack(impl.Graph{Root: to(0), Nodes: nodes[:2]})
	if vals[1] != num(5) || vals[2] != num(6) || nodes[2].Tag != 3 || nodes[3].Tag != 4 {
		t.Error("Pack wrote behind its argument")
	}
	room := append(bytes.Clone(b), 1, 2, 3)
	if !impl.Unpack(room[:len(b)]).Ok || !bytes.Equal(room[len(b):], []byte{1, 2, 3}) {
		t.Error("Unpack wrote behind its argument, or read there")
	}
}

// What is written into an answer, or into bytes that were read, is seen in nothing else.
func TestImagesAreNewMemory(t *testing.T) {
	g := graph(to(0), node(1, txt("a text that was read"), to(1)), node(2, num(5)))
	b := impl.Pack(g)
	kept := bytes.Clone(b)
	u := impl.Unpack(b)
	clear(b)
	if !same(u.Graph, g) || !bytes.Equal(impl.Pack(g), kept) {
		t.Error("writing into an image is seen elsewhere")
	}
	for i := range u.Graph.Nodes {
		clear(u.Graph.Nodes[i].Vals)
	}
	clear(u.Graph.Nodes)
	if v := impl.Unpack(kept); !v.Ok || !same(v.Graph, g) {
		t.Error("writing into a graph that was read is seen elsewhere")
	}
}

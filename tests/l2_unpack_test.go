package tests

import (
	"bytes"
	"encoding/binary"
	"math"
	"math/rand"
	"reflect"
	"strings"
	"testing"

	"loop.example/chest/impl"
)

// askUnread asks that bytes are read as no graph, and are not changed.
func askUnread(t *testing.T, name string, b []byte) {
	t.Helper()
	before := bytes.Clone(b)
	if u := impl.Unpack(b); !reflect.DeepEqual(u, impl.Unpacked{}) {
		t.Errorf("%s: %v is read as %v", name, b, u)
	}
	if !bytes.Equal(b, before) {
		t.Errorf("%s: the argument was changed", name)
	}
}

// rich has values of every kind, a ring, and a Tag and a number that stand in two bytes.
func rich() impl.Graph {
	return graph(to(0),
		node(300, nilVal(), num(-3), num(64), bits(258), txt("hi"), to(1)),
		node(0, to(0), to(2), txt("")),
		node(1, num(math.MinInt64), to(1)))
}

func TestBytesThatAreNoImage(t *testing.T) {
	askUnread(t, "nil", nil)
	askUnread(t, "nothing", []byte{})
	askUnread(t, "a sum alone", sealed(nil))
	askUnread(t, "a mark alone", []byte("H1"))
	askUnread(t, "a mark and its sum", sealed([]byte("H1")))
	askUnread(t, "zeros", make([]byte, 64))
	askUnread(t, "many zeros", make([]byte, impl.MaxImage))
	askUnread(t, "numbers without end", bytes.Repeat([]byte{255}, impl.MaxImage))
	askUnread(t, "a number without end", sealed(append([]byte("H1"), bytes.Repeat([]byte{128}, 4000)...)))
}

// Each image with a byte left out, added or changed, or cut anywhere, its sum as it was.
func TestImagesThatWereChanged(t *testing.T) {
	for _, f := range append(forms, struct {
		name       string
		given, has impl.Graph
	}{"rich", rich(), rich()}) {
		b := impl.Pack(f.given)
		for i := range b {
			askUnread(t, f.name+", cut", b[:i])
			askUnread(t, f.name+", cut in front", b[i+1:])
			askUnread(t, f.name+", a byte left out", append(bytes.Clone(b[:i]), b[i+1:]...))
			for x := 1; x < 256; x++ {
				c := bytes.Clone(b)
				c[i] ^= byte(x)
				askUnread(t, f.name+", a byte changed", c)
			}
		}
		for i := 0; i <= len(b); i++ {
			for _, x := range []byte{0, 1, 4, 'H', 128, 255} {
				c := append(bytes.Clone(b[:i]), x)
				askUnread(t, f.name+", a byte added", append(c, b[i:]...))
			}
		}
		askUnread(t, f.name+", twice", append(bytes.Clone(b), b...))
		askUnread(t, f.name+", with a second sum", sealed(b))
	}
}

// rules reads a body rule by rule, and makes nothing anew: what chapter 2 says of an image, told a second time.
type rules struct {
	left       []byte
	bad        bool
	nodes, met int
}

func (r *rules) ask(ok bool) {
	if !ok {
		r.bad, r.left = true, nil
	}
}

func (r *rules) number(most uint64) int {
	n, size := binary.Uvarint(r.left)
	r.ask(size == 1 || size > 1 && r.left[size-1] != 0)
	r.ask(n <= most)
	if r.bad {
		return 0
	}
	r.left = r.left[size:]
	return int(n)
}

func (r *rules) skip(n int) {
	r.ask(n <= len(r.left))
	if !r.bad {
		r.left = r.left[n:]
	}
}

func (r *rules) val() {
	r.ask(len(r.left) > 0)
	if r.bad {
		return
	}
	kind := r.left[0]
	r.skip(1)
	switch kind {
	case impl.VNil:
	case impl.VNum:
		r.number(math.MaxUint64)
	case impl.VBits:
		r.skip(8)
	case impl.VText:
		r.skip(r.number(1000))
	case impl.VNode:
		place := r.number(299)
		r.ask(place < r.nodes && place <= r.met)
		if place == r.met {
			r.met++
		}
	default:
		r.ask(false)
	}
}

// isBody says whether a body, its sum behind it, is an image.
func isBody(body []byte) bool {
	r := rules{left: body}
	r.ask(bytes.HasPrefix(body, []byte("H1")) && len(body)+8 <= 4096)
	r.skip(2)
	r.nodes = r.number(300)
	r.val()
	for i := 0; i < r.nodes && !r.bad; i++ {
		r.ask(i < r.met)
		r.number(1000)
		for k := r.number(100); k > 0 && !r.bad; k-- {
			r.val()
		}
	}
	return !r.bad && r.met == r.nodes && len(r.left) == 0
}

// askBody holds what is read of a body with its right sum against the rules; what is read has these bytes as its image.
func askBody(t *testing.T, body []byte) bool {
	t.Helper()
	b := sealed(body)
	u := impl.Unpack(b)
	if u.Ok != isBody(body) {
		t.Fatalf("%v: Ok is %v", body, u.Ok)
	}
	if !u.Ok {
		if !reflect.DeepEqual(u, impl.Unpacked{}) {
			t.Fatalf("%v: not Ok, and a graph: %v", body, u)
		}
		return false
	}
	if !impl.GraphOk(u.Graph) || !same(impl.Canon(u.Graph), u.Graph) || !bytes.Equal(bodyBy(u.Graph), body) || !bytes.Equal(impl.Pack(u.Graph), b) {
		t.Fatalf("%v is read as %v", body, u.Graph)
	}
	return true
}

func TestAllShortBodies(t *testing.T) {
	read, refused := 0, 0
	var grow func(body []byte)
	grow = func(body []byte) {
		if askBody(t, body) {
			read++
		} else {
			refused++
		}
		if len(body) < 2+7 {
			for _, x := range []byte{0, 1, 2, 3, 4, 5, 128} {
				grow(append(body, x))
			}
		}
	}
	grow(append(make([]byte, 0, 16), "H1"...))
	if read < 1000 || refused < 1000 {
		t.Errorf("%d read, %d refused: these say little", read, refused)
	}
}

// Images of any graphs, some bytes of their bodies changed, left out or added, and the sum made anew.
func TestBodiesThatWereChanged(t *testing.T) {
	rnd := rand.New(rand.NewSource(4))
	read, refused := 0, 0
	for i := 0; i < 60000; i++ {
		g := anyGraph(rnd)
		if i%4 == 0 {
			g = rich()
		}
		body := bodyBy(impl.Canon(g))
		for k := rnd.Intn(3); k >= 0; k-- {
			at := rnd.Intn(len(body))
			switch rnd.Intn(4) {
			case 0:
				body[at] = byte(rnd.Intn(6))
			case 1:
				body[at] ^= 1 << rnd.Intn(8)
			case 2:
				body = append(body[:at], body[at+1:]...)
			case 3:
				body = append(body[:at+1], body[at:]...)
			}
		}
		if askBody(t, body) {
			read++
		} else {
			refused++
		}
	}
	if read < 1000 || refused < 1000 {
		t.Errorf("%d read, %d refused: these say little", read, refused)
	}
}

// Graphs that are in no form, or not well made, written as they stand, the sum right.
func TestBodiesOfWrongGraphs(t *testing.T) {
	for _, c := range []struct {
		name string
		g    impl.Graph
	}{
		{"a place at the number of nodes", graph(to(1), node(5))},
		{"a place above the number of nodes", graph(to(7), node(5))},
		{"a place without nodes", graph(to(0))},
		{"a place in a node at the number of nodes", graph(to(0), node(5, to(1)))},
		{"a place at MaxNodes", graph(to(0), node(5, to(impl.MaxNodes)))},
		{"a place that an int cannot hold", graph(to(-1), node(5))},
		{"the root is not the first", graph(to(1), node(5), node(6, to(0)))},
		{"two nodes in the other order", graph(to(0), node(5, to(2), to(1)), node(6), node(7))},
		{"nodes as the depth has them", graph(to(0), node(10, to(1), to(3)), node(12, to(2)), node(13), node(11))},
		{"a node that nothing leads to", graph(to(0), node(5), node(6))},
		{"a node that leads to itself alone", graph(to(0), node(5), node(6, to(1)))},
		{"two that lead to each other alone", graph(to(0), node(5), node(6, to(2)), node(7, to(1)))},
		{"a node behind a root that is none", graph(num(5), node(5))},
		{"a node behind a root that is nothing", graph(nilVal(), node(0))},
		{"a Tag above the limit", graph(to(0), node(impl.MaxTag+1))},
		{"a Tag that an int cannot hold", graph(to(0), node(-1))},
		{"the least Tag", graph(to(0), node(math.MinInt))},
		{"a text above the limit", graph(txt(strings.Repeat("x", impl.MaxText+1)))},
		{"a text above the limit in a node", graph(to(0), node(1, txt(strings.Repeat("x", impl.MaxText+1))))},
		{"values above the limit", graph(to(0), node(1, make([]impl.Val, impl.MaxVals+1)...))},
		{"nodes above the limit", impl.Graph{Root: to(0), Nodes: impl.Canon(chain(impl.MaxNodes)).Nodes}},
		{"a Kind that there is not", graph(impl.Val{Kind: 5})},
		{"a Kind that there is not in a node", graph(to(0), node(1, impl.Val{Kind: 6}))},
		{"the greatest Kind", graph(impl.Val{Kind: 255})},
		{"an image above MaxImage", long(impl.MaxImage + 1)},
		{"an image far above MaxImage", long(impl.MaxImage + 900)},
	} {
		if c.name == "nodes above the limit" {
			c.g.Nodes[impl.MaxNodes-1].Vals = []impl.Val{to(impl.MaxNodes)}
			c.g.Nodes = append(c.g.Nodes, node(1))
		}
		b := sealed(bodyBy(c.g))
		askUnread(t, c.name, b)
		if isBody(b[:len(b)-8]) {
			t.Errorf("%s: the test's own rules let it through", c.name)
		}
	}
	for kind := 5; kind < 256; kind++ {
		askUnread(t, "a Kind that there is not", sealed([]byte{'H', '1', 0, byte(kind)}))
		askUnread(t, "a Kind that there is not, with a number", sealed([]byte{'H', '1', 0, byte(kind), 1}))
	}
}

// more is a number in one byte more than it needs.
func more(n uint64) []byte {
	b := binary.AppendUvarint(nil, n)
	b[len(b)-1] |= 128
	return append(b, 0)
}

func TestNumbersInMoreBytesThanTheyNeed(t *testing.T) {
	join := func(parts ...[]byte) []byte { return sealed(bytes.Join(parts, nil)) }
	h1 := []byte("H1")
	for _, n := range []uint64{0, 1, 5, 127, 128, 300, 1 << 62, math.MaxUint64 >> 1} {
		askUnread(t, "a VNum", join(h1, []byte{0, 1}, more(n)))
		askUnread(t, "a VNum, two more", join(h1, []byte{0, 1}, more(n)[:len(more(n))-1], []byte{128, 0}))
	}
	askUnread(t, "a VNum in eleven bytes", join(h1, []byte{0, 1}, bytes.Repeat([]byte{255}, 9), []byte{129, 0}))
	askUnread(t, "no nodes", join(h1, more(0), []byte{0}))
	askUnread(t, "one node", join(h1, more(1), []byte{4, 0, 5, 0}))
	askUnread(t, "a place", join(h1, []byte{1, 4}, more(0), []byte{5, 0}))
	askUnread(t, "a Tag", join(h1, []byte{1, 4, 0}, more(5), []byte{0}))
	askUnread(t, "a number of values", join(h1, []byte{1, 4, 0, 5}, more(0)))
	askUnread(t, "a number of values, one", join(h1, []byte{1, 4, 0, 5}, more(1), []byte{0}))
	askUnread(t, "the length of a text", join(h1, []byte{0, 3}, more(2), []byte("hi")))
	askUnread(t, "a length of nothing", join(h1, []byte{0, 3}, more(0)))
}

// Ten bytes hold 70 bits: what stands above the 64th is no number, nor is what would be in range without it.
func TestNumbersTooGreat(t *testing.T) {
	seventy := func(low, high byte) []byte {
		return append(append([]byte{low | 128}, bytes.Repeat([]byte{128}, 8)...), high)
	}
	join := func(parts ...[]byte) []byte { return sealed(bytes.Join(parts, nil)) }
	h1 := []byte("H1")
	askBody(t, append([]byte{'H', '1', 0, 1}, seventy(0, 1)...))
	for high := byte(2); high < 128; high++ {
		askUnread(t, "a VNum", join(h1, []byte{0, 1}, seventy(5, high)))
	}
	for _, high := range []byte{1, 2, 64, 127} {
		for _, above := range [][]byte{seventy(1, high), append(seventy(1, high|128), 1), append(seventy(1, 128), 2)} {
			askUnread(t, "a VNum above 64 bits", join(h1, []byte{0, 1}, bytes.Repeat([]byte{128}, 10), []byte{high}))
			askUnread(t, "nodes", join(h1, above, []byte{4, 0, 5, 0}))
			askUnread(t, "a place", join(h1, []byte{1, 4}, above, []byte{5, 0}))
			askUnread(t, "a Tag", join(h1, []byte{1, 4, 0}, above, []byte{0}))
			askUnread(t, "values", join(h1, []byte{1, 4, 0, 5}, above, []byte{0}))
			askUnread(t, "a text", join(h1, []byte{0, 3}, above, []byte("h")))
		}
	}
	for _, n := range []uint64{math.MaxUint64, 1 << 63, 1<<63 - 1, 1 << 32, 1<<32 + 1} {
		much := binary.AppendUvarint(nil, n)
		askUnread(t, "many nodes", join(h1, much, []byte{4, 0, 5, 0}))
		askUnread(t, "a far place", join(h1, []byte{1, 4}, much, []byte{5, 0}))
		askUnread(t, "a great Tag", join(h1, []byte{1, 4, 0}, much, []byte{0}))
		askUnread(t, "many values", join(h1, []byte{1, 4, 0, 5}, much, []byte{0}))
		askUnread(t, "a long text", join(h1, []byte{0, 3}, much, []byte("h")))
	}
}

func TestOtherMarks(t *testing.T) {
	for _, mark := range []string{"", "H", "1", "H2", "h1", "1H", "H\x00", "HH1", "H1H1", " H1"} {
		askUnread(t, "mark "+mark, sealed(append([]byte(mark), 1, 4, 0, 5, 0)))
	}
}

func TestBytesBehindTheEnd(t *testing.T) {
	for _, f := range forms {
		body := bodyBy(impl.Canon(f.given))
		for _, tail := range [][]byte{{0}, {1}, {0, 0}, {5, 0}, body, make([]byte, 100)} {
			askUnread(t, f.name+", ahead of the sum", sealed(append(bytes.Clone(body), tail...)))
			askUnread(t, f.name+", behind the sum", append(sealed(body), tail...))
		}
	}
	askUnread(t, "filled up to MaxImage", append(impl.Pack(rich()), make([]byte, impl.MaxImage-len(impl.Pack(rich())))...))
	// With one byte more it is above MaxImage, whatever stands in it.
	b := impl.Pack(long(impl.MaxImage))
	if !impl.Unpack(b).Ok {
		t.Fatal("an image of MaxImage bytes is not read")
	}
	for x := 0; x < 256; x++ {
		askUnread(t, "a byte behind MaxImage", append(bytes.Clone(b), byte(x)))
	}
	askUnread(t, "a great many bytes", append(bytes.Clone(b), make([]byte, 1<<20)...))
}

func TestOtherSums(t *testing.T) {
	body := bodyBy(rich())
	sum := uint64(sumBy(body))
	for _, wrong := range []uint64{0, 1, ^uint64(0), sum + 1, sum - 1, ^sum, -sum, uint64(sumBy(nil)), uint64(sumBy(body[2:]))} {
		askUnread(t, "another sum", binary.LittleEndian.AppendUint64(bytes.Clone(body), wrong))
	}
	askUnread(t, "the highest byte first", binary.BigEndian.AppendUint64(bytes.Clone(body), sum))
	askUnread(t, "no sum", body)
}

package tests

import (
	"fmt"
	"reflect"
	"runtime"
	"slices"
	"strings"
	"testing"

	"loop.example/chest/impl"
)

// imageBy is a graph's image by the library's numbers.
func imageBy(g impl.Graph) []byte { return sealed(bodyBy(impl.Canon(g))) }

// graphAt is a graph as it is laid down in a slot.
func graphAt(slot, gen int, g impl.Graph) laid { return laid{slot, gen, imageBy(g)} }

// sized is a graph whose image has n bytes; with another number each of its blocks is another. n is at least 17, and at most some 1000.
func sized(n, number int) impl.Graph {
	g := graph(to(0), node(number, txt("")))
	// The length of a text of 128 bytes takes a byte more, so one image is left out; a value more gives that one.
	for _, v := range [][]impl.Val{nil, {nilVal()}} {
		g.Nodes[0].Vals = append([]impl.Val{txt("")}, v...)
		for len(imageBy(g)) < n {
			g.Nodes[0].Vals[0].Text += string(rune('a' + (number+len(g.Nodes[0].Vals[0].Text))%26))
		}
		if len(imageBy(g)) == n {
			return g
		}
	}
	panic(fmt.Sprint("no graph whose image has ", n, " bytes"))
}

func code(n int) impl.Taken { return impl.Taken{Code: n} }

func gen(n int) impl.Taken { return impl.Taken{Gen: n} }

// taken is a graph that is taken up.
func taken(gen int, g impl.Graph) impl.Taken { return impl.Taken{Gen: gen, Graph: impl.Canon(g)} }

func sameTaken(a, b impl.Taken) bool {
	return a.Code == b.Code && a.Gen == b.Gen && same(a.Graph, b.Graph)
}

// takenBy tells again what is taken up, by what is newest.
func takenBy(d impl.Disk) impl.Taken {
	k := newestBy(d)
	if !k.Ok {
		return code(1)
	}
	u := impl.Unpack(k.Bytes)
	if !u.Ok {
		return impl.Taken{Code: 2, Gen: k.Gen}
	}
	return impl.Taken{Gen: k.Gen, Graph: u.Graph}
}

// askTake asks twice what is taken up, in new memory each time, and that the disk stays as it is.
func askTake(t *testing.T, name string, d impl.Disk, want impl.Taken) {
	t.Helper()
	before := copyOfDisk(d)
	first, second := impl.Take(d), impl.Take(d)
	for _, got := range []impl.Taken{first, second} {
		if !sameTaken(got, want) {
			t.Fatalf("%s: taken up is %v, not %v", name, got, want)
		}
	}
	others := append(stretchesOfDisk("the disk", d), listsOf("the next answer", second.Graph)...)
	askAllApart(t, listsOf("the answer", first.Graph), others)
	if !sameDisk(d, before) {
		t.Errorf("%s: the argument was changed: %s", name, difference(d, before))
	}
	runtime.KeepAlive([]impl.Taken{first, second})
}

// askKeep asks twice for the disk on which a graph is laid down, in new memory each time, and that the disk and the graph stay as they are.
func askKeep(t *testing.T, name string, d impl.Disk, g impl.Graph, want impl.Disk) {
	t.Helper()
	before := copyOf(g)
	askDisk(t, name, d, want, func(d impl.Disk) impl.Disk { return impl.Keep(d, g) })
	if !same(g, before) {
		t.Errorf("%s: the graph was changed", name)
	}
	got := impl.Keep(d, g)
	askAllApart(t, stretchesOfDisk("the answer", got), stretchesOf("the graph", g))
	runtime.KeepAlive(got)
}

// badGraphs is graphs that Pack gives nothing for.
func badGraphs() map[string]impl.Graph {
	return map[string]impl.Graph{
		"a Kind that there is not":            graph(impl.Val{Kind: 7}),
		"a root without nodes":                graph(to(0)),
		"a number where there is none":        graph(impl.Val{Num: 1}),
		"a text too long":                     graph(txt(strings.Repeat("x", impl.MaxText+1))),
		"a Tag too great":                     graph(to(0), node(impl.MaxTag+1)),
		"a fault where nothing leads":         graph(num(1), node(1, to(5))),
		"too many values":                     graph(to(0), node(1, make([]impl.Val, impl.MaxVals+1)...)),
		"too many nodes":                      chain(impl.MaxNodes + 1),
		"an image one too long":               long(impl.MaxImage + 1),
		"an image of all that the limits let": graph(to(0), node(1, slices.Repeat([]impl.Val{txt(strings.Repeat("x", impl.MaxText))}, impl.MaxVals)...)),
	}
}

func keepAct(g impl.Graph) impl.Act { return impl.Act{Op: impl.AKeep, Graph: g} }

func cutAct(g impl.Graph, steps int, kept ...bool) impl.Act {
	return impl.Act{Op: impl.ACut, Graph: g, Steps: steps, Kept: kept}
}

func takeAct() impl.Act { return impl.Act{Op: impl.ATake} }

func spoilAct(block, at, xor int) impl.Act {
	return impl.Act{Op: impl.ASpoil, Block: block, Byte: at, Xor: xor}
}

// copyOfAct is the act in new memory, empty lists as nil.
func copyOfAct(a impl.Act) impl.Act {
	a.Graph = copyOf(a.Graph)
	a.Kept = append([]bool(nil), a.Kept...)
	return a
}

func copyOfActs(acts []impl.Act) []impl.Act {
	var out []impl.Act
	for _, a := range acts {
		out = append(out, copyOfAct(a))
	}
	return out
}

func stretchesOfActs(acts []impl.Act) []stretch {
	out := []stretch{stretchOf("the acts", acts)}
	for i, a := range acts {
		out = append(out, stretchesOf(fmt.Sprint("act ", i), a.Graph)...)
		out = append(out, stretchOf(fmt.Sprint("act ", i, ".Kept"), a.Kept))
	}
	return out
}

func listsOfAnswers(name string, answers []impl.Taken) []stretch {
	out := []stretch{stretchOf(name, answers)}
	for i, x := range answers {
		out = append(out, listsOf(fmt.Sprint(name, " ", i), x.Graph)...)
	}
	return out
}

func askAnswers(t *testing.T, name string, got, want []impl.Taken) {
	t.Helper()
	if len(got) != len(want) {
		t.Fatalf("%s: %d answers, not %d", name, len(got), len(want))
	}
	for i := range want {
		if !sameTaken(got[i], want[i]) {
			t.Fatalf("%s: act %d answers %v, not %v", name, i, got[i], want[i])
		}
	}
}

// askPlay asks twice for what acts answer, in new memory each time, and that the acts stay as they are.
func askPlay(t *testing.T, name string, acts []impl.Act, want ...impl.Taken) {
	t.Helper()
	before := copyOfActs(acts)
	first, second := impl.Play(acts), impl.Play(acts)
	askAnswers(t, name, first, want)
	askAnswers(t, name+", again", second, want)
	askAllApart(t, listsOfAnswers("the answers", first), append(stretchesOfActs(acts), listsOfAnswers("the next answers", second)...))
	if !reflect.DeepEqual(copyOfActs(acts), before) {
		t.Errorf("%s: the acts were changed", name)
	}
	runtime.KeepAlive([][]impl.Taken{first, second})
}

// fieldsOf is what the table of the acts names.
var fieldsOf = map[int][]string{
	impl.AKeep: {"Graph"}, impl.ACut: {"Graph", "Steps", "Kept"}, impl.ATake: {}, impl.ASpoil: {"Block", "Byte", "Xor"},
}

// isAct tells again whether an act is as the table says.
func isAct(a impl.Act) bool {
	names, known := fieldsOf[a.Op]
	if !known {
		return false
	}
	all := reflect.ValueOf(copyOfAct(a))
	for i := range all.NumField() {
		name := all.Type().Field(i).Name
		if name != "Op" && !slices.Contains(names, name) && !all.Field(i).IsZero() {
			return false
		}
	}
	if a.Op == impl.ASpoil && (a.Block < 0 || a.Block > 129 || a.Byte < 0 || a.Byte > 63 || a.Xor < 1 || a.Xor > 255) {
		return false
	}
	return a.Steps >= 0 && a.Steps <= 200 && len(a.Kept) <= 200
}

// nextBy is what lays an image down on a disk, nothing when there is no Gen for it.
func nextBy(d impl.Disk, image []byte) []impl.Op {
	k := newestBy(d)
	if k.Gen == impl.MaxGen {
		return nil
	}
	slot := 0
	if k.Ok {
		slot = 1 - k.Slot
	}
	return opsBy(laid{slot, k.Gen + 1, image})
}

// cutBy is the disk on which the first steps of a laying-down are done, and on which the power goes then.
func cutBy(d impl.Disk, g impl.Graph, steps int, kept []bool) impl.Disk {
	ops := nextBy(d, imageBy(g))
	d = behind(d, ops[:min(steps, len(ops))])
	return carriedOut(d, func(i int) bool { return i < len(kept) && kept[i] })
}

// playBy tells again what acts answer, by the chapters before.
func playBy(acts []impl.Act) []impl.Taken {
	d := impl.Blank()
	var out []impl.Taken
	for _, a := range acts {
		var x impl.Taken
		switch {
		case !isAct(a):
			x.Code = 4
		case a.Op == impl.ATake:
			x = takenBy(d)
		case a.Op == impl.ASpoil:
			d = copyOfDisk(d)
			d.Blocks[a.Block][a.Byte] ^= byte(a.Xor)
		case len(impl.Pack(a.Graph)) == 0:
			x.Code = 5
		case a.Op == impl.AKeep:
			d = cutBy(d, a.Graph, 1000, nil)
			x.Gen = newestBy(d).Gen
		default:
			d = cutBy(d, a.Graph, a.Steps, a.Kept)
			x.Gen = newestBy(d).Gen
		}
		out = append(out, x)
	}
	return out
}

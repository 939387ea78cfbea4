package tests

import (
	"fmt"
	"math/rand"
	"reflect"
	"slices"
	"strings"
	"sync"
	"testing"

	"loop.example/chest/impl"
)

// wideGraph has long texts, nodes that share one list of values, and a ring.
func wideGraph() impl.Graph {
	shared := []impl.Val{txt(strings.Repeat("z", 40)), to(1), num(-9), to(0)}
	return graph(to(0), impl.Node{Tag: 1, Vals: shared}, impl.Node{Tag: 2, Vals: shared})
}

// overwrite writes into every list of a graph, up to its capacity.
func overwrite(g impl.Graph) {
	for _, n := range g.Nodes {
		clear(n.Vals[:cap(n.Vals)])
	}
	clear(g.Nodes[:cap(g.Nodes)])
}

func overwriteDisk(d impl.Disk) {
	for _, b := range d.Blocks {
		clear(b[:cap(b)])
	}
	for _, w := range d.Waiting {
		clear(w.Bytes[:cap(w.Bytes)])
	}
	clear(d.Blocks[:cap(d.Blocks)])
	clear(d.Waiting[:cap(d.Waiting)])
}

func TestKeepIsNewMemory(t *testing.T) {
	for _, begin := range lives()[:3] {
		d, g := copyOfDisk(begin), wideGraph()
		first := impl.Keep(d, g)
		want := copyOfDisk(first)
		overwriteDisk(first)
		second := impl.Keep(d, g)
		if !sameDisk(d, begin) || !same(g, wideGraph()) || !sameDisk(second, want) {
			t.Error("writing into the answer is seen elsewhere")
		}
		overwriteDisk(d)
		overwrite(g)
		if !sameDisk(second, want) {
			t.Error("writing into an argument is seen in the answer")
		}
	}
}

func TestTakeIsNewMemory(t *testing.T) {
	for _, d := range []impl.Disk{impl.Keep(impl.Blank(), wideGraph()), diskAwaiting(graphAt(0, 1, wideGraph()))} {
		first := impl.Take(d)
		overwrite(first.Graph)
		second := impl.Take(d)
		if !sameTaken(second, taken(1, wideGraph())) {
			t.Error("writing into the answer is seen elsewhere")
		}
		overwriteDisk(d)
		if !sameTaken(second, taken(1, wideGraph())) {
			t.Error("writing into the disk is seen in the answer")
		}
	}
}

// memoryActs has one graph in many acts, and takes it up again and again.
func memoryActs() []impl.Act {
	g, kept := wideGraph(), []bool{true, false, true}
	return []impl.Act{keepAct(g), takeAct(), takeAct(), cutAct(g, 3, kept...), takeAct(), cutAct(g, 4, kept...), takeAct(), keepAct(g), takeAct(), takeAct()}
}

func TestPlayIsNewMemory(t *testing.T) {
	acts := memoryActs()
	want := playBy(acts)
	askPlay(t, "one graph in many acts", acts, want...)
	texts := stretchesOfActs(acts)
	first := impl.Play(acts)
	for _, x := range first {
		for _, s := range textsOf("the answer", x.Graph) {
			askNoneMeets(t, s, texts)
		}
		overwrite(x.Graph)
	}
	clear(first[:cap(first)])
	second := impl.Play(acts)
	askAnswers(t, "the answers were overwritten", second, want)
	if !reflect.DeepEqual(copyOfActs(acts), copyOfActs(memoryActs())) {
		t.Error("writing into the answers is seen in the acts")
	}
	for _, a := range acts {
		overwrite(a.Graph)
		clear(a.Kept)
	}
	clear(acts)
	askAnswers(t, "the acts were overwritten", second, want)
	// What is written into one answer is seen in no other of the same play.
	third := impl.Play(memoryActs())
	for i := range third {
		overwrite(third[i].Graph)
		askAnswers(t, "the answers before were overwritten", third[i+1:], want[i+1:])
	}
}

// Arguments whose lists lie in one piece of memory, or have room behind them.
func TestTheChestAndLists(t *testing.T) {
	one := impl.Disk{}
	zeros := full(0)
	for range impl.Blocks {
		one.Blocks = append(one.Blocks, zeros)
	}
	askKeep(t, "all blocks are one", one, wideGraph(), impl.Keep(impl.Blank(), wideGraph()))
	askTake(t, "all blocks are one", one, code(1))
	room := make([]byte, 200)
	d := impl.Blank()
	for i := range d.Blocks {
		d.Blocks[i] = append(make([]byte, 0, 200), d.Blocks[i]...)
	}
	d.Blocks[70] = room[:64]
	d.Blocks = append(d.Blocks, full(7))
	vals := []impl.Val{to(1), num(5), num(6)}
	nodes := []impl.Node{{Tag: 1, Vals: vals[:1]}, node(2), node(3), node(4)}
	g := impl.Graph{Root: to(0), Nodes: nodes[:2]}
	small := impl.Disk{Blocks: d.Blocks[:impl.Blocks]}
	next := impl.Keep(small, g)
	askTake(t, "lists with room", next, taken(1, graph(to(0), node(1, to(1)), node(2))))
	acts := []impl.Act{keepAct(g), cutAct(g, 3, []bool{true, true}[:0]...), takeAct(), spoilAct(0, 0, 1)}
	askPlay(t, "acts with room", acts[:2], gen(1), gen(1))
	if !slices.Equal(vals[1:], []impl.Val{num(5), num(6)}) || nodes[2].Tag != 3 || nodes[3].Tag != 4 || acts[3].Xor != 1 || acts[2].Op != impl.ATake {
		t.Error("something was written behind a list")
	}
	if !slices.Equal(room, make([]byte, 200)) || !slices.Equal(d.Blocks[impl.Blocks], full(7)) {
		t.Error("something was written behind a block")
	}
}

// everyCall is each function at several arguments, and what it answers as text.
func everyCall() []func() string {
	var calls []func() string
	add := func(call func() any) {
		calls = append(calls, func() string { return fmt.Sprint(call()) })
	}
	for _, g := range []impl.Graph{{}, rich(), wideGraph(), sized(300, 3), long(impl.MaxImage), long(impl.MaxImage + 1), graph(to(0))} {
		image := impl.Pack(g)
		add(func() any { return impl.GraphOk(g) })
		add(func() any { return impl.Canon(g) })
		add(func() any { return impl.Alike(g, rich()) })
		add(func() any { return impl.Pack(g) })
		add(func() any { return impl.SumOf(image) })
		add(func() any { return impl.Unpack(image) })
		add(func() any {
			return impl.Play([]impl.Act{keepAct(rich()), keepAct(g), takeAct(), cutAct(g, 3, true), takeAct(), spoilAct(1, 1, 1), takeAct()})
		})
		for _, d := range []impl.Disk{impl.Blank(), single(), both(0), both(9), lives()[2], written(), {}} {
			ops := impl.Ops(d, image)
			add(func() any { return impl.Keep(d, g) })
			add(func() any { return impl.Ops(d, image) })
			add(func() any { return impl.Apply(d, ops, len(ops)/2) })
		}
	}
	for _, d := range []impl.Disk{impl.Blank(), both(0), both(9), lives()[2], waitingMany(impl.MaxWaiting), {}} {
		add(func() any { return impl.DiskOk(d) })
		add(func() any { return impl.Put(d, 7, full(7)) })
		add(func() any { return impl.Sync(d) })
		add(func() any { return impl.Read(d, 66) })
		add(func() any { return impl.Crash(d, []bool{false, true, true}) })
		add(func() any { return impl.HeadOf(d, 1) })
		add(func() any { return impl.HeadBlock(impl.HeadOf(d, 1)) })
		add(func() any { return impl.Newest(d) })
		add(func() any { return impl.Take(d) })
	}
	add(func() any { return impl.Blank() })
	return calls
}

// The same argument has the same answer, whatever else was called, in whatever order, and at the same time.
func TestTheSameArgumentHasTheSameAnswer(t *testing.T) {
	calls := everyCall()
	var want []string
	for _, call := range calls {
		want = append(want, call())
	}
	rnd := rand.New(rand.NewSource(61))
	for range 3 {
		for _, i := range rnd.Perm(len(calls)) {
			if calls[i]() != want[i] {
				t.Fatalf("call %d has another answer in another order", i)
			}
		}
	}
	var wg sync.WaitGroup
	for worker := range 4 {
		wg.Go(func() {
			for k := range calls {
				i := (k + worker*31) % len(calls)
				if calls[i]() != want[i] {
					t.Errorf("call %d has another answer beside others", i)
				}
			}
		})
	}
	wg.Wait()
	for i, call := range everyCall() {
		if call() != want[i] {
			t.Fatalf("call %d has another answer to an equal argument", i)
		}
	}
}

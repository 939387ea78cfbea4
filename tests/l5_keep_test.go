package tests

import (
	"fmt"
	"math/rand"
	"testing"

	"loop.example/chest/impl"
)

func TestTheChestsLimits(t *testing.T) {
	if impl.MaxActs != 60 || impl.AKeep != 1 || impl.ACut != 2 || impl.ATake != 3 || impl.ASpoil != 4 {
		t.Error("other numbers than the document's")
	}
}

// chestGraphs is graphs whose images take one block, several, and all of a slot.
func chestGraphs() []impl.Graph {
	graphs := []impl.Graph{rich(), sized(63, 1), sized(64, 2), sized(65, 3), sized(128, 4), sized(129, 5), long(impl.MaxImage), long(4032), long(4033), chain(impl.MaxNodes)}
	for _, f := range forms {
		graphs = append(graphs, f.given)
	}
	return graphs
}

func TestKeepByHand(t *testing.T) {
	first := sealed([]byte{'H', '1', 0, 1, 10})
	want := impl.Blank()
	copy(want.Blocks[2], first)
	want.Blocks[0] = headBy(1, 13, sumBy(first))
	d := impl.Keep(impl.Blank(), graph(num(5)))
	if !sameDisk(d, want) {
		t.Fatal(difference(d, want))
	}
	second := sealed([]byte{'H', '1', 0, 3, 2, 'h', 'i'})
	copy(want.Blocks[66], second)
	want.Blocks[1] = headBy(2, 15, sumBy(second))
	d = impl.Keep(d, graph(txt("hi")))
	if !sameDisk(d, want) {
		t.Fatal(difference(d, want))
	}
	third := sealed([]byte{'H', '1', 0, 0})
	copy(want.Blocks[2], append(third, 0))
	want.Blocks[0] = headBy(3, 12, sumBy(third))
	d = impl.Keep(d, impl.Graph{})
	if !sameDisk(d, want) {
		t.Fatal(difference(d, want))
	}
}

func TestKeep(t *testing.T) {
	spoilt := diskWith(graphAt(0, 8, rich()), graphAt(1, 9, rich()))
	spoilt.Blocks[66][5] ^= 4
	headless := diskWith(graphAt(0, 8, rich()), graphAt(1, 9, rich()))
	headless.Blocks[0][63], headless.Blocks[1][63] = 1, 1
	for _, c := range []struct {
		name      string
		disk      impl.Disk
		slot, gen int
	}{
		{"a blank disk", impl.Blank(), 0, 1},
		{"a disk with something in each block", written(), 0, 1},
		{"behind one", diskWith(graphAt(0, 1, rich())), 1, 2},
		{"behind two", diskWith(graphAt(0, 1, rich()), graphAt(1, 2, long(impl.MaxImage))), 0, 3},
		{"behind three", diskWith(graphAt(0, 3, long(4040)), graphAt(1, 2, graph(num(1)))), 1, 4},
		{"slot 1 alone", diskWith(graphAt(1, 5, rich())), 0, 6},
		{"the same Gen in both", diskWith(graphAt(0, 5, rich()), graphAt(1, 5, graph(num(2)))), 1, 6},
		{"the newest is spoilt", spoilt, 1, 9},
		{"no head", headless, 0, 1},
		{"the newest is no graph's image", diskWith(graphAt(0, 1, rich()), laid{1, 2, anImage(70, 1)}), 0, 3},
		{"one below MaxGen", diskWith(graphAt(0, impl.MaxGen-1, rich())), 1, impl.MaxGen},
	} {
		for i, g := range chestGraphs() {
			name := fmt.Sprint(c.name, ", graph ", i)
			want := behind(c.disk, opsBy(graphAt(c.slot, c.gen, g)))
			askKeep(t, name, c.disk, g, want)
			askTake(t, name, want, taken(c.gen, g))
		}
	}
}

func TestKeepOfNothing(t *testing.T) {
	none := impl.Disk{}
	right := map[string]impl.Disk{
		"blank": impl.Blank(), "behind one": diskWith(graphAt(0, 1, rich())), "behind two": diskWith(graphAt(0, 1, rich()), graphAt(1, 2, rich())),
	}
	for name, d := range right {
		for fault, g := range badGraphs() {
			askKeep(t, name+": "+fault, d, g, none)
		}
		if isNoDisk(impl.Keep(d, long(impl.MaxImage))) {
			t.Errorf("%s: an image at the limit is not laid down", name)
		}
		waits := copyOfDisk(d)
		waits.Waiting = []impl.Write{write(129, d.Blocks[129])}
		askKeep(t, name+": a write waits that changes nothing", waits, rich(), none)
		askKeep(t, name+": it was synced", impl.Sync(waits), rich(), impl.Keep(d, rich()))
		askKeep(t, name+": as many wait as may", impl.Disk{Blocks: d.Blocks, Waiting: waitingMany(impl.MaxWaiting).Waiting}, rich(), none)
	}
	for _, d := range []impl.Disk{
		diskWith(graphAt(0, impl.MaxGen, rich())), diskWith(graphAt(1, impl.MaxGen, rich())),
		diskWith(graphAt(0, impl.MaxGen, rich()), graphAt(1, impl.MaxGen, rich())),
		diskWith(graphAt(0, 4, rich()), laid{1, impl.MaxGen, anImage(9, 1)}),
	} {
		askKeep(t, "Newest's Gen is MaxGen", d, graph(num(1)), none)
		askKeep(t, "Newest's Gen is MaxGen, a wrong graph", d, graph(to(0)), none)
	}
	for _, w := range append(wrongDisksFrom(both), wrongDisks()...) {
		askKeep(t, w.name, w.disk, rich(), none)
		askKeep(t, w.name+", a wrong graph", w.disk, graph(to(0)), none)
	}
}

// Graphs laid down one after the other: each is taken up then, and the one before it is in the other slot.
func TestKeepOneAfterTheOther(t *testing.T) {
	graphs := chestGraphs()
	graphs = append(graphs, graph(num(1)), graph(num(1)), graph(num(1)), long(impl.MaxImage), graph(num(2)))
	rnd := rand.New(rand.NewSource(51))
	for range 60 {
		graphs = append(graphs, anyGraph(rnd))
	}
	d := impl.Blank()
	for i, g := range graphs {
		name := fmt.Sprint("graph ", i)
		before := d
		d = impl.Keep(d, g)
		askTake(t, name, d, taken(i+1, g))
		if len(d.Waiting) != 0 {
			t.Fatalf("%s: %d writes wait", name, len(d.Waiting))
		}
		slot := i % 2
		if k := impl.Newest(d); k.Slot != slot {
			t.Fatalf("%s is in slot %d", name, k.Slot)
		}
		askBefore(t, before, d, impl.Newest(before), slot)
		want := code(1)
		if i > 0 {
			want = taken(i, graphs[i-1])
		}
		askTake(t, name+", without its head", impl.Sync(impl.Put(d, slot, full(0))), want)
	}
}

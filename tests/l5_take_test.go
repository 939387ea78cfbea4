package tests

import (
	"bytes"
	"fmt"
	"math/rand"
	"slices"
	"testing"

	"loop.example/chest/impl"
)

func TestTakeByHand(t *testing.T) {
	d := impl.Blank()
	askTake(t, "blank", d, code(1))
	image := sealed([]byte{'H', '1', 1, 4, 0, 7, 2, 1, 9, 4, 0})
	copy(d.Blocks[66], image)
	askTake(t, "an image without a head", d, code(1))
	d.Blocks[1] = headBy(12, int64(len(image)), sumBy(image))
	askTake(t, "an image and its head", d, impl.Taken{Gen: 12, Graph: graph(to(0), node(7, num(-5), to(0)))})
	d.Blocks[1] = headBy(13, int64(len(image)-1), sumBy(image[:len(image)-1]))
	askTake(t, "a byte less, and its sum", d, impl.Taken{Code: 2, Gen: 13})
	d.Blocks[1] = headBy(13, int64(len(image)), sumBy(image)+1)
	askTake(t, "another sum", d, code(1))
}

func TestTakeWhatWasLaidDownLast(t *testing.T) {
	for i, g := range chestGraphs() {
		for slot := range 2 {
			name := fmt.Sprint("graph ", i, " in slot ", slot)
			for _, gen := range []int{1, 2, 300, impl.MaxGen} {
				askTake(t, name, diskWith(graphAt(slot, gen, g)), taken(gen, g))
			}
			older := graphAt(1-slot, 40, graph(txt("older")))
			askTake(t, name+", over an older one", diskWith(older, graphAt(slot, 41, g)), taken(41, g))
			askTake(t, name+", under a newer one", diskWith(older, graphAt(slot, 39, g)), taken(40, graph(txt("older"))))
		}
		askTake(t, "the same Gen in both", diskWith(graphAt(0, 6, g), graphAt(1, 6, graph(num(-1)))), taken(6, g))
	}
}

func TestTakeFromWrongDisks(t *testing.T) {
	right := func(waiting int) impl.Disk {
		d := diskWith(graphAt(0, 3, rich()), graphAt(1, 4, rich()))
		d.Waiting = waitingMany(waiting).Waiting
		return d
	}
	for _, w := range slices.Concat(wrongDisksFrom(right), wrongDisksFrom(both), wrongDisks()) {
		askTake(t, w.name, w.disk, code(3))
	}
	if x := impl.Take(right(0)); !sameTaken(x, taken(4, rich())) {
		t.Errorf("a right disk answers %v", x)
	}
}

func TestTakeWhenNoSlotIsWhole(t *testing.T) {
	askTake(t, "blank", impl.Blank(), code(1))
	askTake(t, "something in each block", written(), code(1))
	for slot := range 2 {
		heads := written()
		heads.Blocks[slot] = headBy(1, 100, 5)
		askTake(t, "a head alone", heads, code(1))
		for _, block := range []int{slot, imageAt(slot)} {
			d := diskWith(graphAt(slot, 7, rich()))
			d.Blocks[block][3] ^= 1
			askTake(t, "the only one is spoilt", d, code(1))
			other := diskWith(graphAt(slot, 7, rich()), graphAt(1-slot, 7, rich()))
			other.Blocks[block][3] ^= 1
			other.Blocks[1-slot][0] = 'h'
			askTake(t, "both are spoilt", other, code(1))
			other.Blocks[1-slot][0] = 'H'
			askTake(t, "one of both is spoilt", other, taken(7, rich()))
		}
	}
}

// foreign is bytes that are no graph's image.
func foreign() map[string][]byte {
	g := rich()
	image := imageBy(g)
	out := map[string][]byte{
		"one zero":                     {0},
		"a word":                       []byte("hello"),
		"zeros":                        make([]byte, 64),
		"as many bytes as may be":      anImage(impl.MaxImage, 1),
		"a sum alone":                  sealed(nil),
		"a mark":                       sealed([]byte("H1")),
		"another mark":                 sealed(append([]byte("H2"), bodyBy(g)[2:]...)),
		"a byte behind the image":      append(bytes.Clone(image), 0),
		"a byte less":                  image[:len(image)-1],
		"a byte behind the graph":      sealed(append(bodyBy(g), 0)),
		"another sum":                  append(bodyBy(g), make([]byte, 8)...),
		"a number in two bytes":        sealed([]byte{'H', '1', 0, 1, 0x85, 0}),
		"nodes in another order":       sealed(bodyBy(graph(to(1), node(1), node(2, to(0))))),
		"a node that nothing leads to": sealed(bodyBy(graph(num(1), node(1)))),
		"a node that there is not":     sealed(bodyBy(graph(to(0)))),
		"a Kind that there is not":     sealed([]byte{'H', '1', 0, 5}),
		"a Tag too great":              sealed(bodyBy(graph(to(0), node(impl.MaxTag+1)))),
	}
	return out
}

// An image that is whole and none: code 2, with the Gen, whatever is in the other slot.
func TestTakeForeignImages(t *testing.T) {
	for name, image := range foreign() {
		for slot := range 2 {
			for _, gen := range []int{1, 9, impl.MaxGen} {
				askTake(t, name, diskWith(laid{slot, gen, image}), impl.Taken{Code: 2, Gen: gen})
			}
			l := laid{slot, 9, image}
			askTake(t, name+", an older graph in the other slot", diskWith(l, graphAt(1-slot, 8, rich())), impl.Taken{Code: 2, Gen: 9})
			askTake(t, name+", a newer graph in the other slot", diskWith(l, graphAt(1-slot, 10, rich())), taken(10, rich()))
			askTake(t, name+", other bytes in the other slot", diskWith(l, laid{1 - slot, 8, anImage(5, 5)}), impl.Taken{Code: 2, Gen: 9})
			spoilt := diskWith(l, graphAt(1-slot, 8, rich()))
			spoilt.Blocks[slot][63] = 1
			askTake(t, name+", spoilt, a graph in the other slot", spoilt, taken(8, rich()))
			// A graph laid down behind it goes to the other slot.
			d := impl.Keep(diskWith(l, graphAt(1-slot, 8, rich())), graph(num(6)))
			askTake(t, name+", a graph behind it", d, taken(10, graph(num(6))))
			if h := impl.HeadOf(d, slot); h.Gen != 9 {
				t.Errorf("%s: the newest whole image was touched", name)
			}
		}
		askTake(t, name+", the same Gen, slot 0", diskWith(laid{0, 9, image}, graphAt(1, 9, rich())), impl.Taken{Code: 2, Gen: 9})
		askTake(t, name+", the same Gen, slot 1", diskWith(laid{1, 9, image}, graphAt(0, 9, rich())), taken(9, rich()))
		d := impl.Blank()
		ops := impl.Ops(d, image)
		askTake(t, name+", laid down", impl.Apply(d, ops, len(ops)), impl.Taken{Code: 2, Gen: 1})
	}
}

func TestTakeReadsWritesThatWait(t *testing.T) {
	a, b := graph(txt("a")), sized(130, 9)
	askTake(t, "all waits", diskAwaiting(graphAt(0, 3, a)), taken(3, a))
	askTake(t, "both wait", diskAwaiting(graphAt(0, 3, a), graphAt(1, 4, b)), taken(4, b))
	askTake(t, "foreign bytes wait", diskAwaiting(laid{1, 4, anImage(70, 1)}), impl.Taken{Code: 2, Gen: 4})
	// One write more waits each time: the new graph is there when its head is.
	d := diskWith(graphAt(0, 5, a), graphAt(1, 4, a))
	writes := graphAt(1, 6, b).writes()
	for i, w := range writes {
		d = impl.Put(d, w.Block, w.Bytes)
		want := taken(5, a)
		if i == len(writes)-1 {
			want = taken(6, b)
		}
		askTake(t, fmt.Sprint("write ", i, " waits"), d, want)
	}
	askTake(t, "carried out", impl.Sync(d), taken(6, b))
	askTake(t, "lost", impl.Crash(d, nil), taken(5, a))
	hidden := impl.Put(impl.Sync(d), 1, full(0))
	askTake(t, "zeros wait for the head", hidden, taken(5, a))
	askTake(t, "the head waits behind them", impl.Put(hidden, 1, writes[len(writes)-1].Bytes), taken(6, b))
}

func TestTakeFromManyDisks(t *testing.T) {
	rnd := rand.New(rand.NewSource(52))
	seen := map[int]int{}
	for range 1500 {
		d := written()
		for range 1 + rnd.Intn(3) {
			l := graphAt(rnd.Intn(2), 1+rnd.Intn(3), sized(40+rnd.Intn(60), rnd.Intn(5)))
			if rnd.Intn(3) == 0 {
				l.image = anImage(1+rnd.Intn(80), rnd.Intn(4))
			}
			for _, w := range l.writes() {
				if rnd.Intn(8) > 0 {
					d = impl.Put(d, w.Block, w.Bytes)
				}
			}
			if rnd.Intn(2) == 0 {
				d = impl.Sync(d)
			}
		}
		want := takenBy(d)
		seen[want.Code]++
		askTake(t, "any", d, want)
	}
	if seen[0] < 200 || seen[1] < 200 || seen[2] < 200 {
		t.Errorf("the disks are too much of one kind: %v", seen)
	}
}

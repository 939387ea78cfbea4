package tests

import (
	"bytes"
	"fmt"
	"math/rand"
	"testing"

	"loop.example/chest/impl"
)

func TestOpsByHand(t *testing.T) {
	image := append(bytes.Repeat([]byte{5}, 64), 6)
	second := append([]byte{6}, make([]byte, 63)...)
	head := []byte{'H', 'E', 'A', 'D', 1, 0, 0, 0, 0, 0, 0, 0, 65, 0, 0, 0, 0, 0, 0, 0}
	for i := range 8 {
		head = append(head, byte(uint64(sumBy(image))>>(8*i)))
	}
	askOps(t, "a blank disk", impl.Blank(), image, []impl.Op{
		{Block: 2, Bytes: full(5)}, {Block: 3, Bytes: second}, {Sync: true}, {Block: 0, Bytes: sealedHead(head)}, {Sync: true},
	})
	head[4] = 8
	askOps(t, "behind one in slot 0", single(), image, []impl.Op{
		{Block: 66, Bytes: full(5)}, {Block: 67, Bytes: second}, {Sync: true}, {Block: 1, Bytes: sealedHead(head)}, {Sync: true},
	})
}

// askSyncs asks where the Syncs stand, that they have nothing but that, and that all else is Puts that can be done.
func askSyncs(t *testing.T, ops []impl.Op, blocks int) {
	t.Helper()
	if len(ops) != blocks+3 {
		t.Fatalf("%d ops for %d blocks", len(ops), blocks)
	}
	for i, o := range ops {
		if o.Sync != (i == blocks || i == blocks+2) {
			t.Errorf("op %d of %d: %v", i, len(ops), o)
		}
		if o.Sync && (o.Block != 0 || len(o.Bytes) != 0) {
			t.Errorf("a Sync with more: %v", o)
		}
		if !o.Sync && len(o.Bytes) != 64 {
			t.Errorf("op %d has %d bytes", i, len(o.Bytes))
		}
	}
}

func TestOpsOfEachLength(t *testing.T) {
	for _, c := range []struct {
		name      string
		disk      impl.Disk
		slot, gen int
	}{
		{"a blank disk", impl.Blank(), 0, 1},
		{"a disk with something in each block", written(), 0, 1},
		{"behind one", diskWith(laid{0, 1, anImage(70, 1)}), 1, 2},
		{"behind two", diskWith(laid{0, 1, anImage(70, 1)}, laid{1, 2, anImage(4096, 2)}), 0, 3},
		{"behind three", diskWith(laid{0, 3, anImage(4096, 1)}, laid{1, 2, anImage(1, 2)}), 1, 4},
		{"slot 1 alone", diskWith(laid{1, 9, anImage(128, 1)}), 0, 10},
		{"the same Gen in both", diskWith(laid{0, 6, anImage(70, 1)}, laid{1, 6, anImage(80, 2)}), 1, 7},
		{"one below MaxGen", diskWith(laid{1, impl.MaxGen - 1, anImage(70, 1)}), 0, impl.MaxGen},
	} {
		for _, n := range lengths {
			image := anImage(n, 50)
			askOps(t, fmt.Sprint(c.name, ", ", n), c.disk, image, opsBy(laid{c.slot, c.gen, image}))
			askSyncs(t, impl.Ops(c.disk, image), (n+63)/64)
		}
	}
}

// Every length: the blocks are as many as the image needs, and zeros fill the last one.
func TestOpsOfEveryLength(t *testing.T) {
	all := bytes.Repeat([]byte{0xff}, impl.MaxImage+1)
	d := diskWith(laid{0, 3, anImage(70, 1)})
	for n := 1; n <= impl.MaxImage; n += 1 + n/300 {
		ops := impl.Ops(d, all[:n])
		if !sameOps(ops, opsBy(laid{1, 4, all[:n]})) {
			t.Fatalf("%d bytes: other ops", n)
		}
		blocks := len(ops) - 3
		if last := ops[blocks-1].Bytes; n != 64*(blocks-1)+bytes.Count(last, []byte{0xff}) || bytes.Count(last, []byte{0}) != 64*blocks-n {
			t.Fatalf("%d bytes: the last block is %v", n, last)
		}
	}
}

// A slot that is not whole is written, though its head says a greater Gen; and a Gen comes behind Newest's alone.
func TestOpsOverASlotThatIsNotWhole(t *testing.T) {
	image := anImage(100, 9)
	for slot := range 2 {
		for _, gen := range []int{4, 5, 6, 700, impl.MaxGen} {
			whole, spoilt := laid{slot, 5, anImage(65, 1)}, laid{1 - slot, gen, anImage(65, 2)}
			d := diskWith(whole, spoilt)
			d.Blocks[imageAt(1-slot)+1][0] ^= 1
			askOps(t, "the image is spoilt", d, image, opsBy(laid{1 - slot, 6, image}))
			d = diskWith(whole, spoilt)
			d.Blocks[1-slot][63] = 1
			askOps(t, "the head is spoilt", d, image, opsBy(laid{1 - slot, 6, image}))
			d.Blocks[slot][0] = 0
			askOps(t, "both heads are spoilt", d, image, opsBy(laid{0, 1, image}))
		}
	}
}

func TestOpsOfNothing(t *testing.T) {
	image := anImage(65, 1)
	for name, d := range map[string]impl.Disk{"blank": impl.Blank(), "one": single(), "two": both(0)} {
		for _, wrong := range [][]byte{nil, {}, make([]byte, 0, 100), make([]byte, impl.MaxImage+1), make([]byte, impl.MaxImage+64), make([]byte, 100000)} {
			askOps(t, fmt.Sprint(name, ": ", len(wrong), " bytes"), d, wrong, nil)
		}
		if len(impl.Ops(d, make([]byte, impl.MaxImage))) != 67 || len(impl.Ops(d, []byte{0})) != 4 {
			t.Errorf("%s: the limits met have no ops", name)
		}
	}
	for _, n := range []int{1, 2, impl.MaxWaiting} {
		askOps(t, fmt.Sprint(n, " writes wait"), both(n), image, nil)
		askOps(t, fmt.Sprint(n, " writes wait on another disk"), waitingMany(n), image, nil)
	}
	d := both(0)
	d.Waiting = []impl.Write{write(5, d.Blocks[5])}
	askOps(t, "a write waits that changes nothing", d, image, nil)
	askOps(t, "synced", impl.Sync(d), image, opsBy(laid{0, 5, image}))
	last := laid{0, impl.MaxGen, anImage(65, 2)}
	for _, d := range []impl.Disk{
		diskWith(last), diskWith(last, laid{1, impl.MaxGen - 1, image}), diskWith(last, laid{1, impl.MaxGen, image}),
		diskWith(laid{1, impl.MaxGen, image}), diskWith(laid{0, 1, image}, laid{1, impl.MaxGen, image}),
	} {
		askOps(t, "Newest's Gen is MaxGen", d, image, nil)
	}
	for _, w := range append(wrongDisksFrom(both), wrongDisks()...) {
		askOps(t, w.name, w.disk, image, nil)
	}
}

// The last block is filled up with zeros, not with what stands behind the image in its own memory.
func TestOpsAndWhatIsBehindTheImage(t *testing.T) {
	room := bytes.Repeat([]byte{7}, 5000)
	for _, n := range []int{1, 63, 64, 65, 4033, 4096} {
		askOps(t, "an image with room behind it", impl.Blank(), room[:n], opsBy(laid{0, 1, bytes.Repeat([]byte{7}, n)}))
		if bytes.Count(room, []byte{7}) != 5000 {
			t.Fatal("Ops wrote behind its argument")
		}
	}
	// An image that is a block of the disk itself.
	d := single()
	image := bytes.Clone(d.Blocks[3])
	askOps(t, "a block as an image", d, d.Blocks[3], opsBy(laid{1, 8, image}))
}

func TestOpsAreNewMemory(t *testing.T) {
	d, image := both(0), anImage(130, 4)
	want := opsBy(laid{0, 5, anImage(130, 4)})
	first := impl.Ops(d, image)
	for _, o := range first {
		clear(o.Bytes[:cap(o.Bytes)])
	}
	clear(first[:cap(first)])
	second := impl.Ops(d, image)
	if !sameOps(second, want) || !sameDisk(d, both(0)) || !bytes.Equal(image, anImage(130, 4)) {
		t.Error("writing into the ops is seen elsewhere")
	}
	clear(image)
	for _, b := range d.Blocks {
		clear(b)
	}
	if !sameOps(second, want) {
		t.Error("writing into an argument is seen in the ops")
	}
}

// askLife lays images down one after the other, and asks for each of them and for the one before it.
func askLife(t *testing.T, d impl.Disk, images [][]byte) impl.Disk {
	t.Helper()
	for i, image := range images {
		before := impl.Newest(d)
		ops := impl.Ops(d, image)
		next := impl.Apply(d, ops, len(ops))
		slot := 0
		if before.Ok {
			slot = 1 - before.Slot
		}
		l := laid{slot, before.Gen + 1, image}
		if !sameOps(ops, opsBy(l)) {
			t.Fatalf("image %d: other ops", i)
		}
		if len(next.Waiting) != 0 {
			t.Fatalf("image %d: %d writes wait", i, len(next.Waiting))
		}
		askNewest(t, fmt.Sprint("image ", i), next, l.kept())
		askBefore(t, d, next, before, slot)
		d = next
	}
	return d
}

// askBefore asks that what was newest is in the other slot, untouched, and is newest again without the one behind it.
func askBefore(t *testing.T, d, next impl.Disk, before impl.Kept, slot int) {
	t.Helper()
	mine := func(block int) bool { return block == slot || block >= imageAt(slot) && block < imageAt(slot)+64 }
	for block := range impl.Blocks {
		if !mine(block) && !bytes.Equal(d.Blocks[block], next.Blocks[block]) {
			t.Fatalf("block %d was touched, which is not the slot's", block)
		}
	}
	if !before.Ok {
		return
	}
	want := impl.Head{Ok: true, Gen: before.Gen, Len: len(before.Bytes), Sum: sumBy(before.Bytes)}
	askHead(t, "the one before", next, 1-slot, want)
	askNewest(t, "without the head", impl.Sync(impl.Put(next, slot, full(0))), before)
	first := next.Blocks[imageAt(slot)]
	spoilt := bytes.Clone(first)
	spoilt[0] ^= 1
	askNewest(t, "with another image", impl.Put(next, imageAt(slot), spoilt), before)
}

// Graphs laid down one after the other: each is what is taken up then, the one before is in the other slot.
func TestGraphsLaidDownOneAfterTheOther(t *testing.T) {
	var graphs []impl.Graph
	for _, f := range forms {
		graphs = append(graphs, f.given)
	}
	graphs = append(graphs, impl.Graph{}, long(impl.MaxImage), long(impl.MaxImage-1), graph(num(1)), long(impl.MaxImage), long(4032), graph(num(1)), graph(num(1)), long(4033))
	rnd := rand.New(rand.NewSource(23))
	for range 60 {
		graphs = append(graphs, anyGraph(rnd))
	}
	var images [][]byte
	for _, g := range graphs {
		images = append(images, impl.Pack(g))
	}
	end := askLife(t, impl.Blank(), images)
	if k := impl.Newest(end); k.Gen != len(graphs) || k.Slot != (len(graphs)-1)%2 {
		t.Errorf("behind %d: Gen %d in slot %d", len(graphs), k.Gen, k.Slot)
	}
	d := impl.Blank()
	for i, g := range graphs {
		ops := impl.Ops(d, impl.Pack(g))
		d = impl.Apply(d, ops, len(ops))
		k := impl.Newest(d)
		if u := impl.Unpack(k.Bytes); !u.Ok || !impl.Alike(u.Graph, g) || k.Gen != i+1 || k.Slot != i%2 {
			t.Fatalf("graph %d: taken up as %v", i, u)
		}
		if i == 0 {
			continue
		}
		h := impl.HeadOf(d, 1-k.Slot)
		var old []byte
		for at := range 64 {
			old = append(old, impl.Read(d, imageAt(1-k.Slot)+at)...)
		}
		if u := impl.Unpack(old[:h.Len]); h.Gen != i || !u.Ok || !impl.Alike(u.Graph, graphs[i-1]) {
			t.Fatalf("graph %d: the one before is %v", i, u)
		}
	}
}

// Images of any bytes, from disks that are not blank, up to the last Gen that there is.
func TestImagesLaidDownUpToMaxGen(t *testing.T) {
	rnd := rand.New(rand.NewSource(24))
	var images [][]byte
	for i, n := range lengths {
		images = append(images, anImage(n, i), make([]byte, n))
	}
	for range 30 {
		b := make([]byte, 1+rnd.Intn(300))
		rnd.Read(b)
		images = append(images, b)
	}
	begin := impl.MaxGen - len(images)
	for slot := range 2 {
		d := askLife(t, diskWith(laid{slot, begin, anImage(9, 9)}), images)
		if k := impl.Newest(d); k.Gen != impl.MaxGen {
			t.Errorf("Gen %d at the end", k.Gen)
		}
		askOps(t, "no Gen is left", d, images[0], nil)
	}
	askLife(t, written(), images)
	askLife(t, both(0), images)
}

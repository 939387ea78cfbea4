package tests

import (
	"bytes"
	"fmt"
	"math"
	"math/rand"
	"testing"

	"loop.example/chest/impl"
)

// someOps is ops of both kinds, some of which write one block again.
func someOps() []impl.Op {
	return []impl.Op{
		putOp(write(5, full(1))), putOp(write(0, counted(9))), syncOp(), syncOp(), putOp(write(5, full(2))),
		putOp(write(5, full(3))), syncOp(), putOp(write(129, counted(8))), putOp(write(5, full(4))),
	}
}

func TestApplyByHand(t *testing.T) {
	d := written(write(7, full(7)))
	for n, change := range []func(d *impl.Disk){
		func(d *impl.Disk) {},
		func(d *impl.Disk) { d.Waiting = append(d.Waiting, write(5, full(1))) },
		func(d *impl.Disk) { d.Waiting = append(d.Waiting, write(0, counted(9))) },
		func(d *impl.Disk) {
			d.Waiting, d.Blocks[7], d.Blocks[5], d.Blocks[0] = nil, full(7), full(1), counted(9)
		},
		func(d *impl.Disk) {},
		func(d *impl.Disk) { d.Waiting = append(d.Waiting, write(5, full(2))) },
		func(d *impl.Disk) { d.Waiting = append(d.Waiting, write(5, full(3))) },
		func(d *impl.Disk) { d.Waiting, d.Blocks[5] = nil, full(3) },
		func(d *impl.Disk) { d.Waiting = append(d.Waiting, write(129, counted(8))) },
		func(d *impl.Disk) { d.Waiting = append(d.Waiting, write(5, full(4))) },
	} {
		change(&d)
		askApply(t, fmt.Sprint("behind ", n), written(write(7, full(7))), someOps(), n, d)
	}
}

func TestApplyAtEachStep(t *testing.T) {
	for _, c := range []struct {
		name string
		disk impl.Disk
		ops  []impl.Op
	}{
		{"no ops", both(3), nil},
		{"one Sync", both(3), []impl.Op{syncOp()}},
		{"one Put", both(3), []impl.Op{putOp(write(3, full(1)))}},
		{"some on a blank disk", impl.Blank(), someOps()},
		{"some on which much waits", waitingMany(impl.MaxWaiting - 2), someOps()},
		{"those of an image", both(0), impl.Ops(both(0), anImage(300, 1))},
		{"those of the longest image", impl.Blank(), impl.Ops(impl.Blank(), anImage(impl.MaxImage, 1))},
	} {
		for n := range len(c.ops) + 1 {
			askApply(t, fmt.Sprint(c.name, ", ", n), c.disk, c.ops, n, behind(c.disk, c.ops[:n]))
		}
		for _, n := range []int{-1, len(c.ops) + 1, -2, len(c.ops) + 2, -len(c.ops), math.MinInt, math.MaxInt} {
			if n != 0 {
				askApply(t, fmt.Sprint(c.name, ", ", n), c.disk, c.ops, n, impl.Disk{})
			}
		}
	}
}

// n is held against the number of ops, not against what room there is behind them.
func TestApplyLooksAtNoCapacity(t *testing.T) {
	ops := someOps()
	askApply(t, "one above", written(), ops[:2], 3, impl.Disk{})
	askApply(t, "none", written(), ops[:0], 1, impl.Disk{})
	askApply(t, "all", written(), ops[:2], 2, behind(written(), someOps()[:2]))
	if !sameOps(ops, someOps()) {
		t.Error("Apply wrote behind its argument")
	}
}

// A Sync is one whatever else it says.
func TestApplySyncsWithOtherFields(t *testing.T) {
	d := waitingMany(9)
	for _, w := range append(wrongWrites(), wrongWrite{"a write that could be done", write(4, full(1))}) {
		o := putOp(w.write)
		o.Sync = true
		askApply(t, "a Sync "+w.name, d, []impl.Op{o}, 1, impl.Sync(d))
		askApply(t, "a Sync among others "+w.name, d, []impl.Op{putOp(write(4, full(2))), o, o, putOp(write(4, full(3)))}, 4,
			impl.Put(impl.Sync(impl.Put(d, 4, full(2))), 4, full(3)))
	}
}

func TestApplyPutsThatCannotBeDone(t *testing.T) {
	for _, w := range wrongWrites() {
		for at := range len(someOps()) + 1 {
			ops := append(someOps()[:at], putOp(w.write))
			ops = append(ops, someOps()[at:]...)
			for _, n := range []int{0, at - 1, at, at + 1, at + 2, len(ops) - 1, len(ops)} {
				if n < 0 || n > len(ops) {
					continue
				}
				want := impl.Disk{}
				if n <= at {
					want = behind(both(0), ops[:n])
				}
				if got := impl.Apply(both(0), ops, n); !sameDisk(got, want) {
					t.Errorf("%s at %d, behind %d: %s", w.name, at, n, difference(got, want))
				}
			}
		}
		askApply(t, w.name+", alone", both(2), []impl.Op{putOp(w.write)}, 1, impl.Disk{})
		askApply(t, w.name+", not done yet", both(2), []impl.Op{putOp(w.write)}, 0, both(2))
	}
	askApply(t, "the zero value is a Put of nothing", both(2), make([]impl.Op, 3), 1, impl.Disk{})
	askApply(t, "the zero value, not done yet", both(2), make([]impl.Op, 3), 0, both(2))
}

func TestApplyMorePutsThanMayWait(t *testing.T) {
	for _, waiting := range []int{0, 1, 150, impl.MaxWaiting - 1, impl.MaxWaiting} {
		d := waitingMany(waiting)
		room := impl.MaxWaiting - waiting
		var ops []impl.Op
		for i := range room + 2 {
			ops = append(ops, putOp(write(i%impl.Blocks, counted(i))))
		}
		askApply(t, "as many as may wait", d, ops, room, behind(d, ops[:room]))
		if got := impl.Apply(d, ops, room); len(got.Waiting) != impl.MaxWaiting {
			t.Errorf("%d wait", len(got.Waiting))
		}
		askApply(t, "one more", d, ops, room+1, impl.Disk{})
		askApply(t, "two more", d, ops, room+2, impl.Disk{})
		late := append(append([]impl.Op{}, ops...), syncOp())
		askApply(t, "one more, and a Sync too late", d, late, len(late), impl.Disk{})
		early := append(append(append([]impl.Op{}, ops[:room]...), syncOp()), ops[:min(len(ops), impl.MaxWaiting)]...)
		askApply(t, "a Sync makes room", d, early, len(early), behind(d, early))
	}
	// A Sync makes room for as many again, and for no more.
	var ops []impl.Op
	for i := range impl.MaxWaiting {
		ops = append(ops, putOp(write(i%impl.Blocks, counted(i))))
	}
	ops = append(append(ops, syncOp()), ops...)
	askApply(t, "twice as many", impl.Blank(), ops, len(ops), behind(impl.Blank(), ops))
	ops = append(ops, putOp(write(0, full(1))))
	askApply(t, "twice as many and one", impl.Blank(), ops, len(ops), impl.Disk{})
}

func TestApplyToWrongDisks(t *testing.T) {
	for _, w := range append(wrongDisksFrom(both), wrongDisks()...) {
		for n := range 4 {
			askApply(t, w.name, w.disk, someOps(), n, impl.Disk{})
		}
		askApply(t, w.name+", no ops", w.disk, nil, 0, impl.Disk{})
		askApply(t, w.name+", a Sync", w.disk, []impl.Op{syncOp()}, 1, impl.Disk{})
	}
}

// Any ops, held against Put and Sync one by one.
func TestApplyAnyOps(t *testing.T) {
	rnd := rand.New(rand.NewSource(25))
	done, refused := 0, 0
	for range 300 {
		d := waitingMany(rnd.Intn(impl.MaxWaiting))
		var ops []impl.Op
		for range rnd.Intn(60) {
			o := putOp(write(rnd.Intn(impl.Blocks), counted(rnd.Intn(256))))
			switch rnd.Intn(80) {
			case 0:
				o.Block = impl.Blocks
			case 1:
				o.Bytes = o.Bytes[1:]
			case 2, 3, 4, 5:
				o.Sync = true
			}
			ops = append(ops, o)
		}
		n := rnd.Intn(len(ops) + 1)
		want := behind(d, ops[:n])
		if isNoDisk(want) {
			refused++
		} else {
			done++
		}
		askApply(t, "any", d, ops, n, want)
	}
	if done < 50 || refused < 50 {
		t.Errorf("too few of one kind: %d, %d", done, refused)
	}
}

// Ops whose bytes are the disk's own, and the same for several.
func TestApplyOpsThatShareMemory(t *testing.T) {
	d := written(write(7, full(7)))
	one := d.Blocks[9]
	ops := []impl.Op{putOp(write(3, one)), putOp(write(4, one)), putOp(d.Waiting[0]), syncOp(), putOp(write(9, d.Blocks[8])), putOp(write(8, one)), putOp(write(8, one))}
	own := copyOfOps(ops)
	for n := range len(ops) + 1 {
		askApply(t, "shared", d, ops, n, behind(written(write(7, full(7))), own[:n]))
	}
}

func TestApplyIsNewMemory(t *testing.T) {
	d, ops := waitingMany(4), someOps()
	for n := range len(ops) + 1 {
		first := impl.Apply(d, ops, n)
		for _, b := range first.Blocks {
			clear(b)
		}
		for _, w := range first.Waiting {
			clear(w.Bytes)
		}
		if !sameDisk(d, waitingMany(4)) || !sameOps(ops, someOps()) {
			t.Fatalf("behind %d: writing into the answer is seen in an argument", n)
		}
	}
	got := impl.Apply(d, ops, len(ops))
	want := copyOfDisk(got)
	for _, o := range ops {
		clear(o.Bytes)
	}
	for _, b := range d.Blocks {
		clear(b)
	}
	for _, w := range d.Waiting {
		clear(w.Bytes)
	}
	if !sameDisk(got, want) {
		t.Error("writing into an argument is seen in the answer")
	}
}

// A laying-down, step by step: nothing new is newest ahead of the head, and the power takes it until the last Sync.
func TestApplyALayingDown(t *testing.T) {
	image := anImage(150, 6)
	for _, d := range []impl.Disk{impl.Blank(), single(), both(0)} {
		ops, before := impl.Ops(d, image), impl.Newest(d)
		for n := range len(ops) + 1 {
			e := impl.Apply(d, ops, n)
			if k := impl.Newest(e); k.Gen != before.Gen && n < len(ops)-1 || n >= len(ops)-1 && !bytes.Equal(k.Bytes, image) {
				t.Errorf("behind %d: the newest is %v", n, k)
			}
			if k := impl.Newest(impl.Crash(e, nil)); n < len(ops) && !sameKept(k, before) || n == len(ops) && !bytes.Equal(k.Bytes, image) {
				t.Errorf("behind %d and a crash: the newest is %v", n, k)
			}
		}
	}
}

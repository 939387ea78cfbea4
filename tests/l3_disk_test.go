package tests

import (
	"bytes"
	"math"
	"math/rand"
	"testing"

	"loop.example/chest/impl"
)

func TestTheDisksLimits(t *testing.T) {
	if impl.Blocks != 130 || impl.BlockSize != 64 || impl.MaxWaiting != 200 {
		t.Error("other limits than the document's")
	}
}

func TestBlank(t *testing.T) {
	d := impl.Blank()
	if len(d.Blocks) != 130 || len(d.Waiting) != 0 || !impl.DiskOk(d) {
		t.Fatalf("%d blocks, %d waiting", len(d.Blocks), len(d.Waiting))
	}
	for i, b := range d.Blocks {
		if !bytes.Equal(b, make([]byte, 64)) {
			t.Errorf("block %d has %v", i, b)
		}
	}
	askAllApart(t, stretchesOfDisk("blank", d), stretchesOfDisk("another blank", impl.Blank()))
	for _, b := range d.Blocks {
		copy(b, full(9))
	}
	if e := impl.Blank(); !bytes.Equal(e.Blocks[5], full(0)) {
		t.Error("what is written into a blank disk is seen in the next")
	}
}

func TestDiskOk(t *testing.T) {
	for _, d := range []impl.Disk{
		impl.Blank(), written(), waitingMany(1), waitingMany(2), waitingMany(impl.MaxWaiting - 1), waitingMany(impl.MaxWaiting),
		written(write(0, full(1))), written(write(impl.Blocks-1, full(1))), written(write(5, full(1)), write(5, full(2))),
	} {
		before := copyOfDisk(d)
		if !impl.DiskOk(d) {
			t.Errorf("not a disk, with %d waiting", len(d.Waiting))
		}
		if !sameDisk(d, before) {
			t.Error("the argument was changed")
		}
	}
	for block := range impl.Blocks {
		if !impl.DiskOk(written(write(block, full(3)))) {
			t.Errorf("no write to block %d may wait", block)
		}
	}
	for _, w := range wrongDisks() {
		before := copyOfDisk(w.disk)
		if impl.DiskOk(w.disk) {
			t.Errorf("%s: a disk", w.name)
		}
		if !sameDisk(w.disk, before) {
			t.Errorf("%s: the argument was changed", w.name)
		}
	}
}

// A disk is told by the lengths of its lists, not by what room there is behind them.
func TestDiskOkLooksAtNoCapacity(t *testing.T) {
	d := waitingMany(impl.MaxWaiting + 50)
	d.Waiting = d.Waiting[:impl.MaxWaiting]
	d.Blocks = append(d.Blocks, nil, nil)[:impl.Blocks]
	d.Blocks[3] = make([]byte, impl.BlockSize, 3*impl.BlockSize)
	if !impl.DiskOk(d) {
		t.Error("not a disk")
	}
	d.Blocks[3] = make([]byte, impl.BlockSize-1, 3*impl.BlockSize)
	if impl.DiskOk(d) {
		t.Error("a disk with a shorter block")
	}
}

func TestWrongDisksAtEachFunction(t *testing.T) {
	for _, w := range wrongDisks() {
		name, d := w.name, w.disk
		none := impl.Disk{}
		askDisk(t, "Put: "+name, d, none, func(d impl.Disk) impl.Disk { return impl.Put(d, 0, full(1)) })
		askDisk(t, "Put to the last block: "+name, d, none, func(d impl.Disk) impl.Disk { return impl.Put(d, impl.Blocks-1, full(1)) })
		askDisk(t, "Sync: "+name, d, none, impl.Sync)
		for _, kept := range [][]bool{nil, {}, {true}, {false}, make([]bool, 500)} {
			askDisk(t, "Crash: "+name, d, none, func(d impl.Disk) impl.Disk { return impl.Crash(d, kept) })
		}
		before := copyOfDisk(d)
		for _, block := range []int{-1, 0, 1, 3, 64, impl.Blocks - 1, impl.Blocks} {
			if b := impl.Read(d, block); len(b) != 0 {
				t.Errorf("Read: %s: block %d has %v", name, block, b)
			}
		}
		if !sameDisk(d, before) {
			t.Errorf("Read: %s: the argument was changed", name)
		}
	}
}

func TestPut(t *testing.T) {
	for _, waiting := range []int{0, 1, 2, 3, 4, 7, 8, 9, 100, impl.MaxWaiting - 1} {
		for _, block := range []int{0, 1, 7, 64, impl.Blocks - 1} {
			d, b := waitingMany(waiting), counted(200)
			want := copyOfDisk(d)
			want.Waiting = append(want.Waiting, write(block, counted(200)))
			askDisk(t, "Put", d, want, func(d impl.Disk) impl.Disk { return impl.Put(d, block, b) })
			if !bytes.Equal(b, counted(200)) {
				t.Error("the bytes were changed")
			}
			askAllApart(t, stretchesOfDisk("the answer", impl.Put(d, block, b)), []stretch{stretchOf("the bytes", b)})
		}
	}
	for block := range impl.Blocks {
		want := written(write(block, full(2)))
		askDisk(t, "Put to each block", written(), want, func(d impl.Disk) impl.Disk { return impl.Put(d, block, full(2)) })
	}
}

func TestPutThatCannotBeDone(t *testing.T) {
	for _, d := range []impl.Disk{impl.Blank(), written(), waitingMany(3), waitingMany(impl.MaxWaiting - 1)} {
		for _, w := range wrongWrites() {
			askDisk(t, "Put "+w.name, d, impl.Disk{}, func(d impl.Disk) impl.Disk { return impl.Put(d, w.write.Block, w.write.Bytes) })
		}
	}
	for block := range impl.Blocks {
		d := waitingMany(impl.MaxWaiting)
		if got := impl.Put(d, block, full(1)); !isNoDisk(got) {
			t.Errorf("MaxWaiting wait, and one more to block %d is taken", block)
		}
	}
}

// As many as may wait are taken, one by one; behind a Sync there is room again.
func TestPutUpToTheLimit(t *testing.T) {
	d := impl.Blank()
	for i := range impl.MaxWaiting {
		d = impl.Put(d, i%impl.Blocks, counted(i))
		if len(d.Waiting) != i+1 || d.Waiting[i].Block != i%impl.Blocks || !bytes.Equal(d.Waiting[i].Bytes, counted(i)) {
			t.Fatalf("behind %d writes: %d waiting", i+1, len(d.Waiting))
		}
	}
	if !isNoDisk(impl.Put(d, 0, full(1))) {
		t.Error("one more is taken")
	}
	for name, e := range map[string]impl.Disk{"Sync": impl.Sync(d), "Crash": impl.Crash(d, nil)} {
		if e = impl.Put(e, 0, full(1)); len(e.Waiting) != 1 {
			t.Errorf("no room behind %s", name)
		}
	}
}

// askRead asks what a block reads as, twice, and that the bytes are new.
func askRead(t *testing.T, d impl.Disk, block int, want []byte) {
	t.Helper()
	before := copyOfDisk(d)
	got, again := impl.Read(d, block), impl.Read(d, block)
	if !bytes.Equal(got, want) || !bytes.Equal(again, want) {
		t.Errorf("block %d reads as %v, and as %v, not as %v", block, got, again, want)
	}
	if !sameDisk(d, before) {
		t.Error("the argument was changed")
	}
	askNoneMeets(t, stretchOf("what was read", got), append(stretchesOfDisk("the disk", d), stretchOf("what was read next", again)))
}

func TestRead(t *testing.T) {
	d := written(
		write(4, full(41)), write(0, full(1)), write(4, full(42)), write(impl.Blocks-1, full(2)), write(6, counted(6)), write(4, full(43)),
		write(6, full(61)), write(6, counted(6)))
	for block := range impl.Blocks {
		want := counted(block)
		switch block {
		case 0:
			want = full(1)
		case 4:
			want = full(43)
		case impl.Blocks - 1:
			want = full(2)
		}
		askRead(t, d, block, want)
	}
	for block := range impl.Blocks {
		askRead(t, impl.Blank(), block, full(0))
		askRead(t, written(), block, counted(block))
	}
	for _, block := range []int{-1, impl.Blocks, impl.Blocks + 1, math.MinInt, math.MaxInt, 1 << 32} {
		for _, d := range []impl.Disk{impl.Blank(), d, waitingMany(impl.MaxWaiting)} {
			askRead(t, d, block, nil)
		}
	}
}

// A write of zeros is a write too.
func TestReadZerosThatWait(t *testing.T) {
	d := written(write(9, full(1)), write(9, full(0)))
	askRead(t, d, 9, full(0))
	if s := impl.Sync(d); !bytes.Equal(s.Blocks[9], full(0)) {
		t.Error("the zeros were not kept")
	}
}

func TestSync(t *testing.T) {
	askDisk(t, "nothing waits", written(), written(), impl.Sync)
	askDisk(t, "a blank disk", impl.Blank(), impl.Blank(), impl.Sync)
	d := written(write(3, full(1)), write(5, full(2)), write(3, full(3)), write(0, full(4)), write(impl.Blocks-1, full(5)))
	want := written()
	want.Blocks[0], want.Blocks[3], want.Blocks[5], want.Blocks[impl.Blocks-1] = full(4), full(3), full(2), full(5)
	askDisk(t, "five writes", d, want, impl.Sync)
	for block := range impl.Blocks {
		want := written()
		want.Blocks[block] = full(8)
		askDisk(t, "one block twice", written(write(block, full(7)), write(block, full(8))), want, impl.Sync)
		want.Blocks[block] = counted(block)
		askDisk(t, "a block as it was before", written(write(block, full(7)), write(block, counted(block))), want, impl.Sync)
	}
	for _, waiting := range []int{1, 2, 129, 130, 131, impl.MaxWaiting - 1, impl.MaxWaiting} {
		d := waitingMany(waiting)
		want := written()
		for _, w := range d.Waiting {
			want.Blocks[w.Block] = w.Bytes
		}
		askDisk(t, "many writes", d, copyOfDisk(want), impl.Sync)
	}
}

// carriedOut is the disk behind a loss of power, told from the last write back: what was written to a block last and kept is there.
func carriedOut(d impl.Disk, kept func(i int) bool) impl.Disk {
	var out impl.Disk
	for block, b := range d.Blocks {
		for i := len(d.Waiting) - 1; i >= 0; i-- {
			if d.Waiting[i].Block == block && kept(i) {
				b = d.Waiting[i].Bytes
				break
			}
		}
		out.Blocks = append(out.Blocks, bytes.Clone(b))
	}
	return out
}

// askCrash asks for the disk that carriedOut tells, and that kept stays as it is.
func askCrash(t *testing.T, name string, d impl.Disk, kept []bool) {
	t.Helper()
	before := append([]bool(nil), kept...)
	want := carriedOut(d, func(i int) bool { return i < len(before) && before[i] })
	askDisk(t, name, d, want, func(d impl.Disk) impl.Disk { return impl.Crash(d, kept) })
	for i, k := range before {
		if kept[i] != k {
			t.Fatalf("%s: kept was changed", name)
		}
	}
}

func TestCrashByHand(t *testing.T) {
	d := written(write(3, full(1)), write(3, full(2)), write(4, full(3)))
	for _, c := range []struct {
		name        string
		kept        []bool
		three, four []byte
	}{
		{"nil", nil, counted(3), counted(4)},
		{"empty", []bool{}, counted(3), counted(4)},
		{"nothing", []bool{false, false, false}, counted(3), counted(4)},
		{"all", []bool{true, true, true}, full(2), full(3)},
		{"the first of two alone", []bool{true, false, false}, full(1), counted(4)},
		{"the second of two alone", []bool{false, true, false}, full(2), counted(4)},
		{"both of two", []bool{true, true, false}, full(2), counted(4)},
		{"the other block", []bool{false, false, true}, counted(3), full(3)},
		{"the first, and no more entries", []bool{true}, full(1), counted(4)},
		{"two entries", []bool{true, true}, full(2), counted(4)},
		{"an entry too many", []bool{true, false, true, true}, full(1), full(3)},
		{"entries too many alone", []bool{false, false, false, true, true, true}, counted(3), counted(4)},
	} {
		want := written()
		want.Blocks[3], want.Blocks[4] = c.three, c.four
		askDisk(t, c.name, d, want, func(d impl.Disk) impl.Disk { return impl.Crash(d, c.kept) })
		askCrash(t, c.name, d, c.kept)
	}
}

func TestCrashWithNothingWaiting(t *testing.T) {
	for _, kept := range [][]bool{nil, {}, {true}, {false}, {true, true, true}, make([]bool, 1000)} {
		askCrash(t, "nothing waits", written(), kept)
		askCrash(t, "a blank disk", impl.Blank(), kept)
	}
}

// Every choice of what is kept, for writes that meet in few blocks.
func TestCrashWithEveryChoice(t *testing.T) {
	for _, places := range [][]int{{5}, {5, 5}, {5, 6}, {5, 5, 5}, {0, 129, 0}, {1, 2, 1, 2, 1}, {9, 9, 8, 9, 8, 7}} {
		d := written()
		for i, block := range places {
			d.Waiting = append(d.Waiting, write(block, counted(150+i)))
		}
		for entries := 0; entries <= len(places)+1; entries++ {
			for choice := 0; choice < 1<<entries; choice++ {
				kept := make([]bool, entries)
				for i := range kept {
					kept[i] = choice>>i&1 == 1
				}
				askCrash(t, "a choice", d, kept)
			}
		}
	}
}

func TestCrashWithEachSingleWrite(t *testing.T) {
	d := waitingMany(impl.MaxWaiting)
	for i := range impl.MaxWaiting {
		kept := make([]bool, impl.MaxWaiting)
		kept[i] = true
		askCrash(t, "one kept", d, kept)
		askCrash(t, "one kept, the last entry", d, kept[:i+1])
		askCrash(t, "none kept, for the entry is left out", d, kept[:i])
		for k := range kept {
			kept[k] = k != i
		}
		askCrash(t, "one lost", d, kept)
	}
	all := make([]bool, 2*impl.MaxWaiting)
	for i := range all {
		all[i] = true
	}
	askCrash(t, "all kept, and more entries", d, all)
	if !sameDisk(impl.Crash(d, all), impl.Sync(d)) {
		t.Error("a crash that keeps all is no Sync")
	}
}

// What was synced is there behind any crash, whatever is kept.
func TestSyncOutlivesEveryCrash(t *testing.T) {
	rnd := rand.New(rand.NewSource(11))
	for range 300 {
		d := written()
		for range rnd.Intn(20) {
			d = impl.Put(d, rnd.Intn(10), counted(rnd.Intn(256)))
		}
		s := impl.Sync(d)
		for block := range impl.Blocks {
			if !bytes.Equal(impl.Read(s, block), impl.Read(d, block)) {
				t.Fatalf("block %d reads another way behind Sync", block)
			}
		}
		kept := make([]bool, rnd.Intn(30))
		for i := range kept {
			kept[i] = rnd.Intn(2) == 0
		}
		for _, k := range [][]bool{nil, kept, {true, true, true}} {
			if !sameDisk(impl.Crash(s, k), s) {
				t.Fatal("what was synced is lost in a crash")
			}
		}
		// Writes to other blocks, whatever is kept of them, leave it too.
		e := s
		for range 10 {
			e = impl.Put(e, 10+rnd.Intn(10), full(byte(rnd.Intn(256))))
		}
		e = impl.Crash(e, kept)
		for block := range 10 {
			if !bytes.Equal(e.Blocks[block], s.Blocks[block]) {
				t.Fatalf("block %d was synced, and is lost", block)
			}
		}
	}
}

// plainDisk is a disk told again, with texts for blocks.
type plainDisk struct {
	kept    map[int]string
	waiting []plainWrite
}

type plainWrite struct {
	block int
	bytes string
}

func (p plainDisk) disk() impl.Disk {
	var d impl.Disk
	for i := range impl.Blocks {
		b := full(0)
		if s, ok := p.kept[i]; ok {
			b = []byte(s)
		}
		d.Blocks = append(d.Blocks, b)
	}
	for _, w := range p.waiting {
		d.Waiting = append(d.Waiting, write(w.block, []byte(w.bytes)))
	}
	return d
}

// Long lives of disks: each answer is held against the disk told again, and each block is read.
func TestLivesOfDisks(t *testing.T) {
	rnd := rand.New(rand.NewSource(12))
	for range 30 {
		d, p := impl.Blank(), plainDisk{kept: map[int]string{}}
		for range 120 {
			switch k := rnd.Intn(20); {
			case k == 0:
				for _, w := range p.waiting {
					p.kept[w.block] = w.bytes
				}
				p.waiting, d = nil, impl.Sync(d)
			case k == 1:
				kept := make([]bool, rnd.Intn(2*len(p.waiting)+2))
				for i := range kept {
					kept[i] = rnd.Intn(2) == 0
				}
				for i, w := range p.waiting {
					if i < len(kept) && kept[i] {
						p.kept[w.block] = w.bytes
					}
				}
				p.waiting, d = nil, impl.Crash(d, kept)
			default:
				block, b := rnd.Intn(5)*rnd.Intn(33), counted(rnd.Intn(256))
				p.waiting, d = append(p.waiting, plainWrite{block, string(b)}), impl.Put(d, block, b)
			}
			if !impl.DiskOk(d) || !sameDisk(d, p.disk()) {
				t.Fatalf("another disk: %s", difference(d, p.disk()))
			}
		}
		for block := range impl.Blocks {
			last := string(p.disk().Blocks[block])
			for _, w := range p.waiting {
				if w.block == block {
					last = w.bytes
				}
			}
			askRead(t, d, block, []byte(last))
		}
	}
}

// A disk whose lists all lie in one piece of memory: an answer has each of them apart.
func TestDisksThatShareMemory(t *testing.T) {
	one := full(6)
	d := impl.Disk{}
	for range impl.Blocks {
		d.Blocks = append(d.Blocks, one)
	}
	for i := range 5 {
		d.Waiting = append(d.Waiting, write(i, one))
	}
	want := copyOfDisk(d)
	want.Waiting = append(want.Waiting, write(2, full(6)))
	askDisk(t, "Put of what the blocks have", d, want, func(d impl.Disk) impl.Disk { return impl.Put(d, 2, one) })
	want.Waiting = nil
	askDisk(t, "Sync", d, want, impl.Sync)
	askCrash(t, "Crash", d, []bool{true, false, true})
	askRead(t, d, 2, full(6))
	askRead(t, d, 100, full(6))
	// One write twice, to two blocks, carried out.
	w := write(3, full(9))
	e := written(w, w, write(4, w.Bytes))
	s := impl.Sync(e)
	s.Blocks[3][0] = 1
	if s.Blocks[4][0] != 9 || w.Bytes[0] != 9 {
		t.Error("two blocks share what was written to both")
	}
}

// Nothing is written behind an argument, nor taken from there, where its lists have room.
func TestDisksWithRoomBehindThem(t *testing.T) {
	room := append(full(3), full(4)...)
	all := waitingMany(10)
	all.Blocks = append(all.Blocks, full(1), full(2))
	all.Blocks[8], all.Waiting[2].Bytes = room[:impl.BlockSize], room[:impl.BlockSize]
	before := copyOfDisk(all)
	d := impl.Disk{Blocks: all.Blocks[:impl.Blocks], Waiting: all.Waiting[:4]}
	kept := []bool{true, true, true, true, true, true}

	put := impl.Put(d, 8, room[:impl.BlockSize])
	if len(put.Waiting) != 5 || !bytes.Equal(put.Waiting[4].Bytes, full(3)) {
		t.Error("Put took something else")
	}
	if !sameDisk(impl.Sync(d), carriedOut(d, func(int) bool { return true })) {
		t.Error("Sync took something else")
	}
	if !sameDisk(impl.Crash(d, kept[:2]), carriedOut(d, func(i int) bool { return i < 2 })) {
		t.Error("Crash took something else")
	}
	if !bytes.Equal(impl.Read(d, all.Waiting[4].Block), d.Blocks[all.Waiting[4].Block]) {
		t.Error("Read took something else")
	}
	if !sameDisk(all, before) || !bytes.Equal(room[impl.BlockSize:], full(4)) {
		t.Error("something was written behind an argument")
	}
}

// What is written into an answer is seen in no argument, and the other way round.
func TestDisksAreNewMemory(t *testing.T) {
	spoil := func(d impl.Disk) {
		for _, b := range d.Blocks {
			clear(b)
		}
		for _, w := range d.Waiting {
			clear(w.Bytes)
		}
		clear(d.Blocks)
		clear(d.Waiting)
	}
	b := counted(77)
	for name, answer := range map[string]func(d impl.Disk) impl.Disk{
		"Put":   func(d impl.Disk) impl.Disk { return impl.Put(d, 3, b) },
		"Sync":  impl.Sync,
		"Crash": func(d impl.Disk) impl.Disk { return impl.Crash(d, []bool{true, false, true}) },
	} {
		d := waitingMany(5)
		first := answer(d)
		want := copyOfDisk(first)
		spoil(first)
		if !sameDisk(d, waitingMany(5)) || !bytes.Equal(b, counted(77)) {
			t.Errorf("%s: writing into the answer is seen in an argument", name)
		}
		second := answer(d)
		if !sameDisk(second, want) {
			t.Errorf("%s: another answer to the same argument", name)
		}
		spoil(d)
		if !sameDisk(second, want) {
			t.Errorf("%s: writing into the argument is seen in the answer", name)
		}
	}
	d := impl.Put(written(), 3, b)
	clear(b)
	if !bytes.Equal(impl.Read(d, 3), counted(77)) {
		t.Error("writing into the bytes is seen on the disk")
	}
	clear(impl.Read(d, 3))
	clear(impl.Read(d, 4))
	if !bytes.Equal(impl.Read(d, 3), counted(77)) || !bytes.Equal(impl.Read(d, 4), counted(4)) {
		t.Error("writing into what was read is seen on the disk")
	}
}

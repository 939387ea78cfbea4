package tests

import (
	"bytes"
	"fmt"
	"reflect"
	"runtime"
	"slices"
	"testing"

	"loop.example/chest/impl"
)

// full is a block of the same byte everywhere.
func full(x byte) []byte { return bytes.Repeat([]byte{x}, impl.BlockSize) }

// counted is a block whose bytes all differ, so that bytes at wrong places are seen; each begin below 256 has another one.
func counted(begin int) []byte {
	b := make([]byte, impl.BlockSize)
	for i := range b {
		b[i] = byte(begin + 3*i)
	}
	return b
}

func write(block int, b []byte) impl.Write { return impl.Write{Block: block, Bytes: b} }

// written is a disk with something else in each block, and with these writes waiting; it is made by hand.
func written(waiting ...impl.Write) impl.Disk {
	d := impl.Disk{Waiting: waiting}
	for i := 0; i < impl.Blocks; i++ {
		d.Blocks = append(d.Blocks, counted(i))
	}
	return d
}

// waitingMany is a disk with n writes that wait, each to another block than the one before it.
func waitingMany(n int) impl.Disk {
	d := written()
	for i := 0; i < n; i++ {
		d.Waiting = append(d.Waiting, write(7*i%impl.Blocks, counted(100+i)))
	}
	return d
}

// copyOfDisk is the disk in new memory, empty lists as nil.
func copyOfDisk(d impl.Disk) impl.Disk {
	var out impl.Disk
	for _, b := range d.Blocks {
		out.Blocks = append(out.Blocks, append([]byte(nil), b...))
	}
	for _, w := range d.Waiting {
		out.Waiting = append(out.Waiting, write(w.Block, append([]byte(nil), w.Bytes...)))
	}
	return out
}

func sameDisk(a, b impl.Disk) bool {
	return reflect.DeepEqual(copyOfDisk(a), copyOfDisk(b))
}

// isNoDisk is whether there are no blocks and nothing waits.
func isNoDisk(d impl.Disk) bool { return len(d.Blocks) == 0 && len(d.Waiting) == 0 }

func stretchesOfDisk(name string, d impl.Disk) []stretch {
	out := []stretch{stretchOf(name+".Blocks", d.Blocks), stretchOf(name+".Waiting", d.Waiting)}
	for i, b := range d.Blocks {
		out = append(out, stretchOf(fmt.Sprint(name, ".Blocks ", i), b))
	}
	for i, w := range d.Waiting {
		out = append(out, stretchOf(fmt.Sprint(name, ".Waiting ", i), w.Bytes))
	}
	return out
}

// askAllApart fails when two of the answer's stretches meet, or one of them meets one of the others.
func askAllApart(t *testing.T, answer, others []stretch) {
	t.Helper()
	for i, a := range answer {
		askNoneMeets(t, a, answer[:i])
		askNoneMeets(t, a, others)
	}
}

// askDisk asks twice that answer gives the disk want, in new memory each time, and that d stays as it is.
func askDisk(t *testing.T, name string, d, want impl.Disk, answer func(impl.Disk) impl.Disk) {
	t.Helper()
	before := copyOfDisk(d)
	first, second := answer(d), answer(d)
	for _, got := range []impl.Disk{first, second} {
		if !sameDisk(got, want) {
			t.Fatalf("%s: another disk: %s", name, difference(got, want))
		}
	}
	others := append(stretchesOfDisk("the argument", d), stretchesOfDisk("the next answer", second)...)
	askAllApart(t, stretchesOfDisk("the answer", first), others)
	if !sameDisk(d, before) {
		t.Errorf("%s: the argument was changed: %s", name, difference(d, before))
	}
	// A stretch keeps nothing alive, and memory that is free again may be taken anew.
	runtime.KeepAlive([]impl.Disk{first, second})
}

// difference tells the first thing in which two disks are not the same.
func difference(got, want impl.Disk) string {
	if len(got.Blocks) != len(want.Blocks) || len(got.Waiting) != len(want.Waiting) {
		return fmt.Sprintf("%d blocks and %d waiting, not %d and %d", len(got.Blocks), len(got.Waiting), len(want.Blocks), len(want.Waiting))
	}
	for i, b := range want.Blocks {
		if !slices.Equal(got.Blocks[i], b) {
			return fmt.Sprintf("block %d has %v, not %v", i, got.Blocks[i], b)
		}
	}
	for i, w := range want.Waiting {
		if !sameDisk(impl.Disk{Waiting: got.Waiting[i : i+1]}, impl.Disk{Waiting: want.Waiting[i : i+1]}) {
			return fmt.Sprintf("write %d is %v, not %v", i, got.Waiting[i], w)
		}
	}
	return "none"
}

// wrongDisk is a disk that is not as DiskOk wants it.
type wrongDisk struct {
	name string
	disk impl.Disk
}

func wrongDisks() []wrongDisk { return wrongDisksFrom(waitingMany) }

// wrongDisksFrom makes a disk wrong in each way that there is; right is a disk with so many writes waiting.
func wrongDisksFrom(right func(waiting int) impl.Disk) []wrongDisk {
	out := []wrongDisk{{"no disk", impl.Disk{}}, {"no blocks, but a write", impl.Disk{Waiting: []impl.Write{write(0, full(1))}}}}
	add := func(name string, waiting int, change func(d *impl.Disk)) {
		d := right(waiting)
		change(&d)
		out = append(out, wrongDisk{name, d})
	}
	for _, waiting := range []int{0, 3} {
		add("a block too few", waiting, func(d *impl.Disk) { d.Blocks = d.Blocks[:impl.Blocks-1] })
		add("a block too many", waiting, func(d *impl.Disk) { d.Blocks = append(d.Blocks, full(0)) })
		add("one block", waiting, func(d *impl.Disk) { d.Blocks = d.Blocks[:1] })
		add("twice the blocks", waiting, func(d *impl.Disk) { d.Blocks = append(d.Blocks, written().Blocks...) })
		for _, i := range []int{0, 1, 64, impl.Blocks - 2, impl.Blocks - 1} {
			for name, b := range map[string][]byte{
				"no block": nil, "an empty block": {}, "a block of one byte": {1}, "a block one shorter": full(1)[1:],
				"a block one longer": append(full(1), 1), "a block of twice the length": append(full(1), full(1)...),
			} {
				add(fmt.Sprint(name, " at ", i), waiting, func(d *impl.Disk) { d.Blocks[i] = b })
			}
		}
	}
	add("a write above MaxWaiting", impl.MaxWaiting+1, func(*impl.Disk) {})
	add("twice MaxWaiting", 2*impl.MaxWaiting, func(*impl.Disk) {})
	for _, i := range []int{0, 1, 100, impl.MaxWaiting - 1} {
		for _, w := range wrongWrites() {
			add(fmt.Sprint(w.name, ", write ", i), impl.MaxWaiting, func(d *impl.Disk) { d.Waiting[i] = w.write })
		}
	}
	for _, w := range wrongWrites() {
		add(w.name+", alone", 0, func(d *impl.Disk) { d.Waiting = []impl.Write{w.write} })
	}
	return out
}

// wrongWrite is a write that a disk cannot take.
type wrongWrite struct {
	name  string
	write impl.Write
}

func wrongWrites() []wrongWrite {
	var out []wrongWrite
	for _, block := range []int{-1, impl.Blocks, impl.Blocks + 1, -impl.Blocks, 1 << 32, -1 << 63, 1<<63 - 1} {
		out = append(out, wrongWrite{fmt.Sprint("to block ", block), write(block, full(1))})
	}
	for _, n := range []int{0, 1, impl.BlockSize - 1, impl.BlockSize + 1, 2 * impl.BlockSize} {
		for _, block := range []int{0, impl.Blocks - 1} {
			out = append(out, wrongWrite{fmt.Sprint(n, " bytes to block ", block), write(block, make([]byte, n))})
		}
	}
	out = append(out, wrongWrite{"nil", write(0, nil)})
	out = append(out, wrongWrite{"nothing to no block", write(-1, nil)})
	return out
}

package tests

import (
	"bytes"
	"encoding/binary"
	"fmt"
	"reflect"
	"runtime"
	"testing"

	"loop.example/chest/impl"
)

// sealedHead is a head's block with these bytes in it, and with the sum behind them that they ought to have.
func sealedHead(body []byte) []byte {
	b := sealed(body)
	return append(b, make([]byte, impl.BlockSize-len(b))...)
}

// headBy is a head's block made by the library's numbers, whether or not there may be such a head.
func headBy(gen, length, sum int64) []byte {
	b := []byte("HEAD")
	for _, n := range []int64{gen, length, sum} {
		b = binary.LittleEndian.AppendUint64(b, uint64(n))
	}
	return sealedHead(b)
}

// anImage is n bytes, none of them 0, in which no two blocks are the same; each begin below 255 has another one.
func anImage(n, begin int) []byte {
	b := make([]byte, n)
	for i := range b {
		b[i] = byte(1 + (begin+7*i+i/64)%255)
	}
	return b
}

// imageAt is the block with which a slot's image begins.
func imageAt(slot int) int {
	if slot == 0 {
		return 2
	}
	return 66
}

// parts is the writes of an image into a slot, its last block filled up with zeros.
func parts(slot int, image []byte) []impl.Write {
	var out []impl.Write
	for at := 0; at < len(image); at += 64 {
		b := make([]byte, 64)
		copy(b, image[at:])
		out = append(out, write(imageAt(slot)+at/64, b))
	}
	return out
}

// headWrite is the write of the head that an image has.
func headWrite(slot, gen int, image []byte) impl.Write {
	return write(slot, headBy(int64(gen), int64(len(image)), sumBy(image)))
}

// laid is one image in one slot.
type laid struct {
	slot, gen int
	image     []byte
}

func (l laid) writes() []impl.Write {
	return append(parts(l.slot, l.image), headWrite(l.slot, l.gen, l.image))
}

func (l laid) kept() impl.Kept {
	return impl.Kept{Ok: true, Gen: l.gen, Slot: l.slot, Bytes: l.image}
}

// diskWith is a disk made by hand on which these images are kept; all else on it is neither a head nor zeros.
func diskWith(images ...laid) impl.Disk {
	d := written()
	for _, l := range images {
		for _, w := range l.writes() {
			d.Blocks[w.Block] = w.Bytes
		}
	}
	return d
}

// diskAwaiting is a disk on which these images are, but their writes wait.
func diskAwaiting(images ...laid) impl.Disk {
	d := written()
	for _, l := range images {
		d.Waiting = append(d.Waiting, l.writes()...)
	}
	return d
}

// both is a disk with an image in each slot, the one in slot 1 newer; the writes that wait touch neither.
func both(waiting int) impl.Disk {
	d := diskWith(laid{0, 3, anImage(100, 1)}, laid{1, 4, anImage(130, 2)})
	for i := range waiting {
		d.Waiting = append(d.Waiting, write(100+i%10, counted(i)))
	}
	return d
}

// single is a disk that has no more than one image, in slot 0; nothing waits.
func single() impl.Disk { return diskWith(laid{0, 7, anImage(65, 3)}) }

// askHead asks twice for a slot's head, and that the disk stays as it is.
func askHead(t *testing.T, name string, d impl.Disk, slot int, want impl.Head) {
	t.Helper()
	before := copyOfDisk(d)
	for range 2 {
		if got := impl.HeadOf(d, slot); got != want {
			t.Errorf("%s: the head of slot %d is %v, not %v", name, slot, got, want)
		}
	}
	if !sameDisk(d, before) {
		t.Errorf("%s: the argument was changed: %s", name, difference(d, before))
	}
}

func sameKept(a, b impl.Kept) bool {
	return a.Ok == b.Ok && a.Gen == b.Gen && a.Slot == b.Slot && bytes.Equal(a.Bytes, b.Bytes)
}

// askNewest asks twice for what is newest, in new memory each time, and that the disk stays as it is.
func askNewest(t *testing.T, name string, d impl.Disk, want impl.Kept) {
	t.Helper()
	before := copyOfDisk(d)
	first, second := impl.Newest(d), impl.Newest(d)
	for _, got := range []impl.Kept{first, second} {
		if !sameKept(got, want) {
			t.Errorf("%s: the newest is %v, not %v", name, got, want)
		}
	}
	others := append(stretchesOfDisk("the disk", d), stretchOf("the next answer", second.Bytes))
	askNoneMeets(t, stretchOf("the image", first.Bytes), others)
	if !sameDisk(d, before) {
		t.Errorf("%s: the argument was changed: %s", name, difference(d, before))
	}
	runtime.KeepAlive([]impl.Kept{first, second})
}

func syncOp() impl.Op { return impl.Op{Sync: true} }

func putOp(w impl.Write) impl.Op { return impl.Op{Block: w.Block, Bytes: w.Bytes} }

// opsBy is what lays an image down in a slot.
func opsBy(l laid) []impl.Op {
	var out []impl.Op
	for _, w := range parts(l.slot, l.image) {
		out = append(out, putOp(w))
	}
	return append(out, syncOp(), putOp(headWrite(l.slot, l.gen, l.image)), syncOp())
}

// copyOfOps is the ops in new memory, empty lists as nil.
func copyOfOps(ops []impl.Op) []impl.Op {
	var out []impl.Op
	for _, o := range ops {
		o.Bytes = append([]byte(nil), o.Bytes...)
		out = append(out, o)
	}
	return out
}

func sameOps(a, b []impl.Op) bool { return reflect.DeepEqual(copyOfOps(a), copyOfOps(b)) }

func stretchesOfOps(name string, ops []impl.Op) []stretch {
	out := []stretch{stretchOf(name, ops)}
	for i, o := range ops {
		out = append(out, stretchOf(fmt.Sprint(name, " ", i), o.Bytes))
	}
	return out
}

// askOps asks twice for the ops that lay an image down, in new memory each time, and that the disk and the image stay as they are.
func askOps(t *testing.T, name string, d impl.Disk, image []byte, want []impl.Op) {
	t.Helper()
	beforeDisk, beforeImage := copyOfDisk(d), bytes.Clone(image)
	first, second := impl.Ops(d, image), impl.Ops(d, image)
	for _, got := range [][]impl.Op{first, second} {
		if !sameOps(got, want) {
			t.Fatalf("%s: %d ops, %v, not %d, %v", name, len(got), got, len(want), want)
		}
	}
	others := append(stretchesOfDisk("the disk", d), stretchesOfOps("the next answer", second)...)
	askAllApart(t, stretchesOfOps("the ops", first), append(others, stretchOf("the image", image)))
	if !sameDisk(d, beforeDisk) || !bytes.Equal(image, beforeImage) {
		t.Errorf("%s: an argument was changed", name)
	}
	runtime.KeepAlive([][]impl.Op{first, second})
}

// askApply asks twice for the disk behind the first n ops, in new memory each time, and that the disk and the ops stay as they are.
func askApply(t *testing.T, name string, d impl.Disk, ops []impl.Op, n int, want impl.Disk) {
	t.Helper()
	before := copyOfOps(ops)
	askDisk(t, name, d, want, func(d impl.Disk) impl.Disk { return impl.Apply(d, ops, n) })
	if !sameOps(ops, before) {
		t.Errorf("%s: the ops were changed", name)
	}
	askAllApart(t, stretchesOfDisk("the answer", impl.Apply(d, ops, n)), stretchesOfOps("the ops", ops))
}

// behind is the disk behind ops that can be done, told by Put and Sync.
func behind(d impl.Disk, ops []impl.Op) impl.Disk {
	for _, o := range ops {
		if o.Sync {
			d = impl.Sync(d)
		} else {
			d = impl.Put(d, o.Block, o.Bytes)
		}
	}
	return d
}

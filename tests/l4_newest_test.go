package tests

import (
	"bytes"
	"fmt"
	"math/rand"
	"testing"

	"loop.example/chest/impl"
)

// lengths is those at which an image begins or ends a block, and the limits.
var lengths = []int{1, 2, 63, 64, 65, 127, 128, 129, 1000, 4031, 4032, 4033, 4095, 4096}

func TestNewestWhenNoneIsWhole(t *testing.T) {
	none := impl.Kept{}
	askNewest(t, "a blank disk", impl.Blank(), none)
	askNewest(t, "a disk with something in each block", written(), none)
	askNewest(t, "a disk on which much waits", waitingMany(impl.MaxWaiting), none)
	for slot := range 2 {
		d := diskWith(laid{slot, 3, anImage(65, 1)})
		d.Blocks[slot] = full(0)
		askNewest(t, "an image without a head", d, none)
		d = written()
		d.Blocks[slot] = headWrite(slot, 3, anImage(65, 1)).Bytes
		askNewest(t, "a head without an image", d, none)
		d = diskWith(laid{slot, 3, anImage(65, 1)})
		d.Blocks[0], d.Blocks[1] = d.Blocks[1], d.Blocks[0]
		askNewest(t, "the head of the other slot", d, none)
		// Of an image of zeros a blank disk has the sum, if it is as long as the head says.
		d = impl.Blank()
		d.Blocks[slot] = headBy(1, 5, sumBy(make([]byte, 6)))
		askNewest(t, "a sum of zeros, one more than there are", d, none)
		d.Blocks[slot] = headBy(1, 5, sumBy(make([]byte, 5)))
		askNewest(t, "as many zeros as there are", d, impl.Kept{Ok: true, Gen: 1, Slot: slot, Bytes: make([]byte, 5)})
		d.Blocks[slot] = headBy(1, 0, sumBy(nil))
		askNewest(t, "an image of no bytes", d, none)
		d.Blocks[slot] = headBy(1, 4097, sumBy(make([]byte, 4097)))
		askNewest(t, "an image above MaxImage", d, none)
		d.Blocks[slot] = headBy(1, 4096, sumBy(make([]byte, 4096)))
		askNewest(t, "an image of MaxImage zeros", d, impl.Kept{Ok: true, Gen: 1, Slot: slot, Bytes: make([]byte, 4096)})
	}
}

func TestNewestOfOneSlot(t *testing.T) {
	for slot := range 2 {
		for _, n := range lengths {
			for _, gen := range []int{1, 2, 1000, impl.MaxGen - 1, impl.MaxGen} {
				l := laid{slot, gen, anImage(n, gen%100)}
				askNewest(t, fmt.Sprint("kept, ", n), diskWith(l), l.kept())
				askNewest(t, fmt.Sprint("waiting, ", n), diskAwaiting(l), l.kept())
			}
		}
	}
}

func TestNewestOfTwoSlots(t *testing.T) {
	for _, c := range []struct{ zero, one, newest int }{
		{1, 2, 1}, {2, 1, 0}, {2, 3, 1}, {3, 2, 0}, {1, 1, 0}, {7, 7, 0}, {impl.MaxGen, impl.MaxGen, 0},
		{impl.MaxGen, 1, 0}, {1, impl.MaxGen, 1}, {impl.MaxGen - 1, impl.MaxGen, 1}, {impl.MaxGen, impl.MaxGen - 1, 0},
		{1 << 32, 1, 0}, {1, 1 << 32, 1}, {1<<32 + 1, 2, 0}, {2, 1<<32 + 1, 1}, {255, 256, 1}, {256, 255, 0}, {5, 500, 1}, {500, 5, 0},
	} {
		for _, n := range []int{1, 64, 65, 4096} {
			for _, m := range []int{1, 64, 100, 4096} {
				images := []laid{{0, c.zero, anImage(n, 1)}, {1, c.one, anImage(m, 2)}}
				want := images[c.newest].kept()
				askNewest(t, fmt.Sprint("kept ", c), diskWith(images...), want)
				d := diskWith(images[0])
				d.Waiting = images[1].writes()
				askNewest(t, fmt.Sprint("one waiting ", c), d, want)
				d = diskWith(images[1])
				d.Waiting = images[0].writes()
				askNewest(t, fmt.Sprint("the other waiting ", c), d, want)
			}
		}
	}
	// The same image in both slots.
	images := []laid{{0, 4, anImage(70, 1)}, {1, 4, anImage(70, 1)}}
	askNewest(t, "the same Gen and image", diskWith(images...), images[0].kept())
}

// Each byte of an image, and of its head, changed: the slot is not whole then, and the other one is newest.
func TestNewestWithAByteChanged(t *testing.T) {
	for slot := range 2 {
		for _, n := range []int{1, 64, 65, 300} {
			changed, other := laid{slot, 9, anImage(n, 1)}, laid{1 - slot, 2, anImage(77, 2)}
			alone, two := diskWith(changed), diskWith(changed, other)
			ask := func(block, at int) {
				t.Helper()
				for _, x := range []byte{1, 2, 4, 8, 16, 32, 64, 128, 255} {
					for _, d := range []impl.Disk{alone, two} {
						d.Blocks[block][at] ^= x
					}
					if got := impl.Newest(alone); !sameKept(got, impl.Kept{}) {
						t.Fatalf("byte %d of block %d: %v", at, block, got)
					}
					if got := impl.Newest(two); !sameKept(got, other.kept()) {
						t.Fatalf("byte %d of block %d, two slots: %v", at, block, got)
					}
					for _, d := range []impl.Disk{alone, two} {
						d.Blocks[block][at] ^= x
					}
				}
			}
			for i := range n {
				ask(imageAt(slot)+i/64, i%64)
			}
			for i := range 64 {
				ask(slot, i)
			}
			askNewest(t, "as it was", two, changed.kept())
		}
	}
}

// Every bit of the sum counts.
func TestNewestWithAnotherSum(t *testing.T) {
	image := anImage(70, 1)
	for slot := range 2 {
		changed, other := laid{slot, 9, image}, laid{1 - slot, 2, anImage(77, 2)}
		d := diskWith(changed, other)
		for bit := range 64 {
			d.Blocks[slot] = headBy(9, 70, sumBy(image)^1<<bit)
			if !impl.HeadOf(d, slot).Ok {
				t.Fatal("the test itself is wrong")
			}
			askNewest(t, fmt.Sprint("bit ", bit), d, other.kept())
		}
	}
}

// What stands behind the image, in its last block or in the blocks that follow, is not looked at.
func TestNewestLooksAtNothingBehindTheImage(t *testing.T) {
	for slot := range 2 {
		for _, n := range lengths {
			l := laid{slot, 5, anImage(n, 3)}
			d := diskWith(l)
			for at := n; at < 4096; at++ {
				d.Blocks[imageAt(slot)+at/64][at%64] = 0xee
			}
			askNewest(t, fmt.Sprint("something behind ", n), d, l.kept())
			// Nor are the other slot's blocks.
			for i := range 64 {
				d.Blocks[imageAt(1-slot)+i] = full(9)
			}
			d.Blocks[1-slot] = full(8)
			askNewest(t, fmt.Sprint("another in the other slot ", n), d, l.kept())
		}
	}
}

// A head says how long the image is: of the same blocks a shorter one is as whole, when the sum is that one's.
func TestNewestTakesTheLengthFromTheHead(t *testing.T) {
	long := anImage(4096, 4)
	for slot := range 2 {
		d := diskWith(laid{slot, 1, long})
		for n := 1; n <= 4096; n += 13 {
			d.Blocks[slot] = headBy(6, int64(n), sumBy(long[:n]))
			if got := impl.Newest(d); !sameKept(got, laid{slot, 6, long[:n]}.kept()) {
				t.Fatalf("length %d: %d bytes", n, len(got.Bytes))
			}
			d.Blocks[slot] = headBy(6, int64(n), sumBy(long[:n-1]))
			if got := impl.Newest(d); !sameKept(got, impl.Kept{}) {
				t.Fatalf("length %d, the sum of one less: %d bytes", n, len(got.Bytes))
			}
		}
	}
}

func TestNewestReadsWritesThatWait(t *testing.T) {
	old, other := laid{0, 5, anImage(130, 1)}, laid{1, 4, anImage(10, 2)}
	for block, want := range map[int]impl.Kept{
		0: other.kept(), 2: other.kept(), 3: other.kept(), 4: other.kept(), 5: old.kept(), 65: old.kept(), 1: old.kept(), 66: old.kept(), 129: old.kept(),
	} {
		d := diskWith(old, other)
		d.Waiting = []impl.Write{write(block, full(0))}
		askNewest(t, fmt.Sprint("zeros wait for block ", block), d, want)
		d.Waiting = append(d.Waiting, write(block, d.Blocks[block]))
		askNewest(t, fmt.Sprint("what was there waits for block ", block), d, old.kept())
		d.Waiting = append(d.Waiting, write(block, full(0)))
		askNewest(t, fmt.Sprint("zeros wait again for block ", block), d, want)
		if !sameKept(impl.Newest(impl.Sync(d)), want) || !sameKept(impl.Newest(impl.Crash(d, nil)), old.kept()) {
			t.Errorf("block %d: another one when the writes are carried out, or lost", block)
		}
	}
	// An image laid over another, of which all waits, and but a part.
	over := laid{0, 6, anImage(200, 3)}
	d := diskWith(old, other)
	for i, w := range over.writes() {
		d.Waiting = append(d.Waiting, w)
		want := other.kept()
		if i == 4 {
			want = over.kept()
		}
		askNewest(t, fmt.Sprint("write ", i, " of the next image"), d, want)
	}
}

func TestNewestOfWrongDisks(t *testing.T) {
	for _, w := range append(wrongDisksFrom(both), wrongDisks()...) {
		askNewest(t, w.name, w.disk, impl.Kept{})
	}
	for _, n := range []int{0, 1, impl.MaxWaiting} {
		if k := impl.Newest(both(n)); !k.Ok || k.Gen != 4 {
			t.Error("nothing where the disk is right")
		}
	}
}

// newestBy tells again what is newest, by the blocks as they read.
func newestBy(d impl.Disk) impl.Kept {
	var best impl.Kept
	for slot := 1; slot >= 0; slot-- {
		h := impl.HeadOf(d, slot)
		if !h.Ok || h.Gen < best.Gen {
			continue
		}
		var all []byte
		for i := range 64 {
			all = append(all, impl.Read(d, imageAt(slot)+i)...)
		}
		if sumBy(all[:h.Len]) == h.Sum {
			best = impl.Kept{Ok: true, Gen: h.Gen, Slot: slot, Bytes: all[:h.Len]}
		}
	}
	return best
}

// Disks on which parts of few images were written, and wait, in any order.
func TestNewestOfManyDisks(t *testing.T) {
	rnd := rand.New(rand.NewSource(22))
	seen := map[string]int{}
	for range 2000 {
		var writes []impl.Write
		for range 1 + rnd.Intn(4) {
			l := laid{rnd.Intn(2), 1 + rnd.Intn(3), anImage(1+rnd.Intn(130), rnd.Intn(3))}
			writes = append(writes, l.writes()...)
		}
		if rnd.Intn(2) == 0 {
			writes = append(writes, write(rnd.Intn(70), full(byte(rnd.Intn(3)))))
		}
		rnd.Shuffle(len(writes), func(i, k int) {
			if rnd.Intn(3) == 0 {
				writes[i], writes[k] = writes[k], writes[i]
			}
		})
		d := written()
		for _, w := range writes {
			if rnd.Intn(6) == 0 {
				d = impl.Sync(d)
			}
			d = impl.Put(d, w.Block, w.Bytes)
		}
		want := newestBy(d)
		seen[fmt.Sprint(want.Ok, want.Slot)]++
		askNewest(t, "any", d, want)
	}
	if len(seen) != 3 || seen["false 0"] < 100 || seen["true 0"] < 100 || seen["true 1"] < 100 {
		t.Errorf("the disks are too much of one kind: %v", seen)
	}
}

func TestNewestIsNewMemory(t *testing.T) {
	for _, n := range []int{5, 64, 4096} {
		l := laid{1, 3, anImage(n, 1)}
		for _, d := range []impl.Disk{diskWith(l), diskAwaiting(l)} {
			first := impl.Newest(d)
			clear(first.Bytes)
			clear(first.Bytes[:cap(first.Bytes)])
			second := impl.Newest(d)
			if !bytes.Equal(second.Bytes, l.image) {
				t.Error("writing into the answer is seen on the disk")
			}
			for _, b := range d.Blocks {
				clear(b)
			}
			for _, w := range d.Waiting {
				clear(w.Bytes)
			}
			if !bytes.Equal(second.Bytes, anImage(n, 1)) {
				t.Error("writing into the disk is seen in the answer")
			}
		}
	}
}

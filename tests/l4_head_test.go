package tests

import (
	"bytes"
	"fmt"
	"math"
	"math/rand"
	"testing"

	"loop.example/chest/impl"
)

func TestTheSavesLimits(t *testing.T) {
	if impl.MaxGen != 1000000000000 || impl.SlotBlocks != 64 || impl.MaxImage != 4096 {
		t.Error("other limits than the document's")
	}
}

// headsThatMayBe is heads at the edges of each field, and others.
func headsThatMayBe() []impl.Head {
	var out []impl.Head
	for _, gen := range []int{1, 2, 127, 128, 255, 256, 1 << 31, 1 << 32, impl.MaxGen - 1, impl.MaxGen} {
		for _, length := range []int{1, 2, 64, 65, 255, 256, impl.MaxImage - 1, impl.MaxImage} {
			for _, sum := range []int64{0, 1, -1, 255, math.MinInt64, math.MaxInt64, 0x0807060504030201} {
				out = append(out, impl.Head{Ok: true, Gen: gen, Len: length, Sum: sum})
			}
		}
	}
	return out
}

// headsThatMayNot is heads that have no block.
func headsThatMayNot() []impl.Head {
	out := []impl.Head{{}, {Sum: 5}, {Ok: true}, {Ok: true, Sum: -5}}
	for _, h := range headsThatMayBe() {
		h.Ok = false
		out = append(out, h)
	}
	for _, gen := range []int{0, -1, impl.MaxGen + 1, -impl.MaxGen, math.MinInt, math.MaxInt, 1 << 48, math.MinInt + 1} {
		for _, length := range []int{1, 65, impl.MaxImage} {
			out = append(out, impl.Head{Ok: true, Gen: gen, Len: length, Sum: 9})
		}
	}
	for _, length := range []int{0, -1, impl.MaxImage + 1, -impl.MaxImage, math.MinInt, math.MaxInt, 1<<32 + 1, math.MinInt + 1} {
		for _, gen := range []int{1, 258, impl.MaxGen} {
			out = append(out, impl.Head{Ok: true, Gen: gen, Len: length, Sum: 9})
		}
	}
	return append(out, impl.Head{Ok: true, Gen: 0, Len: 0}, impl.Head{Ok: true, Gen: -1, Len: -1})
}

func TestHeadBlockByteByByte(t *testing.T) {
	for _, c := range []struct {
		head impl.Head
		want []byte
	}{
		{impl.Head{Ok: true, Gen: 0x0102030405, Len: 0x0607, Sum: 0x18191a1b1c1d1e1f}, []byte{
			'H', 'E', 'A', 'D', 5, 4, 3, 2, 1, 0, 0, 0, 7, 6, 0, 0, 0, 0, 0, 0,
			0x1f, 0x1e, 0x1d, 0x1c, 0x1b, 0x1a, 0x19, 0x18}},
		{impl.Head{Ok: true, Gen: 1, Len: 1}, []byte{
			'H', 'E', 'A', 'D', 1, 0, 0, 0, 0, 0, 0, 0, 1, 0, 0, 0, 0, 0, 0, 0, 0, 0, 0, 0, 0, 0, 0, 0}},
		{impl.Head{Ok: true, Gen: 258, Len: 65, Sum: -2}, []byte{
			'H', 'E', 'A', 'D', 2, 1, 0, 0, 0, 0, 0, 0, 65, 0, 0, 0, 0, 0, 0, 0, 254, 255, 255, 255, 255, 255, 255, 255}},
		{impl.Head{Ok: true, Gen: impl.MaxGen, Len: impl.MaxImage, Sum: math.MinInt64}, []byte{
			'H', 'E', 'A', 'D', 0, 0x10, 0xa5, 0xd4, 0xe8, 0, 0, 0, 0, 16, 0, 0, 0, 0, 0, 0, 0, 0, 0, 0, 0, 0, 0, 128}},
	} {
		got := impl.HeadBlock(c.head)
		if len(got) != 64 {
			t.Fatalf("%v: %d bytes", c.head, len(got))
		}
		sum := uint64(sumBy(c.want))
		for i := range got {
			want := byte(0)
			switch {
			case i < 28:
				want = c.want[i]
			case i < 36:
				want = byte(sum >> (8 * (i - 28)))
			}
			if got[i] != want {
				t.Errorf("%v: byte %d is %d, not %d", c.head, i, got[i], want)
			}
		}
	}
}

func TestHeadBlock(t *testing.T) {
	for _, h := range headsThatMayBe() {
		first, second := impl.HeadBlock(h), impl.HeadBlock(h)
		want := headBy(int64(h.Gen), int64(h.Len), h.Sum)
		if !bytes.Equal(first, want) || !bytes.Equal(second, want) {
			t.Errorf("%v: %v, not %v", h, first, want)
		}
		askNoneMeets(t, stretchOf("the block", first), []stretch{stretchOf("the next block", second)})
		clear(first)
		if !bytes.Equal(impl.HeadBlock(h), want) {
			t.Errorf("%v: writing into an answer is seen in the next", h)
		}
	}
	for _, h := range headsThatMayNot() {
		if b := impl.HeadBlock(h); len(b) != 0 {
			t.Errorf("%v has the block %v", h, b)
		}
	}
}

func TestHeadOfReadsBackEachHead(t *testing.T) {
	for _, h := range headsThatMayBe() {
		for slot := range 2 {
			b := impl.HeadBlock(h)
			kept := written()
			kept.Blocks[slot] = b
			askHead(t, "kept", kept, slot, h)
			askHead(t, "kept, the other slot", kept, 1-slot, impl.Head{})
			waits := written(write(slot, full(1)), write(slot, b), write(1-slot, full(2)))
			askHead(t, "waiting", waits, slot, h)
			askHead(t, "waiting, the other slot", waits, 1-slot, impl.Head{})
			if got := impl.HeadOf(impl.Sync(waits), slot); got != h {
				t.Errorf("synced: %v, not %v", got, h)
			}
			if got := impl.HeadOf(impl.Crash(waits, []bool{true}), slot); got != (impl.Head{}) {
				t.Errorf("lost: %v", got)
			}
		}
	}
}

// The last write to a head's block counts, whether it is a head or none.
func TestHeadOfWritesThatWait(t *testing.T) {
	old, last := impl.Head{Ok: true, Gen: 5, Len: 6, Sum: 7}, impl.Head{Ok: true, Gen: 2, Len: 3, Sum: 4}
	for slot := range 2 {
		d := written()
		d.Blocks[slot] = impl.HeadBlock(old)
		askHead(t, "nothing waits", d, slot, old)
		d.Waiting = []impl.Write{write(slot, impl.HeadBlock(last))}
		askHead(t, "another head waits", d, slot, last)
		d.Waiting = append(d.Waiting, write(slot, impl.HeadBlock(old)))
		askHead(t, "the first head waits again", d, slot, old)
		d.Waiting = append(d.Waiting, write(slot, full(0)))
		askHead(t, "zeros wait", d, slot, impl.Head{})
		d.Waiting = append(d.Waiting, write(1-slot, impl.HeadBlock(last)))
		askHead(t, "a head waits for the other slot", d, slot, impl.Head{})
		askHead(t, "a head waits for the other slot", d, 1-slot, last)
	}
}

func TestHeadOfEachByteChanged(t *testing.T) {
	heads := []impl.Head{{Ok: true, Gen: 258, Len: 65, Sum: -1}, {Ok: true, Gen: 1, Len: 1}, {Ok: true, Gen: impl.MaxGen, Len: impl.MaxImage, Sum: 123456789}}
	for _, h := range heads {
		for slot := range 2 {
			d := written()
			d.Blocks[slot] = impl.HeadBlock(h)
			for at := range 64 {
				for x := 1; x < 256; x++ {
					d.Blocks[slot][at] ^= byte(x)
					if got := impl.HeadOf(d, slot); got != (impl.Head{}) {
						t.Fatalf("byte %d xor %d: read as %v", at, x, got)
					}
					d.Blocks[slot][at] ^= byte(x)
				}
			}
			askHead(t, "as it was", d, slot, h)
		}
	}
}

// askNoHead asks that a block is read as no head, kept or waiting, in either slot.
func askNoHead(t *testing.T, name string, b []byte) {
	t.Helper()
	for slot := range 2 {
		d := written()
		d.Blocks[slot] = bytes.Clone(b)
		askHead(t, name, d, slot, impl.Head{})
		askHead(t, name+", waiting", written(write(slot, b)), slot, impl.Head{})
	}
}

// The sum is right in all of these; there is no head with such a block all the same.
func TestHeadOfRightSumsOverWrongHeads(t *testing.T) {
	for _, h := range headsThatMayNot() {
		if h.Ok {
			askNoHead(t, fmt.Sprint(h), headBy(int64(h.Gen), int64(h.Len), h.Sum))
		}
	}
	right := headBy(258, 65, -1)
	for _, mark := range []string{"head", "HEAP", "XEAD", "DAEH", "H1AD", "\x00\x00\x00\x00", "HEA\x00", "HEAE"} {
		askNoHead(t, mark, sealedHead(append([]byte(mark), right[4:28]...)))
	}
	for at := 36; at < 64; at++ {
		b := bytes.Clone(right)
		b[at] = 1
		askNoHead(t, fmt.Sprint("something behind the sum, at ", at), b)
	}
	askNoHead(t, "much behind the sum", append(sealed(right[:28]), full(7)...)[:64])
	// A sum over more than the 28 bytes, or at another place.
	long := sealed(right[:36])
	askNoHead(t, "a second sum", append(long, make([]byte, 64-len(long))...))
	askNoHead(t, "a sum over 29 bytes", sealedHead(append(bytes.Clone(right[:28]), 0)))
	askNoHead(t, "a sum over 27 bytes", sealedHead(right[:27]))
	askNoHead(t, "the sum of nothing", sealedHead(nil))
	askNoHead(t, "a sum that leaves the mark out", append(append([]byte("HEAD"), sealed(right[4:28])...), make([]byte, 28)...))
	askNoHead(t, "one byte further", append([]byte{0}, right[:63]...))
	askNoHead(t, "one byte ahead", append(bytes.Clone(right[1:]), 0))
}

func TestHeadOfBlocksThatAreNone(t *testing.T) {
	for x := range 256 {
		askNoHead(t, "the same byte everywhere", full(byte(x)))
	}
	for slot := range 2 {
		askHead(t, "a blank disk", impl.Blank(), slot, impl.Head{})
		askHead(t, "a disk with something in each block", written(), slot, impl.Head{})
	}
	rnd := rand.New(rand.NewSource(21))
	for range 200 {
		b := make([]byte, 64)
		rnd.Read(b)
		askNoHead(t, "anything", b)
		copy(b, "HEAD")
		askNoHead(t, "anything behind the mark", b)
		askNoHead(t, "anything that is sealed", sealedHead(b[:28]))
	}
}

func TestHeadOfSlotsThatThereAreNot(t *testing.T) {
	d := diskWith(laid{0, 3, anImage(100, 1)}, laid{1, 4, anImage(130, 2)})
	for i := range d.Blocks {
		d.Blocks[i] = headBy(5, 6, 7)
	}
	for _, slot := range []int{-1, 2, 3, -2, 64, 129, 130, 1 << 32, 1<<32 + 1, math.MinInt, math.MaxInt} {
		askHead(t, "no such slot", d, slot, impl.Head{})
		askHead(t, "no such slot of a blank disk", impl.Blank(), slot, impl.Head{})
	}
	askHead(t, "slot 0", d, 0, impl.Head{Ok: true, Gen: 5, Len: 6, Sum: 7})
	askHead(t, "slot 1", d, 1, impl.Head{Ok: true, Gen: 5, Len: 6, Sum: 7})
}

func TestHeadOfWrongDisks(t *testing.T) {
	for _, w := range wrongDisksFrom(both) {
		for slot := -1; slot <= 2; slot++ {
			askHead(t, w.name, w.disk, slot, impl.Head{})
		}
	}
	for _, n := range []int{0, 1, impl.MaxWaiting} {
		if !impl.HeadOf(both(n), 0).Ok || !impl.HeadOf(both(n), 1).Ok {
			t.Error("no heads where the disk is right")
		}
	}
}

package tests

import (
	"bytes"
	"fmt"
	"slices"
	"testing"

	"loop.example/chest/impl"
)

// spots is each byte of a slot's head block, and of the image that it holds, as a block and a place in it.
func spots(slot, length int) [][2]int {
	var out [][2]int
	for at := range 64 {
		out = append(out, [2]int{slot, at})
	}
	for at := range length {
		out = append(out, [2]int{imageAt(slot) + at/64, at % 64})
	}
	return out
}

// askBits asks that each bit of the newest one's head and image, changed alone, makes the older one what is taken up.
func askBits(t *testing.T, name string, d impl.Disk, older impl.Taken) {
	t.Helper()
	k := impl.Newest(d)
	newer := impl.Take(d)
	for _, s := range spots(k.Slot, len(k.Bytes)) {
		for bit := range 8 {
			d.Blocks[s[0]][s[1]] ^= 1 << bit
			if got := impl.Take(d); !sameTaken(got, older) {
				t.Fatalf("%s: bit %d of byte %d of block %d changed: taken up is %v, not %v", name, bit, s[1], s[0], got, older)
			}
			d.Blocks[s[0]][s[1]] ^= 1 << bit
		}
	}
	askTake(t, name+", nothing changed", d, newer)
}

func TestOneBitChanged(t *testing.T) {
	pairs := [][2]impl.Graph{
		{graph(num(1)), graph(num(2))}, {graph(num(1)), graph(num(1))}, {rich(), sized(64, 1)}, {sized(64, 1), sized(65, 2)},
		{sized(300, 1), rich()}, {long(impl.MaxImage), graph(txt("short"))}, {{}, sized(200, 3)}, {sized(200, 3), {}},
	}
	for i, p := range pairs {
		d := impl.Keep(impl.Keep(impl.Blank(), p[0]), p[1])
		askBits(t, fmt.Sprint("pair ", i), d, taken(1, p[0]))
		// Behind more layings-down the newer one is in slot 0, over an image that was there.
		d = impl.Keep(impl.Keep(impl.Keep(impl.Blank(), sized(100, 9)), p[0]), p[1])
		askBits(t, fmt.Sprint("pair ", i, " behind another"), d, taken(2, p[0]))
	}
}

func TestOneBitChangedInTheLongestImage(t *testing.T) {
	askBits(t, "the longest", impl.Keep(impl.Keep(impl.Blank(), rich()), long(impl.MaxImage)), taken(1, rich()))
}

// Also when cuts came between the two, and when the older one is the image of no graph.
func TestOneBitChangedBehindCuts(t *testing.T) {
	d := impl.Keep(impl.Blank(), rich())
	for n := range 6 {
		g := sized(150, n)
		d = impl.Crash(impl.Apply(d, impl.Ops(d, impl.Pack(g)), n), []bool{n%2 == 0, true})
	}
	first := impl.Take(d)
	d = impl.Keep(d, sized(130, 7))
	askBits(t, "behind cuts", d, first)
	d = diskWith(laid{1, 5, anImage(70, 1)})
	askBits(t, "over foreign bytes", impl.Keep(d, rich()), impl.Taken{Code: 2, Gen: 5})
	askBits(t, "over nothing", impl.Keep(impl.Blank(), rich()), code(1))
}

// The changed block waits: it is read as if it were kept.
func TestOneBitChangedThatWaits(t *testing.T) {
	d := impl.Keep(impl.Keep(impl.Blank(), rich()), sized(100, 2))
	for _, s := range spots(1, 100) {
		b := bytes.Clone(d.Blocks[s[0]])
		b[s[1]] ^= 1 << (s[1] % 8)
		waits := impl.Put(d, s[0], b)
		askTake(t, fmt.Sprint("a change at ", s, " waits"), waits, taken(1, rich()))
		if got := impl.Take(impl.Crash(waits, nil)); !sameTaken(got, taken(2, sized(100, 2))) {
			t.Fatalf("a change at %v is lost: taken up is %v", s, got)
		}
	}
}

// What is no part of the newer one's head or image changes nothing.
func TestABitChangedElsewhere(t *testing.T) {
	newer := sized(100, 2)
	for bit := range 8 {
		d := impl.Keep(impl.Keep(impl.Blank(), rich()), newer)
		for block := range impl.Blocks {
			for at := range impl.BlockSize {
				if block == 1 || block == 66 || block == 67 && at < 36 {
					continue
				}
				d.Blocks[block][at] ^= 1 << bit
				if at%21 == 0 && !sameTaken(impl.Take(d), taken(2, newer)) {
					t.Fatalf("byte %d of block %d: another one is taken up", at, block)
				}
			}
		}
		askTake(t, "all else changed", d, taken(2, newer))
	}
}

// The same by acts: a bit is changed, and changed back, as often as one play allows.
func TestPlaySpoilsEachBit(t *testing.T) {
	first, second := rich(), sized(70, 8)
	var spoils []impl.Act
	for _, s := range spots(1, 70) {
		for bit := range 8 {
			spoils = append(spoils, spoilAct(s[0], s[1], 1<<bit))
		}
	}
	for some := range slices.Chunk(spoils, (impl.MaxActs-2)/4) {
		acts := []impl.Act{keepAct(first), keepAct(second)}
		want := []impl.Taken{gen(1), gen(2)}
		for _, spoil := range some {
			acts = append(acts, spoil, takeAct(), spoil, takeAct())
			want = append(want, impl.Taken{}, taken(1, first), impl.Taken{}, taken(2, second))
		}
		askAnswers(t, fmt.Sprintf("spoiled from %v on", some[0]), impl.Play(acts), want)
	}
}

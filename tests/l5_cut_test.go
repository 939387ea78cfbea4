package tests

import (
	"fmt"
	"math/rand"
	"slices"
	"testing"

	"loop.example/chest/impl"
)

// partsOf is parts of n waiting writes that may be kept: every one when they are few, else none, all, each alone, all but each, and some others.
func partsOf(n int, rnd *rand.Rand) [][]bool {
	part := func(keeps func(i int) bool) []bool {
		kept := make([]bool, n)
		for i := range kept {
			kept[i] = keeps(i)
		}
		return kept
	}
	// With no entry a write is lost, and an entry without a write is nothing.
	out := [][]bool{nil, append(part(func(int) bool { return true }), true, true)}
	if n <= 5 {
		for mask := range 1 << n {
			out = append(out, part(func(i int) bool { return mask>>i&1 == 1 }))
		}
		return out
	}
	out = append(out, part(func(int) bool { return true }), part(func(int) bool { return false }))
	for k := range n {
		out = append(out, part(func(i int) bool { return i == k }), part(func(i int) bool { return i != k }), part(func(i int) bool { return i < k })[:k])
	}
	for range 5 {
		out = append(out, part(func(int) bool { return rnd.Intn(2) == 0 }))
	}
	return out
}

// askCut lays a graph down on a disk, with the power going behind each step, and hands each disk that this leads to on to then.
func askCut(t *testing.T, name string, d impl.Disk, g impl.Graph, rnd *rand.Rand, then func(impl.Disk)) {
	t.Helper()
	before := impl.Take(d)
	next := taken(before.Gen+1, g)
	ops := impl.Ops(d, impl.Pack(g))
	if len(ops) < 4 {
		t.Fatalf("%s: %d ops", name, len(ops))
	}
	for n := 0; n <= len(ops); n++ {
		e := impl.Apply(d, ops, n)
		for _, kept := range partsOf(len(e.Waiting), rnd) {
			crashed := impl.Crash(e, kept)
			got := impl.Take(crashed)
			if !sameTaken(got, before) && !sameTaken(got, next) {
				t.Fatalf("%s, behind %d of %d steps, %v kept: taken up is %v, neither %v nor %v", name, n, len(ops), kept, got, before, next)
			}
			// The head goes last: without it there is the one before, with it there is the new one.
			headThere := n == len(ops) || n == len(ops)-1 && len(kept) > 0 && kept[0]
			if sameTaken(got, next) != headThere {
				t.Fatalf("%s, behind %d of %d steps, %v kept: taken up is %v", name, n, len(ops), kept, got)
			}
			then(crashed)
		}
	}
	askTake(t, name+", behind all steps", impl.Apply(d, ops, len(ops)), next)
	if !sameDisk(impl.Keep(d, g), impl.Apply(d, ops, len(ops))) {
		t.Errorf("%s: Keep is not all steps", name)
	}
}

func nothingThen(impl.Disk) {}

// lives is disks behind no laying-down, one, two .., up to five, each over the one before.
func lives() []impl.Disk {
	disks := []impl.Disk{impl.Blank()}
	for i, g := range []impl.Graph{rich(), sized(130, 1), long(impl.MaxImage), graph(num(3)), sized(400, 5)} {
		disks = append(disks, impl.Keep(disks[i], g))
	}
	return disks
}

func TestThePowerGoesBehindEachStep(t *testing.T) {
	rnd := rand.New(rand.NewSource(53))
	for i, d := range lives() {
		for k, g := range []impl.Graph{{}, graph(num(77)), rich(), sized(64, 7), sized(65, 7), sized(128, 8), sized(300, 9), sized(600, 9)} {
			askCut(t, fmt.Sprint("graph ", k, " behind ", i), d, g, rnd, nothingThen)
		}
	}
}

func TestThePowerGoesAtTheLongestImage(t *testing.T) {
	rnd := rand.New(rand.NewSource(54))
	for i, d := range lives()[2:4] {
		askCut(t, fmt.Sprint("disk ", i), d, long(impl.MaxImage), rnd, nothingThen)
	}
}

// The graph that is laid down differs from one that is there in one block, in none, or is the older one once more.
func TestThePowerGoesOverGraphsThatAreNearlyTheSame(t *testing.T) {
	rnd := rand.New(rand.NewSource(55))
	base := sized(260, 4)
	near := copyOf(base)
	near.Nodes[0].Vals[0].Text = "A" + near.Nodes[0].Vals[0].Text[1:]
	for _, first := range []impl.Graph{base, near} {
		for _, second := range []impl.Graph{base, near} {
			for _, third := range []impl.Graph{base, near} {
				d := impl.Keep(impl.Keep(impl.Blank(), first), second)
				askCut(t, "nearly the same", d, third, rnd, nothingThen)
			}
		}
	}
}

// Every disk that few cut layings-down lead to, one over the other, in any way.
func TestThePowerGoesAgainAndAgain(t *testing.T) {
	rnd := rand.New(rand.NewSource(56))
	begin := map[string]impl.Disk{"blank": impl.Blank(), "behind one": lives()[1], "behind two": lives()[2]}
	for name, d := range begin {
		disks := []impl.Disk{d}
		for depth := range 4 {
			seen := map[string]bool{}
			var next []impl.Disk
			for _, d := range disks {
				askCut(t, fmt.Sprint(name, ", cut ", depth), d, sized(90+20*depth, depth), rnd, func(e impl.Disk) {
					if key := string(slices.Concat(e.Blocks...)); !seen[key] {
						seen[key] = true
						next = append(next, e)
					}
				})
			}
			disks = next
		}
		if len(disks) < 100 {
			t.Errorf("%s: cuts led to %d disks only", name, len(disks))
		}
	}
}

// A long life of layings-down and cuts: at each of them what is taken up is what was there, or the new graph.
func TestALifeWithCuts(t *testing.T) {
	rnd := rand.New(rand.NewSource(57))
	for life := range 20 {
		d, old := impl.Blank(), code(1)
		for i := range 60 {
			g := anyGraph(rnd)
			if rnd.Intn(2) == 0 {
				g = sized(40+rnd.Intn(300), i)
			}
			next := taken(old.Gen+1, g)
			ops := impl.Ops(d, impl.Pack(g))
			n := rnd.Intn(len(ops) + 2)
			if n > len(ops) {
				d, old = impl.Keep(d, g), next
				askTake(t, "laid down", d, next)
				continue
			}
			kept := make([]bool, rnd.Intn(len(ops)+1))
			for k := range kept {
				kept[k] = rnd.Intn(3) > 0
			}
			d = impl.Crash(impl.Apply(d, ops, n), kept)
			got := impl.Take(d)
			if !sameTaken(got, old) && (!sameTaken(got, next) || n < len(ops)-1) || n == len(ops) && !sameTaken(got, next) {
				t.Fatalf("life %d, cut %d behind %d of %d: taken up is %v", life, i, n, len(ops), got)
			}
			old = got
		}
	}
}

// What Play answers to a cut, and to a taking-up behind it, with each number of steps and each part kept.
func TestPlayCutsBehindEachStep(t *testing.T) {
	rnd := rand.New(rand.NewSource(58))
	for _, before := range [][]impl.Graph{{}, {rich()}, {rich(), sized(200, 2)}, {rich(), sized(200, 2), graph(num(1))}} {
		var acts []impl.Act
		for _, g := range before {
			acts = append(acts, keepAct(g))
		}
		old := code(1)
		if n := len(before); n > 0 {
			old = taken(n, before[n-1])
		}
		for _, size := range []int{40, 64, 65, 130, 450} {
			g := sized(size, 6)
			blocks := (size + 63) / 64
			for n := 0; n <= blocks+5; n++ {
				for _, kept := range partsOf(waitingBehind(blocks, n), rnd) {
					want := old
					if n >= blocks+3 || n == blocks+2 && len(kept) > 0 && kept[0] {
						want = taken(old.Gen+1, g)
					}
					all := append(append([]impl.Act(nil), acts...), cutAct(g, n, kept...), takeAct())
					got := impl.Play(all)
					askAnswers(t, fmt.Sprint(size, " bytes, ", n, " steps, ", kept), got[len(acts):], []impl.Taken{gen(want.Gen), want})
				}
			}
		}
	}
}

// waitingBehind is how many writes wait behind n steps of a laying-down.
func waitingBehind(blocks, n int) int {
	switch {
	case n <= blocks:
		return n
	case n == blocks+2:
		return 1
	}
	return 0
}

package tests

import (
	"fmt"
	"math"
	"math/rand"
	"slices"
	"testing"

	"loop.example/chest/impl"
)

func TestPlayByHand(t *testing.T) {
	g := func(n int64) impl.Graph { return graph(num(n)) }
	two := sized(100, 5)
	askPlay(t, "by hand", []impl.Act{
		takeAct(),
		cutAct(g(1), 0), takeAct(),
		cutAct(g(1), 1, true), takeAct(),
		cutAct(g(1), 3), takeAct(),
		cutAct(g(1), 3, true), takeAct(),
		keepAct(two), takeAct(),
		cutAct(g(3), 4), takeAct(),
		spoilAct(0, 63, 1), takeAct(),
		keepAct(g(4)), takeAct(),
		spoilAct(2, 0, 255), spoilAct(66, 0, 1), takeAct(),
		keepAct(g(5)), takeAct(),
		spoilAct(66, 0, 1), takeAct(),
	},
		code(1),
		gen(0), code(1),
		gen(0), code(1),
		gen(0), code(1),
		gen(1), taken(1, g(1)),
		gen(2), taken(2, two),
		gen(3), taken(3, g(3)),
		impl.Taken{}, taken(2, two),
		gen(3), taken(3, g(4)),
		impl.Taken{}, impl.Taken{}, code(1),
		gen(1), taken(1, g(5)),
		impl.Taken{}, taken(2, two),
	)
}

func TestPlayNumberOfActs(t *testing.T) {
	askPlay(t, "nil", nil)
	askPlay(t, "no acts", []impl.Act{})
	askPlay(t, "no acts, with room", make([]impl.Act, 0, 100))
	for _, n := range []int{1, 59, 60} {
		var acts []impl.Act
		var want []impl.Taken
		for i := range n {
			acts = append(acts, keepAct(graph(num(int64(i)))))
			want = append(want, gen(i+1))
		}
		askPlay(t, fmt.Sprint(n, " keeps"), acts, want...)
	}
	for _, n := range []int{61, 62, 120, 1000} {
		askPlay(t, fmt.Sprint(n, " acts that are none"), make([]impl.Act, n))
		askPlay(t, fmt.Sprint(n, " taking-ups"), slices.Repeat([]impl.Act{takeAct()}, n))
		askPlay(t, fmt.Sprint(n, " keeps"), slices.Repeat([]impl.Act{keepAct(rich())}, n))
	}
	// Acts that stand behind the list in its own memory are none of it.
	askPlay(t, "room behind", slices.Repeat([]impl.Act{takeAct()}, 100)[:2], code(1), code(1))
}

// askChangesNothing asks that an act answers a code, and that it changes nothing for the acts around it.
func askChangesNothing(t *testing.T, name string, a impl.Act, want int) {
	t.Helper()
	x, y := sized(100, 1), graph(txt("y"))
	askPlay(t, name, []impl.Act{
		a, takeAct(), keepAct(x), a, takeAct(), keepAct(y), a, takeAct(), a, cutAct(x, 4, true), a, takeAct(), spoilAct(0, 0, 1), a, takeAct(), spoilAct(0, 0, 1), takeAct(),
	},
		code(want), code(1), gen(1), code(want), taken(1, x), gen(2), code(want), taken(2, y), code(want), gen(3), code(want), taken(3, x),
		impl.Taken{}, code(want), taken(2, y), impl.Taken{}, taken(3, x),
	)
}

func TestPlayOpsThatThereAreNot(t *testing.T) {
	for _, op := range []int{0, 5, -1, 6, 60, 256 + impl.ATake, 1<<32 + impl.AKeep, math.MinInt, math.MaxInt} {
		for _, a := range []impl.Act{{}, {Graph: rich()}, {Graph: graph(to(0))}, {Graph: rich(), Steps: 3, Kept: []bool{true}}, {Block: 3, Byte: 4, Xor: 5}} {
			a.Op = op
			askChangesNothing(t, fmt.Sprint("Op ", op), a, 4)
		}
	}
}

// fillings is each field of an act filled in ways that are not empty.
func fillings() map[string][]func(a *impl.Act) {
	out := map[string][]func(a *impl.Act){}
	for _, g := range []impl.Graph{graph(num(0)), graph(num(1)), rich(), graph(nilVal(), node(0)), graph(txt("")), {Root: impl.Val{Num: 1}}, {Root: impl.Val{Text: "x"}}, {Root: impl.Val{Node: 1}}, graph(to(0)), long(impl.MaxImage + 1)} {
		out["Graph"] = append(out["Graph"], func(a *impl.Act) { a.Graph = g })
	}
	for _, k := range [][]bool{{true}, {false}, make([]bool, impl.MaxWaiting), make([]bool, impl.MaxWaiting+1)} {
		out["Kept"] = append(out["Kept"], func(a *impl.Act) { a.Kept = k })
	}
	for _, n := range []int{1, -1, 2, 64, 255, 256, 1 << 32, math.MinInt, math.MaxInt} {
		out["Steps"] = append(out["Steps"], func(a *impl.Act) { a.Steps = n })
		out["Block"] = append(out["Block"], func(a *impl.Act) { a.Block = n })
		out["Byte"] = append(out["Byte"], func(a *impl.Act) { a.Byte = n })
		out["Xor"] = append(out["Xor"], func(a *impl.Act) { a.Xor = n })
	}
	return out
}

func TestPlayFieldsThatAreNotNamed(t *testing.T) {
	right := []impl.Act{keepAct(rich()), keepAct(impl.Graph{}), cutAct(rich(), 5, true, false), cutAct(impl.Graph{}, 0), takeAct(), spoilAct(66, 3, 7), spoilAct(0, 0, 1)}
	for _, a := range right {
		for field, fills := range fillings() {
			if slices.Contains(fieldsOf[a.Op], field) {
				continue
			}
			for i, fill := range fills {
				wrong := copyOfAct(a)
				fill(&wrong)
				askChangesNothing(t, fmt.Sprint("Op ", a.Op, ", ", field, " filled, ", i), wrong, 4)
				if a.Op == impl.AKeep || a.Op == impl.ACut {
					wrong.Graph = graph(to(0))
					askChangesNothing(t, fmt.Sprint("Op ", a.Op, ", ", field, " filled, ", i, ", a wrong graph"), wrong, 4)
				}
			}
		}
	}
}

// Lists that are empty but not nil are as good as none.
func TestPlayEmptyLists(t *testing.T) {
	empty := impl.Graph{Nodes: []impl.Node{}}
	none := make([]bool, 0, 5)
	askPlay(t, "empty lists", []impl.Act{
		{Op: impl.ATake, Graph: empty, Kept: none},
		{Op: impl.AKeep, Graph: rich(), Kept: none},
		{Op: impl.ASpoil, Graph: empty, Kept: none, Block: 2, Xor: 1},
		{Op: impl.ATake, Graph: empty, Kept: none},
		{Op: impl.ACut, Graph: empty, Kept: none, Steps: 200},
		{Op: impl.ATake, Graph: empty, Kept: none},
	}, code(1), gen(1), impl.Taken{}, code(1), gen(1), taken(1, impl.Graph{}))
}

func TestPlaySteps(t *testing.T) {
	a, b := sized(100, 1), sized(150, 2)
	for _, steps := range []int{-1, -200, 201, 202, 1000, 1<<32 + 1, math.MinInt, math.MaxInt} {
		askChangesNothing(t, fmt.Sprint(steps, " steps"), cutAct(b, steps), 4)
		askChangesNothing(t, fmt.Sprint(steps, " steps, writes kept"), cutAct(b, steps, true, true), 4)
		askChangesNothing(t, fmt.Sprint(steps, " steps, a wrong graph"), cutAct(graph(to(0)), steps), 4)
	}
	// An image of three blocks has six ops.
	for _, steps := range []int{0, 1, 2, 3, 4, 5, 6, 7, 8, 66, 67, 68, 100, 199, 200} {
		want := taken(1, a)
		if steps >= 6 {
			want = taken(2, b)
		}
		name := fmt.Sprint(steps, " steps")
		askPlay(t, name, []impl.Act{keepAct(a), cutAct(b, steps), takeAct()}, gen(1), gen(want.Gen), want)
		askPlay(t, name+", on a blank disk", []impl.Act{cutAct(b, steps)}, gen(want.Gen-1))
		// The longest image has 67.
		want = taken(1, a)
		if steps >= 67 {
			want = taken(2, long(impl.MaxImage))
		}
		askPlay(t, name+" of the longest", []impl.Act{keepAct(a), cutAct(long(impl.MaxImage), steps), takeAct()}, gen(1), gen(want.Gen), want)
	}
}

func TestPlayKept(t *testing.T) {
	a, b := sized(100, 1), sized(150, 2)
	for _, n := range []int{201, 202, 1000} {
		for _, keeps := range []bool{false, true} {
			kept := slices.Repeat([]bool{keeps}, n)
			askChangesNothing(t, fmt.Sprint(n, " entries"), cutAct(b, 5, kept...), 4)
			askChangesNothing(t, fmt.Sprint(n, " entries, a wrong graph"), cutAct(graph(to(0)), 5, kept...), 4)
		}
	}
	for _, n := range []int{0, 1, 2, 199, 200} {
		kept := slices.Repeat([]bool{true}, n)
		want := taken(2, b)
		if n == 0 {
			want = taken(1, a)
		}
		askPlay(t, fmt.Sprint(n, " entries"), []impl.Act{keepAct(a), cutAct(b, 5, kept...), takeAct()}, gen(1), gen(want.Gen), want)
		askPlay(t, fmt.Sprint(n, " entries that keep nothing"), []impl.Act{keepAct(a), cutAct(b, 5, make([]bool, n)...), takeAct()}, gen(1), gen(1), taken(1, a))
	}
	// Behind five steps the head alone waits, so that its entry is the first.
	askPlay(t, "the head is not kept", []impl.Act{keepAct(a), cutAct(b, 5, false, true, true, true), takeAct()}, gen(1), gen(1), taken(1, a))
}

// A cut leaves in the blocks what it kept: the older one is there as long as its own blocks are.
func TestPlayWhatACutLeaves(t *testing.T) {
	a, b, c := sized(150, 1), sized(150, 2), sized(150, 3)
	spoilNewest := spoilAct(1, 5, 1)
	begin := []impl.Act{keepAct(a), keepAct(b)}
	for mask := range 8 {
		kept := []bool{mask&1 > 0, mask&2 > 0, mask&4 > 0}
		want := taken(1, a)
		if mask > 0 {
			want = code(1)
		}
		acts := append(slices.Clone(begin), cutAct(c, 3, kept...), takeAct(), spoilNewest, takeAct())
		askPlay(t, fmt.Sprint("kept ", kept), acts, gen(1), gen(2), gen(2), taken(2, b), impl.Taken{}, want)
	}
	// The Sync behind the image's blocks keeps them all; no steps keep all that was there.
	acts := append(slices.Clone(begin), cutAct(c, 4), takeAct(), spoilNewest, takeAct())
	askPlay(t, "synced", acts, gen(1), gen(2), gen(2), taken(2, b), impl.Taken{}, code(1))
	acts = append(slices.Clone(begin), cutAct(c, 0, true, true, true), takeAct(), spoilNewest, takeAct())
	askPlay(t, "no steps", acts, gen(1), gen(2), gen(2), taken(2, b), impl.Taken{}, taken(1, a))
}

func TestPlaySpoilAtTheEnds(t *testing.T) {
	out := map[string][]int{
		"Block": {-1, impl.Blocks, impl.Blocks + 1, -impl.Blocks, 1 << 32, math.MinInt, math.MaxInt},
		"Byte":  {-1, impl.BlockSize, impl.BlockSize + 1, 1 << 32, math.MinInt, math.MaxInt},
		"Xor":   {-1, 0, 256, 257, 511, 512, -255, 1<<32 + 1, math.MinInt, math.MaxInt},
	}
	fills := map[string]func(a *impl.Act, n int){
		"Block": func(a *impl.Act, n int) { a.Block = n },
		"Byte":  func(a *impl.Act, n int) { a.Byte = n },
		"Xor":   func(a *impl.Act, n int) { a.Xor = n },
	}
	for field, numbers := range out {
		for _, n := range numbers {
			a := spoilAct(1, 5, 9)
			fills[field](&a, n)
			askChangesNothing(t, fmt.Sprint(field, " ", n), a, 4)
		}
	}
	askChangesNothing(t, "nothing but the Op", impl.Act{Op: impl.ASpoil}, 4)
	for _, block := range []int{0, 1, 2, 3, 65, 66, 67, 128, 129} {
		for _, at := range []int{0, 1, 62, 63} {
			for _, xor := range []int{1, 2, 128, 254, 255} {
				askSpoil(t, block, at, xor)
			}
		}
	}
}

// askSpoil asks that one byte is xored, and no other: on a disk with an image in all blocks of both slots that byte is missed, and it alone brings all back.
func askSpoil(t *testing.T, block, at, xor int) {
	t.Helper()
	old, last := long(impl.MaxImage), long(impl.MaxImage)
	old.Nodes[0].Tag = 8
	a := spoilAct(block, at, xor)
	newer := spoilAct(1, 0, 1)
	spoiltOld, spoiltLast := taken(1, old), taken(2, last)
	if block == 0 || block >= 2 && block <= 65 {
		spoiltOld = code(1)
	} else {
		spoiltLast = taken(1, old)
	}
	acts := []impl.Act{keepAct(old), keepAct(last), a, takeAct(), a, takeAct()}
	want := []impl.Taken{gen(1), gen(2), {}, spoiltLast, {}, taken(2, last)}
	// The newer one is spoiled meanwhile, so that the older one is seen.
	if block != 1 && block < 66 {
		acts = append(acts, newer, takeAct(), a, takeAct(), a, takeAct(), newer, takeAct())
		want = append(want, impl.Taken{}, taken(1, old), impl.Taken{}, spoiltOld, impl.Taken{}, taken(1, old), impl.Taken{}, taken(2, last))
	}
	askPlay(t, fmt.Sprint("block ", block, ", byte ", at, ", xor ", xor), acts, want...)
	// One bit more or less than Xor's is not the way back.
	for _, bit := range []int{1, 16, 128} {
		if other := xor ^ bit; other != 0 {
			got := impl.Play([]impl.Act{keepAct(old), keepAct(last), a, spoilAct(block, at, other), takeAct(), spoilAct(block, at, bit), takeAct()})
			askAnswers(t, "two spoils", got, []impl.Taken{gen(1), gen(2), {}, {}, spoiltLast, {}, taken(2, last)})
		}
	}
}

func TestPlayGraphsWithoutAnImage(t *testing.T) {
	for name, g := range badGraphs() {
		askChangesNothing(t, "kept: "+name, keepAct(g), 5)
		for _, steps := range []int{0, 1, 4, 200} {
			askChangesNothing(t, fmt.Sprint("cut behind ", steps, ": ", name), cutAct(g, steps, true, true), 5)
		}
	}
	askPlay(t, "at the limit", []impl.Act{keepAct(long(impl.MaxImage)), takeAct()}, gen(1), taken(1, long(impl.MaxImage)))
}

func TestPlayGens(t *testing.T) {
	g := sized(100, 3)
	askPlay(t, "a cut that does all is a laying-down", []impl.Act{cutAct(g, 200), takeAct(), cutAct(rich(), 200), takeAct()},
		gen(1), taken(1, g), gen(2), taken(2, rich()))
	askPlay(t, "cuts that do not", []impl.Act{cutAct(g, 2, true), cutAct(g, 3), cutAct(g, 4), keepAct(g), cutAct(rich(), 0), cutAct(rich(), 1, true), keepAct(rich()), takeAct()},
		gen(0), gen(0), gen(0), gen(1), gen(1), gen(1), gen(2), taken(2, rich()))
	// The newest is spoiled: a Gen comes behind that of the one which is whole.
	askPlay(t, "spoiled", []impl.Act{keepAct(rich()), keepAct(g), spoilAct(66, 0, 1), cutAct(g, 1), takeAct(), keepAct(g), takeAct(), spoilAct(1, 0, 1), takeAct(), keepAct(g), takeAct()},
		gen(1), gen(2), impl.Taken{}, gen(1), taken(1, rich()), gen(2), taken(2, g), impl.Taken{}, taken(1, rich()), gen(2), taken(2, g))
	askPlay(t, "both spoiled", []impl.Act{keepAct(rich()), keepAct(g), spoilAct(66, 0, 1), spoilAct(0, 0, 1), cutAct(g, 2), takeAct(), keepAct(g), takeAct()},
		gen(1), gen(2), impl.Taken{}, impl.Taken{}, gen(0), code(1), gen(1), taken(1, g))
}

// forged is the acts that make one block of bytes into another.
func forged(block int, from, into []byte) []impl.Act {
	var out []impl.Act
	for at, b := range into {
		if b != from[at] {
			out = append(out, spoilAct(block, at, int(b^from[at])))
		}
	}
	return out
}

// Sums that somebody made anew: an image that is whole and none.
func TestPlayForeignImages(t *testing.T) {
	g := rich()
	image := imageBy(g)
	changed := slices.Clone(image)
	changed[1] = '2'
	acts := []impl.Act{keepAct(graph(num(1))), keepAct(g), spoilAct(66, 1, '1'^'2'), takeAct()}
	want := []impl.Taken{gen(1), gen(2), {}, taken(1, graph(num(1)))}
	spoils := forged(1, headBy(2, int64(len(image)), sumBy(image)), headBy(2, int64(len(image)), sumBy(changed)))
	acts = append(acts, spoils...)
	want = append(want, make([]impl.Taken, len(spoils))...)
	foreign := impl.Taken{Code: 2, Gen: 2}
	acts = append(acts, takeAct(), cutAct(g, 2, true), takeAct(), keepAct(g), takeAct(), spoilAct(0, 0, 1), takeAct(), spoilAct(66, 1, '1'^'2'), takeAct())
	want = append(want, foreign, gen(2), foreign, gen(3), taken(3, g), impl.Taken{}, foreign, impl.Taken{}, code(1))
	askPlay(t, "a foreign image", acts, want...)
}

// A head that somebody made anew has the last Gen that there is: then nothing more is laid down.
func TestPlayAtMaxGen(t *testing.T) {
	g, h := graph(num(1)), graph(txt("h"))
	image := imageBy(g)
	head := func(gen int64) []byte { return headBy(gen, int64(len(image)), sumBy(image)) }
	last := forged(0, head(1), head(impl.MaxGen))
	acts := append([]impl.Act{keepAct(g)}, last...)
	want := append([]impl.Taken{gen(1)}, make([]impl.Taken, len(last))...)
	there := taken(impl.MaxGen, g)
	acts = append(acts, takeAct(), keepAct(h), takeAct(), cutAct(h, 0), cutAct(h, 200, true), cutAct(h, 1, true), takeAct(),
		keepAct(graph(to(0))), cutAct(graph(to(0)), 3), cutAct(h, -1), impl.Act{Op: impl.AKeep, Graph: h, Xor: 1}, takeAct(), spoilAct(0, 0, 1), takeAct(), keepAct(h), takeAct())
	want = append(want, there, gen(impl.MaxGen), there, gen(impl.MaxGen), gen(impl.MaxGen), gen(impl.MaxGen), there,
		code(5), code(5), code(4), code(4), there, impl.Taken{}, code(1), gen(1), taken(1, h))
	askPlay(t, "at MaxGen", acts, want...)
	below := forged(0, head(1), head(impl.MaxGen-1))
	acts = append([]impl.Act{keepAct(g)}, below...)
	want = append([]impl.Taken{gen(1)}, make([]impl.Taken, len(below))...)
	acts = append(acts, takeAct(), cutAct(h, 2, true), keepAct(h), takeAct(), keepAct(g), takeAct())
	want = append(want, taken(impl.MaxGen-1, g), gen(impl.MaxGen-1), gen(impl.MaxGen), taken(impl.MaxGen, h), gen(impl.MaxGen), taken(impl.MaxGen, h))
	askPlay(t, "one below MaxGen", acts, want...)
}

// What is taken up is the graph's form, whatever its numbering was.
func TestPlayTakesUpForms(t *testing.T) {
	for _, f := range forms {
		askPlay(t, f.name, []impl.Act{keepAct(f.given), takeAct(), cutAct(f.given, 200), takeAct()}, gen(1), impl.Taken{Gen: 1, Graph: f.has}, gen(2), impl.Taken{Gen: 2, Graph: f.has})
	}
}

// anyAct is an act, wrong now and then.
func anyAct(rnd *rand.Rand) impl.Act {
	var a impl.Act
	bad := []impl.Graph{graph(to(0)), graph(impl.Val{Kind: 9}), long(impl.MaxImage + 1)}
	g := anyGraph(rnd)
	switch rnd.Intn(8) {
	case 0:
		g = bad[rnd.Intn(len(bad))]
	case 1, 2:
		g = sized(40+rnd.Intn(200), rnd.Intn(20))
	}
	switch rnd.Intn(10) {
	case 0, 1:
		a = keepAct(g)
	case 2, 3, 4:
		a = cutAct(g, rnd.Intn(9))
		for range rnd.Intn(6) {
			a.Kept = append(a.Kept, rnd.Intn(3) > 0)
		}
	case 5:
		a = spoilAct([]int{0, 1, 2, 3, 66, 67}[rnd.Intn(6)], rnd.Intn(64), 1+rnd.Intn(255))
	default:
		a = takeAct()
	}
	if rnd.Intn(12) == 0 {
		all := fillings()
		fills := all[[]string{"Graph", "Steps", "Kept", "Block", "Byte", "Xor"}[rnd.Intn(6)]]
		fills[rnd.Intn(len(fills))](&a)
	}
	return a
}

func TestPlayAnyActs(t *testing.T) {
	rnd := rand.New(rand.NewSource(59))
	seen := map[int]int{}
	for play := range 150 {
		var acts []impl.Act
		for range 1 + rnd.Intn(impl.MaxActs) {
			acts = append(acts, anyAct(rnd))
		}
		want := playBy(acts)
		for _, x := range want {
			seen[x.Code]++
		}
		askPlay(t, fmt.Sprint("play ", play), acts, want...)
	}
	for _, c := range []int{0, 1, 4, 5} {
		if seen[c] < 50 {
			t.Errorf("too few answers with code %d: %v", c, seen)
		}
	}
}

// Play is Keep and Take, one after the other.
func TestPlayIsKeepAndTake(t *testing.T) {
	rnd := rand.New(rand.NewSource(60))
	d := impl.Blank()
	var acts []impl.Act
	var want []impl.Taken
	for range impl.MaxActs / 2 {
		g := anyGraph(rnd)
		d = impl.Keep(d, g)
		acts = append(acts, keepAct(g), takeAct())
		want = append(want, gen(impl.Newest(d).Gen), impl.Take(d))
	}
	askPlay(t, "keeps and taking-ups", acts, want...)
}

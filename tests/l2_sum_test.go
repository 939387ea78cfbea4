package tests

import (
	"bytes"
	"hash/fnv"
	"math/rand"
	"testing"

	"loop.example/chest/impl"
)

// sumBy is chapter 2's sum as the library has it.
func sumBy(b []byte) int64 {
	h := fnv.New64a()
	h.Write(b)
	return int64(h.Sum64())
}

func TestSumsThatAreKnown(t *testing.T) {
	for text, want := range map[string]uint64{
		"":       14695981039346656037,
		"a":      0xaf63dc4c8601ec8c,
		"b":      0xaf63df4c8601f1a5,
		"foobar": 0x85944171f73967e8,
	} {
		if got := impl.SumOf([]byte(text)); got != int64(want) {
			t.Errorf("%q: %d", text, got)
		}
	}
	if impl.SumOf(nil) != impl.SumOf([]byte{}) {
		t.Error("nil and an empty list have two sums")
	}
}

func TestSumOfEachByte(t *testing.T) {
	for x := 0; x < 256; x++ {
		for _, b := range [][]byte{{byte(x)}, {0, byte(x)}, {byte(x), 0}} {
			if got := impl.SumOf(b); got != sumBy(b) {
				t.Errorf("%v: %d", b, got)
			}
		}
	}
}

func TestSumsOfManyBytes(t *testing.T) {
	rnd := rand.New(rand.NewSource(2))
	for n := 0; n < 5000; n += 1 + n/10 {
		b := make([]byte, n)
		rnd.Read(b)
		before := bytes.Clone(b)
		if got := impl.SumOf(b); got != sumBy(b) {
			t.Errorf("%d bytes: %d", n, got)
		}
		if !bytes.Equal(b, before) {
			t.Errorf("%d bytes: the argument was changed", n)
		}
	}
}

func TestSumFindsAChangeOfOneByte(t *testing.T) {
	b := []byte("laid down whole")
	sum := impl.SumOf(b)
	for i := range b {
		for x := 1; x < 256; x++ {
			c := bytes.Clone(b)
			c[i] ^= byte(x)
			if impl.SumOf(c) == sum {
				t.Fatalf("byte %d, xor %d", i, x)
			}
		}
	}
}

package tests

import (
	"fmt"
	"math/rand/v2"
	"testing"

	"loop.example/g00737/impl"
)

// wantRecovered returns what is recovered from the encoding.
func wantRecovered(t *testing.T, what string, b impl.Base) impl.Base {
	t.Helper()
	text, code := impl.EncodeBase(b)
	if code != 0 || text != baseBytes(b) {
		t.Fatalf("EncodeBase %s: %x %d", what, text, code)
	}
	got := decodeBase(text)
	if got.code != 0 || !sameBases(got.b, b) || !impl.SameBase(got.b, b) {
		t.Fatal("DecodeBase", what, got, b)
	}
	return got.b
}

// TestPromise14EveryOp goes on with what was recovered after each operation.
func TestPromise14EveryOp(t *testing.T) {
	for seed := range 40 {
		r := rand.New(rand.NewPCG(14, uint64(seed)))
		kept, _ := impl.NewBase(numbered(r.IntN(impl.MaxKeys + 1)))
		recovered := kept
		for range 80 {
			o := randomOp(r, len(kept.Store))
			one, two := doOp(kept, o), doOp(recovered, o)
			if !sameDone(one, two) {
				t.Fatal("DoOp after DecodeBase", seed, o, one, two)
			}
			kept = one.b
			recovered = wantRecovered(t, fmt.Sprint("after ", o), two.b)
		}
	}
}

// TestPromise14EveryStep does so with each step of a run.
func TestPromise14EveryStep(t *testing.T) {
	most := 0
	for seed := range 20 {
		r := rand.New(rand.NewPCG(14, uint64(100+seed)))
		kept := newWorld(startBase(), runWishes(), "main", "dev", "x")
		recovered := kept
		for range 150 {
			who := 1 + r.IntN(impl.MaxClients)
			kept, _ = impl.StepWorld(kept, who)
			recovered, _ = impl.StepWorld(recovered, who)
			recovered.Base = wantRecovered(t, fmt.Sprint("after step ", recovered.Steps), recovered.Base)
			if fmt.Sprint(kept.Moments, kept.Clients, kept.Watches) != fmt.Sprint(recovered.Moments, recovered.Clients, recovered.Watches) || !sameBases(kept.Base, recovered.Base) {
				t.Fatal("StepWorld after DecodeBase", seed, kept, recovered)
			}
		}
		most = max(most, len(kept.Base.Store))
	}
	if most < 8 {
		t.Error("commits", most)
	}
}

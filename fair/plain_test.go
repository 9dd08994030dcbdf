package fair_test

import (
	"fmt"
	"math/rand/v2"
	"slices"
	"testing"

	"platelayer/api"
	"platelayer/fair"
	"platelayer/farm"
)

// crew is a farm with nothing on its way, in fair rounds: who is at which unit, and since when; no messages, no sources.
type crew struct {
	at    []int // by worker: which unit it is at, or -1
	dead  []bool
	since []int // by worker: in which round it was given that
	turns []int
	done  []bool
	round int
}

// crewOf is a farm's.
func crewOf(f api.Farm) *crew {
	c := &crew{at: slices.Repeat([]int{-1}, len(f.Dead)), dead: slices.Clone(f.Dead), since: make([]int, len(f.Dead))}
	for unit, j := range f.Jobs {
		c.turns, c.done = append(c.turns, j.Turn), append(c.done, j.Done)
		if j.Worker >= 0 {
			c.at[j.Worker], c.since[j.Worker] = unit, -j.Wait
		}
	}
	return c
}

// next is a round: whoever lives has done at once what it is given.
func (c *crew) next() {
	c.round++
	for w := range c.at {
		if c.round-c.since[w] == 4 {
			c.at[w] = -1
		}
	}
	for unit, done := range c.done {
		if done || slices.Contains(c.at, unit) {
			continue
		}
		for k := range c.at {
			if w := (c.turns[unit] + unit + k) % len(c.at); c.at[w] < 0 {
				c.at[w], c.since[w] = unit, c.round
				c.turns[unit]++
				break
			}
		}
	}
	for w, unit := range c.at {
		if unit >= 0 && !c.dead[w] && c.since[w] == c.round {
			c.at[w], c.done[unit] = -1, true
		}
	}
}

// holds fails if a farm is not as a crew is, or something is on its way.
func (c *crew) holds(t *testing.T, f api.Farm) {
	t.Helper()
	for unit, j := range f.Jobs {
		w, wait := slices.Index(c.at, unit), 0
		if w >= 0 {
			wait = c.round - c.since[w]
		}
		if j.Worker != w || j.Turn != c.turns[unit] || j.Wait != wait || j.Done != c.done[unit] || len(f.Way) > 0 {
			t.Fatalf("behind round %d unit %d of %v is not as of %v", c.round, unit, f, *c)
		}
	}
}

// made is steps, most of which can be done.
func made(r *rand.Rand, workers int) []api.Step {
	out := make([]api.Step, r.IntN(api.MaxFarm+1))
	for k := range out {
		s := api.Step{Kind: []int{1, 1, 1, 2, 2, 2, 3, 4, 4, 5}[r.IntN(10)], N: r.IntN(4)}
		if s.Kind == api.StepDie {
			s.N = r.IntN(workers)
		}
		if r.IntN(20) == 0 {
			s = api.Step{Kind: r.IntN(8) - 1, N: r.IntN(16) - 2}
		}
		out[k] = s
	}
	return out
}

// some is sources, and how many workers.
func some(r *rand.Rand) ([][]byte, int) {
	all := []string{"", "nop", "a: .long b", "b: rts\nnop", "zap", "nop\nmov #300,r1", "a: nop", "mov.l =a,r1\nc: bra c\nnop"}
	var out [][]byte
	for range 1 + r.IntN(4) {
		out = append(out, []byte(all[r.IntN(len(all))]))
	}
	return out, 1 + r.IntN(3)
}

func TestL1PlayIsStepByStep(t *testing.T) {
	r := rand.New(rand.NewPCG(12, 1))
	seen := map[api.Errno]int{}
	for range 1000 {
		l, workers := some(r)
		steps := made(r, workers)
		f, errs, err := fair.Play(l, 16, workers, steps)
		want, _ := farm.New(l, 16, workers)
		if err != api.OK || len(errs) != len(steps) {
			t.Fatalf("Play(%q, 16, %d, %v) has errors %v %v", l, workers, steps, errs, err)
		}
		for k, s := range steps {
			var e api.Errno
			if want, e = farm.Do(want, s); errs[k] != e {
				t.Fatalf("Play(%q, 16, %d, %v) has error %v of step %d, not %v", l, workers, steps, errs[k], k, e)
			}
			seen[e]++
		}
		is(t, fmt.Sprint("steps ", steps), f, want)
	}
	if seen[api.OK] < 9999 || seen[api.ErrKind] < 99 || seen[api.ErrNone] < 99 {
		t.Errorf("errors are seen so often: %v", seen)
	}
}

func TestL1RoundsOfACrew(t *testing.T) {
	r := rand.New(rand.NewPCG(12, 2))
	seen := map[string]int{}
	for range 1000 {
		l, workers := some(r)
		f, _, _ := fair.Play(l, 16, workers, made(r, workers))
		// The first round does away with what is on the way; from then on a crew is all there is.
		f = fair.Round(f)
		c := crewOf(f)
		settled, n := fair.Settle(f)
		for slices.Contains(c.done, false) && c.round < api.MaxRounds {
			f = fair.Round(f)
			c.next()
			c.holds(t, f)
		}
		if n != c.round {
			t.Fatalf("Settle takes %d rounds, not %d, of %v", n, c.round, f)
		}
		is(t, "settled", settled, f)
		seen[fmt.Sprint("rounds ", n)]++
		seen[fmt.Sprint("done ", fair.Done(f))]++
	}
	for _, what := range []string{"rounds 0", "rounds 1", "rounds 4", "rounds 60", "done true", "done false"} {
		if seen[what] < 20 {
			t.Errorf("%s is seen only %d times", what, seen[what])
		}
	}
}

func TestL1AsLongAsOneLivesItIsDone(t *testing.T) {
	r := rand.New(rand.NewPCG(12, 3))
	right := 0
	for range 1500 {
		l, workers := some(r)
		f, _, _ := fair.Play(l, 16, workers, made(r, workers))
		if !slices.Contains(f.Dead, false) {
			f, _ = farm.Do(f, die(r.IntN(workers)))
		}
		f, n := fair.Settle(f)
		if !fair.Done(f) || n >= api.MaxRounds {
			t.Fatalf("%q isn't done in %d rounds: %v", l, n, f)
		}
		want, fault := farm.Build(l, 16)
		got, fails := farm.Image(f)
		if fails != fault || got.Base != want.Base || !slices.Equal(got.Bytes, want.Bytes) || !slices.Equal(got.Syms, want.Syms) {
			t.Fatalf("of %q comes %v %v, not %v %v", l, got, fails, want, fault)
		}
		if fault == (api.Fault{}) {
			right++
		}
	}
	if right < 99 {
		t.Errorf("only %d lists have no fault", right)
	}
}

func TestL1AllWhoMayBeDead(t *testing.T) {
	for units := 1; units <= api.MaxUnits; units++ {
		for workers := 1; workers <= api.MaxWorkers; workers++ {
			for dead := range 1 << workers {
				f, _, _ := fair.Play(slices.Repeat([][]byte{[]byte("nop")}, units), 0, workers, nil)
				for w := range workers {
					f.Dead[w] = dead>>w&1 == 1
				}
				c := crewOf(f)
				g, n := fair.Settle(f)
				for slices.Contains(c.done, false) && c.round < api.MaxRounds {
					c.next()
				}
				c.holds(t, g)
				if n != c.round || fair.Done(g) != (dead != 1<<workers-1) {
					t.Errorf("%d units, dead %b: %d rounds, not %d; done is %v", units, dead, n, c.round, fair.Done(g))
				}
			}
		}
	}
}

func Example() {
	l := [][]byte{[]byte("a: nop"), []byte(".long a+1")}
	// Both are leased; the first lease is lost, and there is no third one.
	f, errs, err := fair.Play(l, 8, 2, []api.Step{{Kind: api.StepTick}, {Kind: api.StepDrop}, {Kind: api.StepDrop, N: 2}})
	fmt.Println(len(f.Way), errs, err)
	f = fair.Round(f)
	fmt.Println(len(f.Way), f.Jobs[0].Done, f.Jobs[1].Done, fair.Done(f))
	f, rounds := fair.Settle(f)
	fmt.Println(rounds, fair.Done(f))
	i, fault := farm.Image(f)
	fmt.Println(i, fault)
	// Output:
	// 1 [0 0 6] 0
	// 0 false true false
	// 3 true
	// {8 [0 9 0 0 0 0 0 9] [{a 8}]} {0 0}
}

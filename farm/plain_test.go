package farm_test

import (
	"fmt"
	"math/rand/v2"
	"slices"
	"testing"

	"platelayer/api"
	"platelayer/asm"
	"platelayer/farm"
	"platelayer/obj"
	"platelayer/wire"
)

// yard is a farm as a plain list: what each worker is at, and what each unit came to; messages are not bytes.
type yard struct {
	sources []string
	at      []int // by worker: which unit it is at, or -1
	dead    []bool
	turns   []int
	waits   []int
	results []*api.Msg // by unit: what came, or nil
	way     []api.Msg
}

func newYard(l []string, workers int) *yard {
	return &yard{
		sources: l, at: slices.Repeat([]int{-1}, workers), dead: make([]bool, workers),
		turns: make([]int, len(l)), waits: make([]int, len(l)), results: make([]*api.Msg, len(l)),
	}
}

func (y *yard) put(m api.Msg) {
	if y.way = append(y.way, m); len(y.way) > 12 {
		y.way = y.way[:12]
	}
}

func (y *yard) tick() {
	for w, unit := range y.at {
		if unit >= 0 {
			y.waits[unit]++
			if y.waits[unit] == 4 {
				y.waits[unit], y.at[w] = 0, -1
			}
		}
	}
	for unit := range y.sources {
		if y.results[unit] != nil || slices.Contains(y.at, unit) {
			continue
		}
		w := (y.turns[unit] + unit) % len(y.at)
		for range y.at {
			if y.at[w] < 0 {
				y.at[w] = unit
				y.turns[unit]++
				y.put(api.Msg{Kind: 1, Worker: w, Unit: unit, Turn: y.turns[unit], Data: []byte(y.sources[unit])})
				break
			}
			if w++; w == len(y.at) {
				w = 0
			}
		}
	}
}

func (y *yard) comes(m api.Msg) {
	if m.Kind != 1 {
		if y.results[m.Unit] == nil {
			y.results[m.Unit] = &m
			y.waits[m.Unit] = 0
			if w := slices.Index(y.at, m.Unit); w >= 0 {
				y.at[w] = -1
			}
		}
		return
	}
	if y.dead[m.Worker] {
		return
	}
	o, f := asm.Unit(m.Data)
	m.Kind, m.Data, m.Fault = 2, nil, f
	if f.Err == api.OK {
		b, err := obj.Bytes(o)
		if m.Data = b; err != api.OK {
			m.Fault.Err = api.ErrMuch
		}
	}
	if m.Fault.Err != api.OK {
		m.Kind = 3
	}
	y.put(m)
}

func (y *yard) do(s api.Step) api.Errno {
	switch {
	case s.Kind < 1 || s.Kind > 5:
		return api.ErrKind
	case s.Kind == 1:
		y.tick()
	case s.Kind == 5:
		if s.N < 0 || s.N >= len(y.dead) {
			return api.ErrNone
		}
		y.dead[s.N] = !y.dead[s.N]
	case s.N < 0 || s.N >= len(y.way):
		return api.ErrNone
	case s.Kind == 4:
		y.put(y.way[s.N])
	default:
		m := y.way[s.N]
		y.way = append(slices.Clone(y.way[:s.N]), y.way[s.N+1:]...)
		if s.Kind == 2 {
			y.comes(m)
		}
	}
	return api.OK
}

// farm is a yard as a farm would be told.
func (y *yard) farm(base int) api.Farm {
	out := api.Farm{Base: base, Dead: y.dead}
	for unit, s := range y.sources {
		j := api.Job{Source: []byte(s), Worker: slices.Index(y.at, unit), Turn: y.turns[unit], Wait: y.waits[unit]}
		if r := y.results[unit]; r != nil {
			j.Done, j.Object, j.Fault = true, r.Data, r.Fault
		}
		out.Jobs = append(out.Jobs, j)
	}
	for _, m := range y.way {
		b, err := wire.Bytes(m)
		if err != api.OK {
			panic("a message can't be written")
		}
		out.Way = append(out.Way, b)
	}
	return out
}

// made is a step, most often one that can be done.
func made(r *rand.Rand, f api.Farm) api.Step {
	s := api.Step{Kind: []int{1, 1, 2, 2, 2, 2, 3, 4, 4, 5}[r.IntN(10)], N: r.IntN(max(len(f.Way), 1))}
	if s.Kind == api.StepDie {
		s.N = r.IntN(len(f.Dead))
	}
	if r.IntN(20) == 0 {
		s = api.Step{Kind: r.IntN(8) - 1, N: r.IntN(16) - 2}
	}
	return s
}

// some is sources, and how many workers.
func some(r *rand.Rand) ([]string, int) {
	all := []string{"", "nop", "a: .long b", "b: rts\nnop", "zap", "nop\nmov #300,r1", "a: nop", "mov.l =a,r1\nc: bra c\nnop", labels(256)}
	l := make([]string, 1+r.IntN(4))
	for i := range l {
		l[i] = all[r.IntN(len(all)-1+r.IntN(20)/19)]
	}
	return l, 1 + r.IntN(3)
}

func TestK2OfManySteps(t *testing.T) {
	r := rand.New(rand.NewPCG(11, 1))
	seen := map[string]int{}
	for range 1500 {
		l, workers := some(r)
		f, y := begin(t, 16, workers, l...), newYard(l, workers)
		for range 80 {
			s := made(r, f)
			g, err := farm.Do(f, s)
			if want := y.do(s); err != want || !same(g, y.farm(16)) {
				t.Fatalf("Do(%v, %v) is %v %v, not %v %v", f, s, g, err, y.farm(16), want)
			}
			seen[fmt.Sprint("error ", err)]++
			seen[fmt.Sprint("way ", len(g.Way))]++
			for k := range g.Jobs {
				before, behind := f.Jobs[k], g.Jobs[k]
				if before.Done && !same(api.Farm{Jobs: []api.Job{before}}, api.Farm{Jobs: []api.Job{behind}}) {
					t.Fatalf("%v: what was done, %v, is %v", s, before, behind)
				}
				if behind.Done && !before.Done {
					seen["done"]++
				}
				seen[fmt.Sprint("turn ", behind.Turn)]++
			}
			f = g
		}
	}
	for what, least := range map[string]int{"error 0": 9999, "error 1": 99, "error 6": 99, "way 0": 99, "way 12": 99, "done": 999, "turn 0": 99, "turn 3": 99} {
		if seen[what] < least {
			t.Errorf("%s is seen only %d times", what, seen[what])
		}
	}
}

func TestK2WhoeverBuiltItItIsTheSame(t *testing.T) {
	r := rand.New(rand.NewPCG(11, 2))
	right := 0
	for range 400 {
		l, workers := some(r)
		f := begin(t, 16, workers, l...)
		for range r.IntN(80) {
			f, _ = farm.Do(f, made(r, f))
		}
		if !slices.Contains(f.Dead, false) {
			f = steps(t, f, die(r.IntN(workers)))
		}
		want, fault := farm.Build(sources(l...), 16)
		if fault == (api.Fault{}) {
			right++
		}
		image(t, settle(t, f), want, fault)
	}
	if right < 20 {
		t.Errorf("only %d lists have no fault", right)
	}
}

func Example() {
	f, err := farm.New([][]byte{[]byte("a: nop"), []byte(".long a+1")}, 8, 2)
	fmt.Println(len(f.Jobs), err)
	// A tick leases both; each lease comes to its worker, and what these send back comes too.
	for _, kind := range []int{api.StepTick, api.StepGo, api.StepGo, api.StepGo, api.StepGo} {
		f, err = farm.Do(f, api.Step{Kind: kind})
		_, fault := farm.Image(f)
		fmt.Println(err, len(f.Way), fault.Err == api.ErrBusy)
	}
	i, fault := farm.Image(f)
	fmt.Println(i, fault)
	// Output:
	// 2 0
	// 0 2 true
	// 0 2 true
	// 0 2 true
	// 0 1 true
	// 0 0 false
	// {8 [0 9 0 0 0 0 0 9] [{a 8}]} {0 0}
}

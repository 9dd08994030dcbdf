package farm_test

import (
	"math"
	"reflect"
	"slices"
	"strings"
	"testing"

	"platelayer/api"
	"platelayer/farm"
	"platelayer/wire"
)

// lease is what a job is, as long as it isn't done: its worker, turn, and how long it waits.
type lease struct{ worker, turn, wait int }

// leases fails if jobs are others.
func leases(t *testing.T, f api.Farm, want ...lease) {
	t.Helper()
	var got []lease
	for _, j := range f.Jobs {
		got = append(got, lease{j.Worker, j.Turn, j.Wait})
	}
	if !slices.Equal(got, want) {
		t.Errorf("jobs are %v, not %v", got, want)
	}
}

// way fails if other messages are on the way.
func way(t *testing.T, f api.Farm, want ...api.Msg) {
	t.Helper()
	var list [][]byte
	for _, m := range want {
		list = append(list, message(t, m))
	}
	if !slices.EqualFunc(f.Way, list, slices.Equal) {
		t.Errorf("on the way are %q, not %q", f.Way, list)
	}
}

func leased(worker, unit, turn int, source string) api.Msg {
	return api.Msg{Kind: api.MsgLease, Worker: worker, Unit: unit, Turn: turn, Data: []byte(source)}
}

func TestK2TickGivesLeases(t *testing.T) {
	f := steps(t, begin(t, 0, 2, "nop", "rts", "zap"), tick)
	leases(t, f, lease{0, 1, 0}, lease{1, 1, 0}, lease{-1, 0, 0})
	way(t, f, leased(0, 0, 1, "nop"), leased(1, 1, 1, "rts"))
	// Whoever is not free is passed over, and nobody asks whether one is dead.
	f = steps(t, begin(t, 0, 3, "nop", "rts", "zap", "nop"), die(0), die(1), tick)
	leases(t, f, lease{0, 1, 0}, lease{1, 1, 0}, lease{2, 1, 0}, lease{-1, 0, 0})
	// More workers than jobs.
	f = steps(t, begin(t, 0, 3, ""), tick)
	leases(t, f, lease{0, 1, 0})
	way(t, f, leased(0, 0, 1, ""))
}

func TestK2TickWaits(t *testing.T) {
	f := steps(t, begin(t, 0, 2, "nop", "rts", "zap"), tick, gone, gone)
	for n := 1; n < api.MaxWait; n++ {
		f = steps(t, f, tick)
		leases(t, f, lease{0, 1, n}, lease{1, 1, n}, lease{-1, 0, 0})
		way(t, f)
	}
	// Both are over at once: job 0 gets worker 1, number 1 and 0; job 1 worker 0; number 0 and 2 finds none.
	f = steps(t, f, tick)
	leases(t, f, lease{1, 2, 0}, lease{0, 2, 0}, lease{-1, 0, 0})
	way(t, f, leased(1, 0, 2, "nop"), leased(0, 1, 2, "rts"))
	f = steps(t, f, tick)
	leases(t, f, lease{1, 2, 1}, lease{0, 2, 1}, lease{-1, 0, 0})
}

func TestK2TickGoesRound(t *testing.T) {
	// One job goes from worker to worker, as its turn does.
	f := begin(t, 0, 3, "nop")
	for turn := 1; turn < 9; turn++ {
		f = steps(t, f, tick, gone)
		leases(t, f, lease{(turn - 1) % 3, turn, 0})
		f = steps(t, f, tick, tick, tick)
		leases(t, f, lease{(turn - 1) % 3, turn, 3})
	}
	// Job 1 is done; job 2 looks for one from number 2, worker 0, on, which is not free.
	f = steps(t, begin(t, 0, 2, "nop", "rts", "zap"), tick, second, second)
	leases(t, f, lease{0, 1, 0}, lease{-1, 1, 0}, lease{-1, 0, 0})
	f = steps(t, f, tick)
	leases(t, f, lease{0, 1, 1}, lease{-1, 1, 0}, lease{1, 1, 0})
	way(t, f, leased(0, 0, 1, "nop"), leased(1, 2, 1, "zap"))
}

func TestK2TickLetsDoneJobsBe(t *testing.T) {
	f := settle(t, begin(t, 0, 2, "nop", "zap"))
	if g := steps(t, f, tick, tick, tick, tick, tick); !same(f, g) || !f.Jobs[0].Done || !f.Jobs[1].Done {
		t.Errorf("what is done, %v, is %v behind ticks", f, g)
	}
}

func TestK2TheTwoWaysOfBeingDone(t *testing.T) {
	f := steps(t, begin(t, 0, 2, "a: nop", "nop\nzap"), tick, tick, first, first)
	way(t, f, api.Msg{Kind: api.MsgObject, Worker: 0, Unit: 0, Turn: 1, Data: bytes(t, "a: nop")},
		api.Msg{Kind: api.MsgFault, Worker: 1, Unit: 1, Turn: 1, Fault: api.Fault{Err: api.ErrKind, At: 2}})
	leases(t, f, lease{0, 1, 1}, lease{1, 1, 1}) // not yet
	f = steps(t, f, second, first)
	want := []api.Job{
		{Source: []byte("a: nop"), Worker: -1, Turn: 1, Done: true, Object: bytes(t, "a: nop")},
		{Source: []byte("nop\nzap"), Worker: -1, Turn: 1, Done: true, Fault: api.Fault{Err: api.ErrKind, At: 2}},
	}
	if !same(f, api.Farm{Jobs: want, Dead: make([]bool, 2)}) {
		t.Errorf("all being done, the farm is %v", f)
	}
}

func TestK2FaultsThatComeBack(t *testing.T) {
	for s, fault := range map[string]api.Fault{
		"":                      {},
		labels(255):             {},
		labels(256):             {Err: api.ErrMuch}, // it has an object, but that has no bytes
		"nop\n\n\nbra a":        {Err: api.ErrNone, At: 4},
		strings.Repeat("x", 81): {Err: api.ErrMuch, At: 1},
		".rept 200\n.long 0,0,0,0,0,0,0,0,0,0,0\n.endr": {Err: api.ErrMuch},
		".if 1":                             {Err: api.ErrEnd, At: 1},
		strings.Repeat("\n", 1197) + "zap":  {Err: api.ErrKind, At: 1198},
		".macro m\nm\n.endm\nm":             {Err: api.ErrDeep, At: 4},
		strings.Repeat("x", api.MaxSource):  {Err: api.ErrMuch, At: 1},
		strings.Repeat("\n", api.MaxSource): {},
	} {
		f := steps(t, begin(t, 0, 1, s), tick, first, first)
		j := f.Jobs[0]
		if !j.Done || j.Fault != fault || (len(j.Object) > 0) != (fault == api.Fault{}) {
			t.Errorf("of %.40q comes fault %v, and %d bytes, not %v", s, j.Fault, len(j.Object), fault)
		}
	}
}

func TestK2DeadWorkersDoNothing(t *testing.T) {
	f := steps(t, begin(t, 0, 2, "nop", "rts"), tick, die(1))
	f = steps(t, f, second)
	way(t, f, leased(0, 0, 1, "nop"))
	leases(t, f, lease{0, 1, 0}, lease{1, 1, 0})
	// It lives again ahead of the next lease's coming.
	f = steps(t, f, die(1), tick, tick, tick, die(0), tick)
	leases(t, f, lease{1, 2, 0}, lease{0, 2, 0})
	way(t, f, leased(0, 0, 1, "nop"), leased(1, 0, 2, "nop"), leased(0, 1, 2, "rts"))
	f = steps(t, f, first, first, first)
	way(t, f, api.Msg{Kind: api.MsgObject, Worker: 1, Unit: 0, Turn: 2, Data: bytes(t, "nop")})
	// What one sent that is dead now comes all the same.
	f = steps(t, f, die(1), first)
	if !f.Jobs[0].Done || f.Jobs[1].Done || !slices.Equal(f.Dead, []bool{true, true}) {
		t.Errorf("of a dead worker's object comes %v", f)
	}
}

func TestK2LateAndDoubleMessages(t *testing.T) {
	f := steps(t, begin(t, 0, 2, "nop"), tick, twice, twice)
	way(t, f, leased(0, 0, 1, "nop"), leased(0, 0, 1, "nop"), leased(0, 0, 1, "nop"))
	f = steps(t, f, first, tick, tick, tick, tick)
	leases(t, f, lease{1, 2, 0})
	object := func(worker, turn int) api.Msg {
		return api.Msg{Kind: api.MsgObject, Worker: worker, Turn: turn, Data: bytes(t, "nop")}
	}
	way(t, f, leased(0, 0, 1, "nop"), leased(0, 0, 1, "nop"), object(0, 1), leased(1, 0, 2, "nop"))
	// The first turn's object comes in the second turn.
	f = steps(t, f, api.Step{Kind: api.StepGo, N: 2})
	want := api.Job{Source: []byte("nop"), Worker: -1, Turn: 2, Done: true, Object: bytes(t, "nop")}
	if !same(f, api.Farm{Jobs: []api.Job{want}, Dead: make([]bool, 2), Way: f.Way}) {
		t.Errorf("of a late object comes %v", f)
	}
	// Leases of what is done are built, and what comes of them changes nothing.
	f = steps(t, f, first, first, first)
	way(t, f, object(0, 1), object(0, 1), object(1, 2))
	f = steps(t, f, second, first, first)
	if !same(f, api.Farm{Jobs: []api.Job{want}, Dead: make([]bool, 2)}) {
		t.Errorf("done is %v, not done", f)
	}
}

func TestK2GoDropAndTwice(t *testing.T) {
	f := steps(t, begin(t, 0, 3, "nop", "rts", "zap"), tick)
	a, b, c := leased(0, 0, 1, "nop"), leased(1, 1, 1, "rts"), leased(2, 2, 1, "zap")
	way(t, f, a, b, c)
	for n, want := range [][]api.Msg{{b, c}, {a, c}, {a, b}} {
		way(t, steps(t, f, api.Step{Kind: api.StepDrop, N: n}), want...)
		way(t, steps(t, f, api.Step{Kind: api.StepTwice, N: n}), a, b, c, []api.Msg{a, b, c}[n])
		g := steps(t, f, api.Step{Kind: api.StepGo, N: n})
		back := api.Msg{Kind: api.MsgObject, Worker: n, Unit: n, Turn: 1}
		if n == 2 {
			back.Kind, back.Fault = api.MsgFault, api.Fault{Err: api.ErrKind, At: 1}
		} else {
			back.Data = bytes(t, []string{"nop", "rts"}[n])
		}
		way(t, g, append(slices.Clone(want), back)...)
		if !reflect.DeepEqual(plain(g).Jobs, plain(f).Jobs) {
			t.Errorf("jobs are %v behind a lease that came", g.Jobs)
		}
	}
	way(t, f, a, b, c)
}

func TestK2Die(t *testing.T) {
	f := begin(t, 0, 3, "nop")
	for _, c := range []struct {
		n    int
		dead []bool
	}{
		{0, []bool{true, false, false}},
		{2, []bool{true, false, true}},
		{0, []bool{false, false, true}},
		{1, []bool{false, true, true}},
		{2, []bool{false, true, false}},
	} {
		if f = steps(t, f, die(c.n)); !slices.Equal(f.Dead, c.dead) {
			t.Fatalf("dead are %v, not %v", f.Dead, c.dead)
		}
	}
	// A worker that dies keeps its job, until that has waited enough.
	f = steps(t, begin(t, 0, 2, "nop", "rts"), tick, die(0))
	leases(t, f, lease{0, 1, 0}, lease{1, 1, 0})
	if len(f.Way) != 2 {
		t.Errorf("on the way are %q behind a death", f.Way)
	}
}

func TestK2StepsThatAreRefused(t *testing.T) {
	// Workers are fewer than messages, so that each number is held against its own list.
	crowd := steps(t, begin(t, 0, 1, "nop"), tick, twice, twice)
	odd := []int{math.MinInt, -1 << 32, -2, -1, 0, 1, 2, 3, 4, 5, 6, 12, 1 << 32, 1<<32 + 1, math.MaxInt}
	for _, f := range []api.Farm{begin(t, 0, 3, "nop"), busy(t), settle(t, begin(t, 0, 2, "nop", "zap")), crowd} {
		for _, kind := range odd {
			for _, n := range odd {
				err := api.OK
				switch kind {
				case api.StepTick:
				case api.StepGo, api.StepDrop, api.StepTwice:
					if n < 0 || n > len(f.Way)-1 {
						err = api.ErrNone
					}
				case api.StepDie:
					if n < 0 || n > len(f.Dead)-1 {
						err = api.ErrNone
					}
				default:
					err = api.ErrKind
				}
				g, got := farm.Do(f, api.Step{Kind: kind, N: n})
				if got != err || err != api.OK && !same(f, g) {
					t.Errorf("Do(%v, {%d %d}) is %v %v, not of error %v", f, kind, n, g, got, err)
				}
				if kind == api.StepTick && !same(g, steps(t, f, tick)) {
					t.Errorf("a tick hangs on number %d", n)
				}
			}
		}
	}
}

func TestK2DoOnlyReads(t *testing.T) {
	f := busy(t)
	for kind := range 7 {
		for n := range 4 {
			s := api.Step{Kind: kind, N: n}
			x := farm.Own(f)
			x.Way = append(make([][]byte, 0, 20), x.Way...)
			x.Way[:20][len(x.Way)] = []byte("spare")
			g, _ := farm.Do(x, s)
			if !same(x, f) || string(x.Way[:20][len(x.Way)]) != "spare" {
				t.Errorf("%v changes what was handed in: %v", s, x)
			}
			before := plain(g)
			spoil(x)
			if !same(g, before) {
				t.Errorf("%v: the answer is %v behind a change of what was handed in", s, g)
			}
			x = farm.Own(f)
			g, _ = farm.Do(x, s)
			spoil(g)
			if !same(x, f) {
				t.Errorf("%v: what was handed in is %v behind a change of the answer", s, x)
			}
		}
	}
}

func TestK2ListsOfOneAnswerShareNothing(t *testing.T) {
	f := steps(t, begin(t, 0, 1, "nop"), tick, twice)
	f.Way[0][12] = 'z'
	if m, err := wire.Parse(f.Way[1]); err != api.OK || string(m.Data) != "nop" {
		t.Errorf("a message is %v %v behind a change of the one that it is twice", m, err)
	}
}

func TestK2WhatIsNoMessage(t *testing.T) {
	// No farm has such ones on its way; they are nothing, all the same.
	for _, b := range [][]byte{
		nil, {}, {1, 2, 3}, append(message(t, leased(0, 0, 1, "nop")), 0),
		message(t, leased(0, 1, 1, "nop")), message(t, leased(0, 3, 1, "nop")),
		message(t, leased(1, 0, 1, "nop")), message(t, leased(2, 0, 1, "nop")),
		message(t, api.Msg{Kind: api.MsgObject, Unit: 1, Turn: 1}),
		message(t, api.Msg{Kind: api.MsgObject, Turn: 2}),
		message(t, api.Msg{Kind: api.MsgFault, Turn: 3, Fault: api.Fault{Err: api.ErrKind}}),
	} {
		f := steps(t, begin(t, 0, 1, "nop"), tick, gone)
		g := farm.Own(f)
		g.Way = [][]byte{b}
		if g = steps(t, g, first); !same(f, g) {
			t.Errorf("of %q comes %v", b, g)
		}
	}
	f := begin(t, 0, 1, "nop")
	g := farm.Own(f)
	g.Way = [][]byte{message(t, api.Msg{Kind: api.MsgObject})}
	if g = steps(t, g, first); !same(f, g) {
		t.Errorf("ahead of all turns comes %v", g)
	}
}

func TestK2DoneIsDone(t *testing.T) {
	// No worker sends such ones: they would tell who looks at what comes for a job that is done.
	f := settle(t, begin(t, 0, 1, "nop", "zap"))
	for unit := range f.Jobs {
		for _, m := range []api.Msg{
			{Kind: api.MsgObject, Unit: unit, Turn: 1, Data: bytes(t, "rts")},
			{Kind: api.MsgFault, Unit: unit, Turn: 1, Fault: api.Fault{Err: api.ErrBusy, At: 3}},
		} {
			g := farm.Own(f)
			g.Way = [][]byte{message(t, m)}
			if g = steps(t, g, first); !same(f, g) {
				t.Errorf("what is done, %v, is %v behind %v", f, g, m)
			}
		}
	}
}

func TestK2WaitsEndAheadOfNewLeases(t *testing.T) {
	// Ahead of one that waits enough stands one without a worker, as no farm has it: the worker is free for that.
	f := begin(t, 0, 1, "nop", "rts")
	f.Jobs[1].Turn, f.Jobs[1].Worker, f.Jobs[1].Wait = 1, 0, 3
	leases(t, steps(t, f, tick), lease{0, 1, 0}, lease{-1, 1, 0})
}

func TestK2NoFarmPanics(t *testing.T) {
	for _, f := range []api.Farm{
		{},
		{Jobs: make([]api.Job, 2)},
		{Jobs: []api.Job{{Worker: -1, Turn: -9}, {Worker: -1, Turn: math.MaxInt}, {Worker: math.MaxInt, Wait: math.MaxInt}}, Dead: make([]bool, 2)},
		{Jobs: []api.Job{{Done: true}}, Base: -1},
		{Dead: make([]bool, 9), Way: make([][]byte, 20)},
	} {
		for kind := range 7 {
			for _, n := range []int{-1, 0, 1} {
				g, _ := farm.Do(f, api.Step{Kind: kind, N: n})
				farm.Image(farm.Own(g))
			}
		}
	}
}

func TestK2TurnsThatNoMessageHas(t *testing.T) {
	// It is leased again and again, until its turn has no room in a message.
	f := begin(t, 0, 1, "nop")
	for f.Jobs[0].Turn < 65535 {
		f, _ = farm.Do(f, tick)
		if len(f.Way) > 1 {
			f, _ = farm.Do(f, gone)
		}
	}
	last := leased(0, 0, 65535, "nop")
	way(t, f, last)
	f = steps(t, f, tick, tick, tick, tick)
	leases(t, f, lease{0, 65536, 0})
	way(t, f, last)
	// What was sent ahead of that still counts.
	f = steps(t, f, first, first)
	image(t, f, api.Image{Bytes: []byte{0, 9}}, api.Fault{})
}

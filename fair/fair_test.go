package fair_test

import (
	"fmt"
	"math"
	"reflect"
	"slices"
	"strings"
	"testing"

	"platelayer/api"
	"platelayer/asm"
	"platelayer/fair"
	"platelayer/farm"
	"platelayer/obj"
	"platelayer/wire"
)

// sources is texts as sources.
func sources(l ...string) [][]byte {
	var out [][]byte
	for _, s := range l {
		out = append(out, []byte(s))
	}
	return out
}

// plain is a farm in which no list without entries is nil, so that equal ones are deeply equal.
func plain(f api.Farm) api.Farm {
	out := api.Farm{Base: f.Base, Dead: append([]bool{}, f.Dead...), Jobs: []api.Job{}, Way: [][]byte{}}
	for _, j := range f.Jobs {
		j.Source, j.Object = append([]byte{}, j.Source...), append([]byte{}, j.Object...)
		out.Jobs = append(out.Jobs, j)
	}
	for _, b := range f.Way {
		out.Way = append(out.Way, append([]byte{}, b...))
	}
	return out
}

func same(a, b api.Farm) bool { return reflect.DeepEqual(plain(a), plain(b)) }

// spoil changes all that a farm's lists hold, and their spare room too.
func spoil(f api.Farm) {
	bytes := func(b []byte) {
		for i := range b[:cap(b)] {
			b[:cap(b)][i] ^= 0xff
		}
	}
	for _, j := range f.Jobs {
		bytes(j.Source)
		bytes(j.Object)
	}
	for _, b := range f.Way {
		bytes(b)
	}
	for i := range f.Dead[:cap(f.Dead)] {
		f.Dead[:cap(f.Dead)][i] = !f.Dead[:cap(f.Dead)][i]
	}
	for i := range f.Jobs[:cap(f.Jobs)] {
		f.Jobs[:cap(f.Jobs)][i] = api.Job{Turn: -7, Fault: api.Fault{Err: 99}}
	}
	for i := range f.Way[:cap(f.Way)] {
		f.Way[:cap(f.Way)][i] = []byte("spoilt")
	}
}

var (
	tick   = api.Step{Kind: api.StepTick}
	gone   = api.Step{Kind: api.StepDrop}
	first  = api.Step{Kind: api.StepGo}
	second = api.Step{Kind: api.StepGo, N: 1}
	twice  = api.Step{Kind: api.StepTwice}
)

// die is the step by which worker n dies, or lives again.
func die(n int) api.Step { return api.Step{Kind: api.StepDie, N: n} }

// played is what Play makes of sources by steps, none of which has an error.
func played(t *testing.T, workers int, l []string, steps ...api.Step) api.Farm {
	t.Helper()
	f, errs, err := fair.Play(sources(l...), 8, workers, steps)
	if err != api.OK || len(errs) != len(steps) || slices.ContainsFunc(errs, func(e api.Errno) bool { return e != api.OK }) {
		t.Fatalf("Play(%q, 8, %d, %v) has errors %v %v", l, workers, steps, errs, err)
	}
	return f
}

// bytes is the object of a source, as such.
func bytes(t *testing.T, source string) []byte {
	t.Helper()
	o, f := asm.Unit([]byte(source))
	b, err := obj.Bytes(o)
	if f.Err != api.OK || err != api.OK {
		t.Fatalf("%q has fault %v, error %v", source, f, err)
	}
	return b
}

// message is one as bytes.
func message(t *testing.T, m api.Msg) []byte {
	t.Helper()
	b, err := wire.Bytes(m)
	if err != api.OK {
		t.Fatalf("%v has error %v", m, err)
	}
	return b
}

// built is a job that is Done with what comes of its source.
func built(t *testing.T, source string, turn int) api.Job {
	t.Helper()
	return api.Job{Source: []byte(source), Worker: -1, Turn: turn, Done: true, Object: bytes(t, source)}
}

// zap is a job that is Done with a fault.
func zap(turn int) api.Job {
	return api.Job{Source: []byte("zap"), Worker: -1, Turn: turn, Done: true, Fault: api.Fault{Err: api.ErrKind, At: 1}}
}

// is fails if a farm is another one.
func is(t *testing.T, what string, got, want api.Farm) {
	t.Helper()
	if !same(got, want) {
		t.Errorf("%s: the farm is %v, not %v", what, got, want)
	}
}

func TestL1Play(t *testing.T) {
	l := []string{"nop", "zap"}
	begun, _ := farm.New(sources(l...), 8, 2)
	is(t, "no step", played(t, 2, l), begun)
	lease := func(worker, unit int) []byte {
		return message(t, api.Msg{Kind: api.MsgLease, Worker: worker, Unit: unit, Turn: 1, Data: []byte(l[unit])})
	}
	leased := []api.Job{{Source: []byte("nop"), Turn: 1}, {Source: []byte("zap"), Worker: 1, Turn: 1}}
	is(t, "a tick", played(t, 2, l, tick), api.Farm{Base: 8, Jobs: leased, Dead: make([]bool, 2), Way: [][]byte{lease(0, 0), lease(1, 1)}})
	// Steps are done in their order: what is there twice is not what is lost.
	is(t, "twice, lost", played(t, 2, l, tick, twice, gone), api.Farm{Base: 8, Jobs: leased, Dead: make([]bool, 2), Way: [][]byte{lease(1, 1), lease(0, 0)}})
	is(t, "lost, twice", played(t, 2, l, tick, gone, twice), api.Farm{Base: 8, Jobs: leased, Dead: make([]bool, 2), Way: [][]byte{lease(1, 1), lease(1, 1)}})
	is(t, "all comes", played(t, 2, l, tick, first, first, first, first), api.Farm{Base: 8, Jobs: []api.Job{built(t, "nop", 1), zap(1)}, Dead: make([]bool, 2)})
	is(t, "a death", played(t, 2, l, die(1)), api.Farm{Base: 8, Jobs: begun.Jobs, Dead: []bool{false, true}})
}

func TestL1PlayTellsEachStepsError(t *testing.T) {
	steps := []api.Step{first, tick, {Kind: 9}, second, first, {Kind: api.StepDrop, N: -1}, first, die(1), die(0), {}, twice, tick}
	want := []api.Errno{api.ErrNone, api.OK, api.ErrKind, api.ErrNone, api.OK, api.ErrNone, api.OK, api.ErrNone, api.OK, api.ErrKind, api.ErrNone, api.OK}
	f, errs, err := fair.Play(sources("nop"), 8, 1, steps)
	if !slices.Equal(errs, want) || err != api.OK {
		t.Errorf("Play has errors %v %v, not %v", errs, err, want)
	}
	// Those that have none are done, whatever is ahead of them.
	is(t, "errors between", f, api.Farm{Base: 8, Jobs: []api.Job{built(t, "nop", 1)}, Dead: []bool{true}})
	for n := range steps {
		_, errs, err := fair.Play(sources("nop"), 8, 1, steps[:n])
		if !slices.Equal(errs, want[:n]) || err != api.OK {
			t.Errorf("Play of %d steps has errors %v %v, not %v", n, errs, err, want[:n])
		}
	}
}

// refused fails if Play has another error, or something beside it.
func refused(t *testing.T, what string, l [][]byte, base, workers int, steps []api.Step, want api.Errno) {
	t.Helper()
	f, errs, err := fair.Play(l, base, workers, steps)
	if err != want || !same(f, api.Farm{}) || len(errs) != 0 {
		t.Errorf("%s: Play is %v %v %v, not error %v", what, f, errs, err, want)
	}
}

func TestL1PlayHasNewsErrors(t *testing.T) {
	long := strings.Repeat("x", api.MaxSource+1)
	// New's error is told ahead of that of the steps, and they are not looked at.
	for _, steps := range [][]api.Step{nil, {}, {tick, first}, {{Kind: 9}}, make([]api.Step, api.MaxFarm+1)} {
		refused(t, "no source", nil, 0, 1, steps, api.ErrMany)
		refused(t, "no source", [][]byte{}, 0, 1, steps, api.ErrMany)
		refused(t, "five sources", sources("", "", "", "", ""), 0, 1, steps, api.ErrMany)
		for _, workers := range []int{math.MinInt, -1, 0, 4, math.MaxInt} {
			refused(t, "too many workers, or too few", sources("nop"), 0, workers, steps, api.ErrMany)
			refused(t, "no base either", sources("nop"), 2, workers, steps, api.ErrMany)
		}
		for _, base := range []int{math.MinInt, -4, 1, 2, 3, 1<<20 + 4, math.MaxInt} {
			refused(t, "no base", sources("nop"), base, 1, steps, api.ErrRange)
			refused(t, "no base, and too long a source", sources(long), base, 1, steps, api.ErrRange)
		}
		refused(t, "too long a source", sources("", long), 0, 1, steps, api.ErrMuch)
	}
}

func TestL1PlayOfManySteps(t *testing.T) {
	// Each of them has an error, or changes something: none is left out.
	for _, n := range []int{api.MaxFarm - 1, api.MaxFarm} {
		steps := slices.Repeat([]api.Step{die(0)}, n)
		f, errs, err := fair.Play(sources("nop"), 0, 1, steps)
		if err != api.OK || len(errs) != n || f.Dead[0] != (n%2 == 1) {
			t.Errorf("Play of %d steps is %v %v %v", n, f, errs, err)
		}
		if f, errs, err = fair.Play(sources("nop"), 0, 1, make([]api.Step, n)); !slices.Equal(errs, slices.Repeat([]api.Errno{api.ErrKind}, n)) {
			t.Errorf("Play of %d steps of no kind is %v %v %v", n, f, errs, err)
		}
	}
	for _, n := range []int{api.MaxFarm + 1, api.MaxFarm + 2, 1000} {
		refused(t, fmt.Sprint(n, " steps"), sources("nop"), 0, 1, slices.Repeat([]api.Step{tick}, n), api.ErrMany)
		refused(t, fmt.Sprint(n, " steps of no kind"), sources("nop"), 0, 1, make([]api.Step, n), api.ErrMany)
	}
}

func TestL1PlayOnlyReads(t *testing.T) {
	room := []byte("nop and more")
	l := append(make([][]byte, 0, 4), room[:3], room[:3])
	steps := append(make([]api.Step, 0, 8), tick, first, second, twice)
	f, _, _ := fair.Play(l, 8, 2, steps)
	if string(room) != "nop and more" || l[:3][2] != nil || !slices.Equal(steps, []api.Step{tick, first, second, twice}) || steps[:5][4] != (api.Step{}) {
		t.Errorf("Play changes what was handed in: %q %q %v", room, l[:3], steps[:5])
	}
	before := plain(f)
	copy(room, "rts")
	l[1] = nil
	clear(steps)
	is(t, "a change of what was handed in", f, before)
	room = []byte("nop and more")
	l = append(make([][]byte, 0, 4), room[:3], room[:3])
	f, errs, _ := fair.Play(l, 8, 2, []api.Step{tick})
	spoil(f)
	errs[0] = api.ErrBad
	if string(room) != "nop and more" || l[:3][2] != nil {
		t.Errorf("what was handed in is %q %q behind a change of the answer", room, l)
	}
	f, errs, _ = fair.Play(l, 8, 2, []api.Step{tick})
	if len(f.Way) != 2 || errs[0] != api.OK {
		t.Errorf("Play keeps what it answered: %v %v", f, errs)
	}
}

func TestL1Round(t *testing.T) {
	l := []string{"nop", "zap", "rts"}
	f := fair.Round(played(t, 2, l))
	is(t, "the first round", f, api.Farm{Base: 8, Dead: make([]bool, 2), Jobs: []api.Job{built(t, "nop", 1), zap(1), {Source: []byte("rts"), Worker: -1}}})
	f = fair.Round(f)
	done := api.Farm{Base: 8, Dead: make([]bool, 2), Jobs: []api.Job{built(t, "nop", 1), zap(1), built(t, "rts", 1)}}
	is(t, "the second one", f, done)
	is(t, "one more", fair.Round(f), done)
}

func TestL1RoundOfDeadWorkers(t *testing.T) {
	open := api.Job{Source: []byte("rts"), Turn: 1}
	f := played(t, 2, []string{"rts", "nop"}, die(0))
	for wait := range api.MaxWait {
		f = fair.Round(f)
		open.Wait = wait
		is(t, fmt.Sprint("round ", wait+1), f, api.Farm{Base: 8, Dead: []bool{true, false}, Jobs: []api.Job{open, built(t, "nop", 1)}})
	}
	is(t, "the next turn", fair.Round(f), api.Farm{Base: 8, Dead: []bool{true, false}, Jobs: []api.Job{built(t, "rts", 2), built(t, "nop", 1)}})
}

func TestL1RoundsTickComesFirst(t *testing.T) {
	// The object is on the way when its lease ends: the job has a new turn ahead of being done by the old one.
	f := played(t, 1, []string{"nop"}, tick, first, tick, tick, tick)
	is(t, "a late object", fair.Round(f), api.Farm{Base: 8, Dead: make([]bool, 1), Jobs: []api.Job{built(t, "nop", 2)}})
	// One that was lost is not given again, as it hasn't waited enough.
	f = played(t, 2, []string{"nop", "rts"}, tick, gone)
	want := api.Farm{Base: 8, Dead: make([]bool, 2), Jobs: []api.Job{{Source: []byte("nop"), Turn: 1, Wait: 1}, built(t, "rts", 1)}}
	is(t, "a lost lease", fair.Round(f), want)
}

func TestL1RoundLetsAllCome(t *testing.T) {
	l := []string{"nop", "zap", "rts", ""}
	steps := []api.Step{tick}
	for range api.MaxWay {
		steps = append(steps, twice)
	}
	f := played(t, 3, l, steps...)
	if len(f.Way) != api.MaxWay {
		t.Fatalf("on the way are %d", len(f.Way))
	}
	last := api.Job{Source: []byte{}, Worker: -1}
	is(t, "a full way", fair.Round(f), api.Farm{Base: 8, Dead: make([]bool, 3), Jobs: []api.Job{built(t, "nop", 1), zap(1), built(t, "rts", 1), last}})
	// Of a full way, and three leases that are over: new ones have no room, and are lost.
	f = played(t, 3, l, append(steps, tick, tick, tick)...)
	is(t, "a full way, late", fair.Round(f), api.Farm{Base: 8, Dead: make([]bool, 3), Jobs: []api.Job{built(t, "nop", 2), zap(2), built(t, "rts", 2), last}})
	// All is done, and the way is cleared all the same.
	f = played(t, 1, []string{"nop"}, tick, twice, twice, first, api.Step{Kind: api.StepGo, N: 2})
	if !fair.Done(f) || len(f.Way) != 2 {
		t.Fatalf("it is not done, or nothing is on the way: %v", f)
	}
	is(t, "it is done", fair.Round(f), api.Farm{Base: 8, Dead: make([]bool, 1), Jobs: []api.Job{built(t, "nop", 1)}})
}

func TestL1RoundTakesTheFirstMessage(t *testing.T) {
	// No worker sends such ones: they would tell which one comes first.
	f := played(t, 1, []string{"nop"}, tick, gone)
	object := message(t, api.Msg{Kind: api.MsgObject, Turn: 1, Data: bytes(t, "rts")})
	fault := message(t, api.Msg{Kind: api.MsgFault, Turn: 1, Fault: api.Fault{Err: api.ErrKind, At: 1}})
	for _, c := range []struct {
		way  [][]byte
		want api.Errno
	}{
		{[][]byte{object, fault}, api.OK},
		{[][]byte{fault, object}, api.ErrKind},
		{[][]byte{{1, 2, 3}, fault, object, object}, api.ErrKind},
	} {
		f.Way = c.way
		if g := fair.Round(f); !g.Jobs[0].Done || g.Jobs[0].Fault.Err != c.want || len(g.Way) != 0 {
			t.Errorf("of %q comes %v", c.way, g)
		}
	}
}

// busy is a farm in which all kinds of lists have entries, and one job is Done.
func busy(t *testing.T) api.Farm {
	t.Helper()
	return played(t, 2, []string{"a: nop", "zap", "nop"}, tick, first, twice, second, die(1), twice)
}

// reads fails if a call changes what it is handed, or answers something of it.
func reads(t *testing.T, f api.Farm, call func(api.Farm) api.Farm) {
	t.Helper()
	x := farm.Own(f)
	x.Way = append(make([][]byte, 0, 20), x.Way...)
	x.Way[:20][len(x.Way)] = []byte("spare")
	g := call(x)
	is(t, "what was handed in", x, f)
	if string(x.Way[:20][len(x.Way)]) != "spare" {
		t.Errorf("what was spare is %q", x.Way[:20][len(x.Way)])
	}
	before := plain(g)
	spoil(x)
	is(t, "the answer, behind a change of what was handed in", g, before)
	x = farm.Own(f)
	spoil(call(x))
	is(t, "what was handed in, behind a change of the answer", x, f)
}

func TestL1RoundAndSettleOnlyRead(t *testing.T) {
	for _, f := range []api.Farm{
		{},
		played(t, 2, []string{"nop", ""}),
		busy(t),
		played(t, 1, []string{"nop"}, die(0)),
		played(t, 1, []string{"nop"}, tick, twice, first, second), // done, with one more on the way
	} {
		reads(t, f, fair.Round)
		reads(t, f, func(x api.Farm) api.Farm {
			g, _ := fair.Settle(x)
			return g
		})
		x := farm.Own(f)
		fair.Done(x)
		is(t, "what Done was handed", x, f)
	}
}

func TestL1Done(t *testing.T) {
	if !fair.Done(api.Farm{}) {
		t.Errorf("a farm without jobs isn't done")
	}
	for n := 1; n <= api.MaxUnits; n++ {
		for which := range 1 << n {
			f := played(t, 1, slices.Repeat([]string{"nop"}, n), tick)
			for k := range n {
				f.Jobs[k].Done = which>>k&1 == 1
			}
			if got := fair.Done(f); got != (which == 1<<n-1) {
				t.Errorf("Done is %v, of %d jobs, %b", got, n, which)
			}
		}
	}
	f := played(t, 2, []string{"nop", "zap"})
	for k, s := range []api.Step{tick, first, first, first, first} {
		if fair.Done(f) {
			t.Errorf("it is done by %d steps", k)
		}
		f, _ = farm.Do(f, s)
	}
	if !fair.Done(f) {
		t.Errorf("%v isn't done", f)
	}
	// Nothing else means anything.
	f = played(t, 1, []string{"zap"}, tick, twice, first, second, die(0))
	if !fair.Done(f) || len(f.Way) == 0 {
		t.Errorf("%v isn't done, or nothing is on the way", f)
	}
}

// settles fails if a farm takes another number of rounds, or comes to something else.
func settles(t *testing.T, what string, f api.Farm, rounds int, want ...api.Job) {
	t.Helper()
	g, n := fair.Settle(f)
	if n != rounds {
		t.Errorf("%s: Settle takes %d rounds, not %d", what, n, rounds)
	}
	is(t, what, g, api.Farm{Base: 8, Jobs: want, Dead: f.Dead})
}

func TestL1Settle(t *testing.T) {
	one, three := []string{"nop"}, []string{"nop", "rts", "zap"}
	settles(t, "a new one", played(t, 1, one), 1, built(t, "nop", 1))
	settles(t, "a lost lease", played(t, 1, one, tick, gone), 4, built(t, "nop", 2))
	settles(t, "a lost lease, late", played(t, 1, one, tick, gone, tick, tick, tick), 1, built(t, "nop", 2))
	settles(t, "a lost object", played(t, 1, one, tick, first, gone, tick), 3, built(t, "nop", 2))
	settles(t, "what is on the way", played(t, 1, one, tick, first), 1, built(t, "nop", 1))
	settles(t, "three at once", played(t, 3, three), 1, built(t, "nop", 1), built(t, "rts", 1), zap(1))
	settles(t, "two, and one", played(t, 2, three), 2, built(t, "nop", 1), built(t, "rts", 1), zap(1))
	settles(t, "one by one", played(t, 1, three), 3, built(t, "nop", 1), built(t, "rts", 1), zap(1))
	settles(t, "the first is dead", played(t, 2, one, die(0)), 5, built(t, "nop", 2))
	settles(t, "two are dead", played(t, 3, one, die(0), die(1)), 9, built(t, "nop", 3))
	settles(t, "one lives again", played(t, 1, one, die(0), tick, first, die(0)), 4, built(t, "nop", 2))
}

func TestL1SettleOfWhatIsDone(t *testing.T) {
	// No round is needed: neither a tick is done, nor does anything come.
	for _, f := range []api.Farm{
		{},
		{Dead: make([]bool, 2), Way: [][]byte{{1, 2, 3}}},
		played(t, 1, []string{"nop"}, tick, first, first),
		played(t, 1, []string{"zap"}, tick, twice, first, second, die(0)),
	} {
		g, n := fair.Settle(f)
		if n != 0 {
			t.Errorf("Settle(%v) takes %d rounds", f, n)
		}
		is(t, "it is done", g, f)
	}
}

func TestL1SettleEnds(t *testing.T) {
	// All are dead: the lease is given in the first round, and in each fourth one behind it.
	for workers := 1; workers <= api.MaxWorkers; workers++ {
		f := played(t, workers, []string{"nop"})
		for w := range workers {
			f.Dead[w] = true
		}
		settles(t, "all are dead", f, api.MaxRounds, api.Job{Source: []byte("nop"), Worker: 14 % workers, Turn: 15, Wait: 3})
	}
	// One of two jobs is done, and that is not enough.
	f := played(t, 1, []string{"nop", "rts"}, tick, first, first, die(0))
	settles(t, "one is done", f, api.MaxRounds, built(t, "nop", 1), api.Job{Source: []byte("rts"), Turn: 15, Wait: 3})
	// What is settled so may be settled again.
	f, _ = fair.Settle(f)
	f, _ = farm.Do(f, die(0))
	settles(t, "it lives again", f, 1, built(t, "nop", 1), built(t, "rts", 16))
}

func TestL1SettleAtTheLastRound(t *testing.T) {
	// No farm waits so long: a job whose lease is over in the last round is done, and one behind that is not.
	for wait, rounds := range map[int]int{-54: 58, -55: 59, -56: 60, -57: 60} {
		f := played(t, 1, []string{"nop"}, tick, gone)
		f.Jobs[0].Wait = wait
		want := built(t, "nop", 2)
		if wait == -57 {
			want = api.Job{Source: []byte("nop"), Turn: 1, Wait: 3}
		}
		settles(t, fmt.Sprint("wait ", wait), f, rounds, want)
	}
}

func TestL1NoFarmPanics(t *testing.T) {
	for _, f := range []api.Farm{
		{},
		{Jobs: make([]api.Job, 2)},
		{Jobs: []api.Job{{Worker: -1, Turn: -9}, {Worker: -1, Turn: math.MaxInt}, {Worker: math.MaxInt, Wait: math.MaxInt}}, Dead: make([]bool, 2)},
		{Jobs: []api.Job{{Worker: -1}}, Base: -1},
		{Jobs: []api.Job{{Source: []byte(strings.Repeat("x", 2*api.MaxSource)), Worker: -1}}, Dead: make([]bool, 9), Way: make([][]byte, 20)},
	} {
		g := fair.Round(f)
		if len(g.Way) != 0 {
			t.Errorf("on the way are %q behind a round", g.Way)
		}
		if g, n := fair.Settle(f); n > api.MaxRounds || !fair.Done(g) && n < api.MaxRounds {
			t.Errorf("Settle(%v) is %v, of %d rounds", f, g, n)
		}
	}
}

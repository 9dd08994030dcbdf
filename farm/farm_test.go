package farm_test

import (
	"math"
	"reflect"
	"slices"
	"strings"
	"testing"

	"platelayer/api"
	"platelayer/asm"
	"platelayer/farm"
	"platelayer/obj"
	"platelayer/wire"
)

// plain is a farm in which no list without entries is nil, so that equal ones are deeply equal.
func plain(f api.Farm) api.Farm {
	out := api.Farm{Base: f.Base, Dead: append([]bool{}, f.Dead...), Jobs: []api.Job{}, Way: [][]byte{}}
	for _, j := range f.Jobs {
		j.Source, j.Object = append([]byte{}, j.Source...), append([]byte{}, j.Object...)
		out.Jobs = append(out.Jobs, j)
	}
	for _, b := range f.Way {
		out.Way = append(out.Way, append([]byte{}, b...))
	}
	return out
}

func same(a, b api.Farm) bool { return reflect.DeepEqual(plain(a), plain(b)) }

// spoil changes all that a farm's lists hold, and their spare room too.
func spoil(f api.Farm) {
	bytes := func(b []byte) {
		for i := range b[:cap(b)] {
			b[:cap(b)][i] ^= 0xff
		}
	}
	for _, j := range f.Jobs {
		bytes(j.Source)
		bytes(j.Object)
	}
	for _, b := range f.Way {
		bytes(b)
	}
	for i := range f.Dead[:cap(f.Dead)] {
		f.Dead[:cap(f.Dead)][i] = !f.Dead[:cap(f.Dead)][i]
	}
	for i := range f.Jobs[:cap(f.Jobs)] {
		f.Jobs[:cap(f.Jobs)][i] = api.Job{Turn: -7, Fault: api.Fault{Err: 99}}
	}
	for i := range f.Way[:cap(f.Way)] {
		f.Way[:cap(f.Way)][i] = []byte("spoilt")
	}
}

// begin is a new farm.
func begin(t *testing.T, base, workers int, l ...string) api.Farm {
	t.Helper()
	f, err := farm.New(sources(l...), base, workers)
	if err != api.OK {
		t.Fatalf("New(%q, %d, %d) has error %v", l, base, workers, err)
	}
	return f
}

// steps does steps, none of which has an error.
func steps(t *testing.T, f api.Farm, l ...api.Step) api.Farm {
	t.Helper()
	for i, s := range l {
		g, err := farm.Do(f, s)
		if err != api.OK {
			t.Fatalf("step %d, %v, has error %v at %v", i, s, err, f)
		}
		f = g
	}
	return f
}

var (
	tick   = api.Step{Kind: api.StepTick}
	gone   = api.Step{Kind: api.StepDrop}
	first  = api.Step{Kind: api.StepGo}
	second = api.Step{Kind: api.StepGo, N: 1}
	twice  = api.Step{Kind: api.StepTwice}
)

// die is the step by which worker n dies, or lives again.
func die(n int) api.Step { return api.Step{Kind: api.StepDie, N: n} }

// busy is a farm in which all kinds of lists have entries, and one job is Done.
func busy(t *testing.T) api.Farm {
	t.Helper()
	return steps(t, begin(t, 8, 2, "a: nop", "zap", "nop"), tick, first, twice, second, die(1), twice)
}

// bytes is the object of a source, as such.
func bytes(t *testing.T, source string) []byte {
	t.Helper()
	o, f := asm.Unit([]byte(source))
	b, err := obj.Bytes(o)
	if f.Err != api.OK || err != api.OK {
		t.Fatalf("%q has fault %v, error %v", source, f, err)
	}
	return b
}

// message is one as bytes.
func message(t *testing.T, m api.Msg) []byte {
	t.Helper()
	b, err := wire.Bytes(m)
	if err != api.OK {
		t.Fatalf("%v has error %v", m, err)
	}
	return b
}

func TestK1New(t *testing.T) {
	long := strings.Repeat("x", api.MaxSource)
	for _, c := range []struct {
		l       []string
		base    int
		workers int
	}{
		{[]string{"nop"}, 0, 1},
		{[]string{""}, 4, 3},
		{[]string{"a: nop", "bad", "", long}, 1 << 20, 3},
		{[]string{long, long}, 1<<20 - 4, 2},
	} {
		want := api.Farm{Base: c.base, Dead: make([]bool, c.workers)}
		for _, s := range c.l {
			want.Jobs = append(want.Jobs, api.Job{Source: []byte(s), Worker: -1})
		}
		if got := begin(t, c.base, c.workers, c.l...); !same(got, want) {
			t.Errorf("New(%.30q, %d, %d) is %v", c.l, c.base, c.workers, got)
		}
	}
	f, err := farm.New([][]byte{nil, {}}, 0, 1)
	if err != api.OK || len(f.Jobs) != 2 || len(f.Jobs[0].Source)+len(f.Jobs[1].Source) != 0 {
		t.Errorf("New of sources without bytes is %v %v", f, err)
	}
}

func TestK1NewIsRefused(t *testing.T) {
	long := strings.Repeat("x", api.MaxSource+1)
	five := []string{"", "", "", "", ""}
	for _, c := range []struct {
		l       []string
		base    int
		workers int
		err     api.Errno
	}{
		{nil, 0, 1, api.ErrMany},
		{five, 0, 1, api.ErrMany},
		{[]string{"nop"}, 0, 0, api.ErrMany},
		{[]string{"nop"}, 0, 4, api.ErrMany},
		{[]string{"nop"}, 0, -1, api.ErrMany},
		{[]string{"nop"}, 0, math.MaxInt, api.ErrMany},
		{[]string{"nop"}, 0, math.MinInt, api.ErrMany},
		{[]string{"nop"}, -4, 1, api.ErrRange},
		{[]string{"nop"}, 1, 1, api.ErrRange},
		{[]string{"nop"}, 2, 1, api.ErrRange},
		{[]string{"nop"}, 3, 1, api.ErrRange},
		{[]string{"nop"}, 1<<20 + 4, 1, api.ErrRange},
		{[]string{"nop"}, 1<<20 + 1, 1, api.ErrRange},
		{[]string{"nop"}, math.MaxInt, 1, api.ErrRange},
		{[]string{"nop"}, math.MinInt, 1, api.ErrRange},
		{[]string{long}, 0, 1, api.ErrMuch},
		{[]string{"", "", "", long}, 0, 1, api.ErrMuch},
		// What is named first comes first.
		{append(five, long), 2, 1, api.ErrMany},
		{[]string{long}, 2, 4, api.ErrMany},
		{[]string{long}, 0, 0, api.ErrMany},
		{nil, -4, 0, api.ErrMany},
		{[]string{"", long}, 2, 3, api.ErrRange},
	} {
		if f, err := farm.New(sources(c.l...), c.base, c.workers); err != c.err || !same(f, api.Farm{}) {
			t.Errorf("New(%.30q, %d, %d) is %v %v, not error %v", c.l, c.base, c.workers, f, err, c.err)
		}
	}
	if _, err := farm.New([][]byte{}, 0, 1); err != api.ErrMany {
		t.Errorf("New of an empty list has error %v", err)
	}
}

func TestK1NewOnlyReads(t *testing.T) {
	room := []byte("nop and more")
	l := append(make([][]byte, 0, 4), room[:3], room[:3])
	f, _ := farm.New(l, 0, 2)
	before := plain(f)
	copy(room, "rts")
	l[1] = nil
	if !same(f, before) {
		t.Errorf("the farm is %v behind a change of what was handed in", f)
	}
	room = []byte("nop and more")
	l = append(make([][]byte, 0, 4), room[:3], room[:3])
	f, _ = farm.New(l, 0, 2)
	spoil(f)
	if string(room) != "nop and more" || len(l) != 2 || l[:3][2] != nil {
		t.Errorf("what was handed in is %q %q behind a change of the farm", room, l)
	}
	// Two sources are one list: those of their jobs are not.
	f, _ = farm.New(l, 0, 2)
	f.Jobs[0].Source[0] = 'z'
	if string(f.Jobs[1].Source) != "nop" {
		t.Errorf("job 1 has source %q behind a change of job 0", f.Jobs[1].Source)
	}
}

func TestK1Own(t *testing.T) {
	for _, f := range []api.Farm{{}, begin(t, 4, 3, "nop", ""), busy(t)} {
		before := plain(f)
		g := farm.Own(f)
		if !same(g, before) {
			t.Errorf("Own(%v) is %v", before, g)
		}
		spoil(g)
		if !same(f, before) {
			t.Errorf("%v is %v behind a change of its copy", before, f)
		}
		g = farm.Own(f)
		spoil(f)
		if !same(g, before) {
			t.Errorf("the copy of %v is %v behind a change of it", before, g)
		}
	}
}

// image fails if Image is not that one, or its fault is another.
func image(t *testing.T, f api.Farm, want api.Image, fault api.Fault) {
	t.Helper()
	before := plain(f)
	got, g := farm.Image(f)
	if !sameImage(got, want) || g != fault {
		t.Errorf("Image(%v) is %v %v, not %v %v", f, got, g, want, fault)
	}
	if !same(f, before) {
		t.Errorf("Image changes %v: it is %v", before, f)
	}
}

func TestK1Image(t *testing.T) {
	f := begin(t, 8, 2, "a: nop", ".long a+1")
	none := api.Fault{Err: api.ErrBusy}
	image(t, f, api.Image{}, none)
	f = steps(t, f, tick, first)
	image(t, f, api.Image{}, none)
	f = steps(t, f, second) // the first object is there; one job isn't done
	image(t, f, api.Image{}, none)
	f = steps(t, f, first, first)
	want := api.Image{Base: 8, Bytes: []byte{0, 9, 0, 0, 0, 0, 0, 9}, Syms: []api.Sym{{Name: "a", At: 8}}}
	image(t, f, want, api.Fault{})
	got, _ := farm.Image(f)
	before := plain(f)
	clear(got.Bytes[:cap(got.Bytes)])
	if !same(f, before) {
		t.Errorf("%v is %v behind a change of its image", before, f)
	}
	image(t, f, want, api.Fault{})
}

func TestK1ImageOfDeadWorkersAndWhatIsStillOnTheWay(t *testing.T) {
	// Neither means anything: all jobs are done.
	f := steps(t, begin(t, 0, 1, "nop"), tick, twice, first, second, die(0))
	if len(f.Way) != 1 {
		t.Fatalf("on the way are %v", f.Way)
	}
	image(t, f, api.Image{Bytes: []byte{0, 9}}, api.Fault{})
}

// settle does ticks, and lets all come, until nothing more is to be done.
func settle(t *testing.T, f api.Farm) api.Farm {
	t.Helper()
	for range 100 {
		f = steps(t, f, tick)
		for len(f.Way) > 0 {
			f = steps(t, f, first)
		}
	}
	return f
}

func TestK1ImageHasTheFirstFault(t *testing.T) {
	for _, c := range []struct {
		l     []string
		base  int
		fault api.Fault
	}{
		{[]string{"nop\nbad"}, 0, api.Fault{Err: api.ErrKind}},
		{[]string{"nop", "nop\nnop\nmov #300,r1", "bad"}, 0, api.Fault{Err: api.ErrRange, At: 1}},
		{[]string{"nop", "", "", "bra a"}, 0, api.Fault{Err: api.ErrNone, At: 3}},
		{[]string{"nop", labels(256), "bad"}, 0, api.Fault{Err: api.ErrMuch, At: 1}},
		{[]string{"bad", labels(256)}, 0, api.Fault{Err: api.ErrKind}},
		{[]string{"a: nop", "nop", "a: nop"}, 0, api.Fault{Err: api.ErrName, At: 2}},
		{[]string{"a: nop", ".long b"}, 0, api.Fault{Err: api.ErrNone, At: 1}},
		{[]string{"a: nop", "a: .long b", "bad"}, 0, api.Fault{Err: api.ErrKind, At: 2}},
		{[]string{"nop", ".word a", "a: nop"}, 1 << 20, api.Fault{Err: api.ErrRange, At: 1}},
	} {
		for workers := 1; workers <= api.MaxWorkers; workers++ {
			image(t, settle(t, begin(t, c.base, workers, c.l...)), api.Image{}, c.fault)
		}
	}
}

func TestK1ImageIsWhatOneAloneBuilds(t *testing.T) {
	all := []string{"", "a: nop\n.long b", "b: .byte 1", ".macro m x\nmov #x,r1\n.endm\nm 5\n.word a", "mov.l =a,r1", "bad", "a: b: nop", labels(256)}
	for i, x := range all {
		for k, y := range all {
			l := []string{x, y, all[(i+k)%len(all)]}
			want, fault := farm.Build(sources(l...), 12)
			image(t, settle(t, begin(t, 12, 1+k%3, l...)), want, fault)
		}
	}
}

func TestK1TheWayHasItsEnd(t *testing.T) {
	f := steps(t, begin(t, 0, 1, "nop", "a: nop"), tick)
	for n := 2; n <= api.MaxWay; n++ {
		f = steps(t, f, twice)
		if len(f.Way) != n {
			t.Fatalf("%d messages are on the way, not %d", len(f.Way), n)
		}
	}
	// A copy is lost.
	full := f
	f = steps(t, f, twice, twice)
	if !same(f, full) {
		t.Errorf("a full way is %v behind a copy", f.Way)
	}
	// What goes leaves room for what is sent back, last.
	f = steps(t, f, first)
	object := message(t, api.Msg{Kind: api.MsgObject, Turn: 1, Data: bytes(t, "nop")})
	if len(f.Way) != api.MaxWay || !slices.Equal(f.Way[api.MaxWay-1], object) || !slices.Equal(f.Way[0], full.Way[1]) {
		t.Errorf("a full way is %v behind a message that went and came back", f.Way)
	}
	// A lease is lost, but given.
	f = steps(t, f, tick, tick, tick, tick)
	if j := f.Jobs[0]; j.Worker != 0 || j.Turn != 2 || j.Wait != 0 || len(f.Way) != api.MaxWay || !slices.Equal(f.Way[api.MaxWay-1], object) {
		t.Errorf("a lease that has no room: %v %v", f.Jobs, f.Way)
	}
}

package farm

import (
	"slices"

	"platelayer/api"
)

// Do answers what comes of a farm by a step; beside an error it is as it was.
func Do(x api.Farm, s api.Step) (api.Farm, api.Errno) {
	f := Own(x)
	err := do(&f, s)
	return f, err
}

// do is Do of a farm that may be written to.
func do(f *api.Farm, s api.Step) api.Errno {
	switch s.Kind {
	case api.StepTick:
		tick(f)
		return api.OK
	case api.StepGo:
		return one(s.N, len(f.Way), func() { come(f, take(f, s.N)) })
	case api.StepDrop:
		return one(s.N, len(f.Way), func() { take(f, s.N) })
	case api.StepTwice:
		return one(s.N, len(f.Way), func() { put(f, slices.Clone(f.Way[s.N])) })
	case api.StepDie:
		return one(s.N, len(f.Dead), func() { f.Dead[s.N] = !f.Dead[s.N] })
	}
	return api.ErrKind
}

// one does what is to be done with number n of so many: ErrNone, if there is no such.
func one(n, many int, do func()) api.Errno {
	if n < 0 || n >= many {
		return api.ErrNone
	}
	do()
	return api.OK
}

// take answers message n, which goes from the way.
func take(f *api.Farm, n int) []byte {
	b := f.Way[n]
	f.Way = slices.Delete(f.Way, n, n+1)
	return b
}

// put lays a message on the way, behind all others, if there is room.
func put(f *api.Farm, b []byte) {
	if len(f.Way) < api.MaxWay {
		f.Way = append(f.Way, b)
	}
}

// tick lets all leases wait, ahead of giving new ones: a worker whose lease is over may be the one that is free.
func tick(f *api.Farm) {
	eachOpen(f, func(_ int, j *api.Job) {
		if held(*j) {
			wait(j)
		}
	})
	eachOpen(f, func(k int, j *api.Job) {
		if !held(*j) {
			lease(f, k, j)
		}
	})
}

// eachOpen does that with job by job that is not Done, and its number.
func eachOpen(f *api.Farm, do func(k int, j *api.Job)) {
	for k := range f.Jobs {
		if j := &f.Jobs[k]; open(*j) {
			do(k, j)
		}
	}
}

// held is whether a job has a worker.
func held(j api.Job) bool { return j.Worker > nobody }

func wait(j *api.Job) {
	j.Wait++
	if j.Wait >= api.MaxWait {
		j.Worker, j.Wait = nobody, 0
	}
}

// lease gives job k to a worker, if one is free, and sends it the source.
func lease(f *api.Farm, k int, j *api.Job) {
	w := free(f, j.Turn+k)
	if w == nobody {
		return
	}
	j.Worker, j.Wait = w, 0
	j.Turn++
	send(f, api.Msg{Kind: api.MsgLease, Worker: w, Unit: k, Turn: j.Turn, Data: j.Source})
}

// free answers the first worker, from a number on, and round, that has no job which is not Done.
func free(f *api.Farm, from int) int {
	many := len(f.Dead)
	for k := range many {
		w := (from + k) % many
		if !slices.ContainsFunc(f.Jobs, func(j api.Job) bool { return open(j) && j.Worker == w }) {
			return w
		}
	}
	return nobody
}

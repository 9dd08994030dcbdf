package asm

import "platelayer/api"

// pool is values that loads ask for.
type pool struct {
	first  int // the item that the first value is, when the pool stands
	values []api.Value
	index  map[api.Value]int
}

func newPool() *pool { return &pool{index: map[api.Value]int{}} }

// ask answers what tells where a value of the next pool is.
func (u *unit) ask(v api.Value) func() (int, api.Errno) {
	p := u.pool
	i, ok := p.index[v]
	if !ok {
		i = len(p.values)
		p.index[v] = i
		p.values = append(p.values, v)
	}
	return func() (int, api.Errno) { return u.places[p.first+i], api.OK }
}

// endPool lays the pool, if something was asked for, and begins the next one.
func (u *unit) endPool() {
	p := u.pool
	if len(p.values) == 0 {
		return
	}
	u.add(noughts(word))
	p.first = len(u.items)
	for _, v := range p.values {
		u.add(u.number(word, v))
	}
	u.pool = newPool()
}

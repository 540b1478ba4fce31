package lattice

import (
	"sync"

	"ripple/api"
	"ripple/state"
)

// pool: the one state that many lists are joined into at the same time.
type pool struct {
	guard sync.Mutex
	sum   state.Map
	err   api.Errno
}

// All joins many lists, each by a goroutine (P6).
func All(lists [][]api.Atom) ([]api.Atom, api.Errno) {
	if len(lists) > api.MaxLists {
		return nil, api.ErrLarge
	}
	p := &pool{sum: state.Map{}}
	var workers sync.WaitGroup
	for _, list := range lists {
		workers.Add(1)
		go func() {
			defer workers.Done()
			p.take(list)
		}()
	}
	workers.Wait()
	return p.sum.Tell(), p.err
}

// take empties the sum for good at a list that is wrong, so that nothing is told beside the error, whichever list came first.
func (p *pool) take(list []api.Atom) {
	right := state.AllMayBe(list)
	p.guard.Lock()
	defer p.guard.Unlock()
	if !right {
		p.err = api.ErrAtom
		clear(p.sum)
	}
	if p.err == api.OK {
		p.sum.Add(list)
	}
}

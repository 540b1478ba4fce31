package ripple

import (
	"sync"
	"sync/atomic"
	"testing"
	"time"

	"ripple/api"
)

// TestCallsAreGuarded: while the guard is held no call answers; when it is free all do.
func TestCallsAreGuarded(t *testing.T) {
	x, _ := New(api.Config{Replicas: 1, Room: 1})
	calls := map[string]func(){
		"Update":  func() { x.Update(0, api.Op{}) },
		"Torn":    func() { x.Torn(0, api.Op{}, 0) },
		"Crash":   func() { x.Crash(0) },
		"Start":   func() { x.Start(0) },
		"Compact": func() { x.Compact(0) },
		"State":   func() { x.State(0) },
		"Read":    func() { x.Read(0, api.Count, "a") },
		"Buffer":  func() { x.Buffer(0) },
		"Log":     func() { x.Log(0) },
		"Replica": func() { x.Replica(0) },
		"Send":    func() { x.Send(0, 0) },
		"Deliver": func() { x.Deliver(0) },
		"Drop":    func() { x.Drop(0) },
		"Copy":    func() { x.Copy(0) },
		"Flight":  func() { x.Flight() },
		"Frame":   func() { x.Frame(0) },
	}
	for name, call := range calls {
		var answered atomic.Bool
		var caller sync.WaitGroup
		x.guard.Lock()
		caller.Add(1)
		go func() {
			defer caller.Done()
			call()
			answered.Store(true)
		}()
		time.Sleep(5 * time.Millisecond) // for one that does not wait
		early := answered.Load()
		x.guard.Unlock()
		caller.Wait()
		if early {
			t.Errorf("%s answers while the guard is held", name)
		}
	}
	if !x.guard.TryLock() {
		t.Error("the guard is still held when all have answered")
	}
}

// Package conduit: an agent that sends batches on: see DOC.md.
package conduit

import (
	"maps"
	"slices"

	"conduit/api"
)

// Agent sends batches on.
type Agent struct {
	lasting
	config  api.Config
	names   []string // of the tenants, the one that is least by bytes first
	now     int      // milliseconds since Open
	retries []retry  // of each batch in taken, at the same place
	outlets []outlet // of each destination
}

// Open makes an agent of a configuration and a log (P3, P10).
func Open(c api.Config, log string) (*Agent, error) {
	if !isConfig(c) {
		return nil, api.ErrConfig
	}
	a := newAgent(c)
	if !a.replay(log) {
		return nil, api.ErrLog
	}
	return a, nil
}

// newAgent makes an agent that has taken nothing, at the time 0.
func newAgent(c api.Config) *Agent {
	// The map stays its owner's, who may change it behind Open.
	c.Quanta = maps.Clone(c.Quanta)
	return &Agent{
		lasting: newLasting(),
		config:  c,
		names:   slices.Sorted(maps.Keys(c.Quanta)),
		outlets: newOutlets(c),
	}
}

// Submit hands a batch in (P4).
func (a *Agent) Submit(b api.Batch) error {
	if err := a.refusal(b); err != nil {
		return err
	}
	a.admit(b)
	return nil
}

// Tick lets time go by (P5).
func (a *Agent) Tick(ms int, draw int) ([]api.Send, error) {
	step := bounded{ms, 0, api.MaxTime}
	if !step.holds() || draw < 0 {
		return nil, api.ErrRange
	}
	a.now += ms
	// All that fails in one Tick is one record: a crash parts it from nothing.
	a.record(a.giveUp(draw)...)
	return a.sendOut(), nil
}

// Reply says how a send has ended (P6).
func (a *Agent) Reply(destination int, try int, good bool, draw int) error {
	switch {
	case !a.hasDestination(destination):
		return api.ErrDestination
	case draw < 0:
		return api.ErrRange
	case !a.outlets[destination].isUnderWay(try):
		return api.ErrStale
	}
	a.record(a.settle(destination, good, draw))
	return nil
}

// Status tells what has become of a batch (P9).
func (a *Agent) Status(id string) (api.Status, error) {
	place := a.place(id)
	if place == none {
		return api.Status{}, api.ErrID
	}
	return a.taken[place].Status, nil
}

// Dead tells the ids of what has failed too often (P9).
func (a *Agent) Dead() []string { return a.buried() }

// Waiting tells how many pending batches each tenant has (P9).
func (a *Agent) Waiting() map[string]int { return a.waiting() }

// Log tells the log (P10).
func (a *Agent) Log() string { return a.log }

// Compact writes the log anew (P10).
func (a *Agent) Compact() { a.rewrite() }

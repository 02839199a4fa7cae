package conduit

import (
	"slices"

	"conduit/api"
)

// lane is where a batch goes and whose it is: each lane has a queue.
type lane struct {
	destination int
	tenant      string
}

// batch is what was taken, and what has become of it.
type batch struct {
	api.Batch
	api.Status
}

// lasting is what outlives a crash, apart from what an agent begins anew.
type lasting struct {
	taken  []batch        // in the order in which they were taken
	queues map[lane][]int // places in taken of what is pending, the head first
	dead   []int          // places in taken, the one that died first first
	log    string         // records that lead to all of this, see record.go
}

func newLasting() lasting {
	return lasting{queues: make(map[lane][]int)}
}

// place tells where in taken the batch of this id lies: none, if none does.
func (l *lasting) place(id string) int {
	return slices.IndexFunc(l.taken, func(b batch) bool { return b.ID == id })
}

// head tells the place of the batch at the head of a queue, if there is one.
func (l *lasting) head(key lane) int {
	if queue := l.queues[key]; len(queue) > 0 {
		return queue[0]
	}
	return none
}

// waiting counts each tenant's pending batches, to all destinations together.
func (l *lasting) waiting() map[string]int {
	counts := make(map[string]int)
	for key, queue := range l.queues {
		// A queue that has run empty must not bring its tenant in with a 0.
		if len(queue) > 0 {
			counts[key.tenant] += len(queue)
		}
	}
	return counts
}

// record does what one call brought about, and adds it to the log.
func (l *lasting) record(events ...event) {
	for _, e := range events {
		l.play(e)
	}
	l.log += written(byCall, events)
}

// rewrite puts a short way to what lasts now in the place of the log.
func (l *lasting) rewrite() {
	l.log = written(byCompact, l.shortWay())
}

// shortWay leads from nothing to what lasts now, by two events a batch at most.
func (l *lasting) shortWay() []event {
	var way []event
	for _, b := range l.taken {
		way = append(way, event{kind: wasTaken, batch: b.Batch})
	}
	for place, b := range l.taken {
		switch {
		case b.State == api.Acked:
			way = append(way, event{kind: wasAcked, place: place, failures: b.Failed})
		case b.State == api.Pending && b.Failed > 0:
			way = append(way, event{kind: hasFailed, place: place, failures: b.Failed})
		}
	}
	// The dead come by themselves, since their order is one of its own.
	for _, place := range l.dead {
		way = append(way, event{kind: hasDied, place: place, failures: l.taken[place].Failed})
	}
	return way
}

// buried tells the ids of the dead.
func (l *lasting) buried() []string {
	ids := make([]string, len(l.dead))
	for i, place := range l.dead {
		ids[i] = l.taken[place].ID
	}
	return ids
}

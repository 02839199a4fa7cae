package conduit

import (
	"slices"

	"conduit/api"
)

// The kinds of event: all that can happen to a batch and lasts.
const (
	wasTaken = iota
	wasAcked
	hasFailed // and is pending still
	hasDied   // of having failed once more
)

// event is one thing that happened to one batch.
type event struct {
	kind  int
	batch api.Batch // of wasTaken: what was taken
	place int       // of the other kinds: where it lies in taken
}

// play does about an event what its kind asks for. Nothing else changes what
// lasts, so that events alone are enough to come to the same again.
func (l *lasting) play(e event) {
	steps := [...]func(*lasting, event){
		wasTaken:  (*lasting).take,
		wasAcked:  (*lasting).ack,
		hasFailed: (*lasting).fail,
		hasDied:   (*lasting).die,
	}
	steps[e.kind](l, e)
}

// take lays a batch at the end of its queue.
func (l *lasting) take(e event) {
	key := lane{e.batch.Destination, e.batch.Tenant}
	l.queues[key] = append(l.queues[key], len(l.taken))
	l.taken = append(l.taken, batch{e.batch, api.Status{State: api.Pending}})
}

func (l *lasting) ack(e event) {
	l.taken[e.place].State = api.Acked
	l.leave(e.place)
}

func (l *lasting) fail(e event) {
	l.taken[e.place].Failed++
}

func (l *lasting) die(e event) {
	l.fail(e)
	l.taken[e.place].State = api.Dead
	l.dead = append(l.dead, e.place)
	l.leave(e.place)
}

// leave takes a batch that has ended out of its queue.
func (l *lasting) leave(place int) {
	b := l.taken[place]
	key := lane{b.Destination, b.Tenant}
	l.queues[key] = slices.DeleteFunc(l.queues[key], func(p int) bool { return p == place })
}

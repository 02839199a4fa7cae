package conduit

import (
	"slices"
	"strings"

	"conduit/api"
)

// The kinds of event: all that can happen to a batch and lasts.
const (
	wasTaken = iota
	wasAcked
	hasFailed // and is pending still
	hasDied   // of having failed too often
)

// event is one thing that happened to one batch.
type event struct {
	kind     int
	batch    api.Batch // of wasTaken: what was taken
	place    int       // of the other kinds: where it lies in taken
	failures int       // of the other kinds: how often it has failed till then, beyond what was told before
}

// play does about an event what its kind asks for. Nothing else changes what
// lasts, so that events alone are enough to come to the same again.
func (l *lasting) play(e event) {
	steps := [...]func(*lasting, event){
		wasTaken:  (*lasting).take,
		wasAcked:  (*lasting).ack,
		hasFailed: (*lasting).fail,
		hasDied:   (*lasting).die,
	}
	steps[e.kind](l, e)
}

// take lays a batch at the end of its queue.
func (l *lasting) take(e event) {
	b := ownBatch(e.batch)
	key := lane{b.Destination, b.Tenant}
	l.queues[key] = append(l.queues[key], len(l.taken))
	l.taken = append(l.taken, batch{b, api.Status{State: api.Pending}})
}

func (l *lasting) ack(e event) {
	l.end(e, api.Acked)
}

func (l *lasting) fail(e event) {
	l.taken[e.place].Failed += e.failures
}

func (l *lasting) die(e event) {
	l.end(e, api.Dead)
	l.dead = append(l.dead, e.place)
}

// end takes a batch out of its queue.
func (l *lasting) end(e event, state int) {
	l.fail(e)
	b := &l.taken[e.place]
	b.State = state
	key := lane{b.Destination, b.Tenant}
	l.queues[key] = slices.DeleteFunc(l.queues[key], func(place int) bool { return place == e.place })
}

// ownBatch copies the texts too: each may be a small piece of a large one that
// the caller has, which would be kept whole with it.
func ownBatch(b api.Batch) api.Batch {
	b.Tenant = strings.Clone(b.Tenant)
	b.ID = strings.Clone(b.ID)
	b.Body = strings.Clone(b.Body)
	return b
}

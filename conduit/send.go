package conduit

import "conduit/api"

// giveUp ends each send that has been under way for too long, and tells what
// that makes of the batches.
func (a *Agent) giveUp(draw int) []event {
	var events []event
	for d := range a.outlets {
		o := &a.outlets[d]
		if o.isBusy() && a.now-o.began >= a.config.Timeout {
			events = append(events, a.settle(d, false, draw))
		}
	}
	return events
}

// sendOut sends what can be sent now, to each destination one at most.
func (a *Agent) sendOut() []api.Send {
	var sends []api.Send
	for d := range a.outlets {
		o := &a.outlets[d]
		if o.isBusy() || o.isOpen(a.now) {
			continue
		}
		if place := a.next(d); place != none {
			o.begin(place, a.now)
			b := a.taken[place]
			sends = append(sends, api.Send{Destination: d, Try: o.sends, ID: b.ID, Body: b.Body})
		}
	}
	return sends
}

// next names the batch that goes to a destination now (P8), by its place.
func (a *Agent) next(destination int) int {
	sizes := make([]int, len(a.names))
	quanta := make([]int, len(a.names))
	for i, name := range a.names {
		sizes[i] = a.sizeToGo(lane{destination, name})
		quanta[i] = a.config.Quanta[name]
	}
	tenant := a.outlets[destination].pick(sizes, quanta)
	if tenant == none {
		return none
	}
	return a.head(lane{destination, a.names[tenant]})
}

// sizeToGo tells the size of the batch at a queue's head: 0, if there is none
// or if it may not go by now.
func (a *Agent) sizeToGo(key lane) int {
	place := a.head(key)
	if place == none || a.now < a.retries[place].from {
		return 0
	}
	return len(a.taken[place].Body) + 1
}

// settle ends the send that is under way to a destination (P6), and tells what
// that makes of its batch.
func (a *Agent) settle(destination int, good bool, draw int) event {
	o := &a.outlets[destination]
	place := o.finish()
	o.hear(good, a.config, a.now)
	if good {
		return event{kind: wasAcked, place: place}
	}
	return a.lose(place, draw)
}

// lose tells what one failure more makes of a batch: it waits, or dies.
func (a *Agent) lose(place, draw int) event {
	if a.taken[place].Failed+1 >= a.config.Attempts {
		return event{kind: hasDied, place: place, failures: 1}
	}
	pause := nextPause(a.retries[place].pause, draw, a.config)
	a.retries[place] = retry{from: a.now + pause, pause: pause}
	return event{kind: hasFailed, place: place, failures: 1}
}

// nextPause draws the pause behind a failure from the one before it.
func nextPause(pause, draw int, c api.Config) int {
	return min(c.Cap, c.Base+draw%(3*pause-c.Base+1))
}

package conduit

import "conduit/api"

// retry is when a pending batch may go again. It does not last: behind Open
// each of them begins anew.
type retry struct {
	from  int // the time from which on it may go
	pause int
}

// refusal is why a batch is not taken, or nil.
func (a *Agent) refusal(b api.Batch) error {
	if err := a.misfit(b); err != nil {
		return err
	}
	if a.waiting()[b.Tenant] >= a.config.Quota {
		return api.ErrQuota
	}
	return nil
}

// misfit is why a batch could not be taken even by an agent with nothing
// pending, or nil. The cases stand in the order of the document, since the
// first one that holds is the answer.
func (a *Agent) misfit(b api.Batch) error {
	_, known := a.config.Quanta[b.Tenant]
	length := bounded{len(b.ID), 1, api.MaxName}
	switch {
	case !a.hasDestination(b.Destination):
		return api.ErrDestination
	case !known:
		return api.ErrTenant
	case !length.holds():
		return api.ErrID
	case len(b.Body) > api.MaxBody:
		return api.ErrLong
	case a.place(b.ID) != none:
		return api.ErrTwice
	case len(a.taken) >= api.MaxIDs:
		return api.ErrFull
	}
	return nil
}

func (a *Agent) hasDestination(destination int) bool {
	return 0 <= destination && destination < a.config.Destinations
}

// admit takes a batch that nothing speaks against.
func (a *Agent) admit(b api.Batch) {
	a.record(event{kind: wasTaken, batch: b})
	a.retries = append(a.retries, retry{from: a.now, pause: a.config.Base})
}

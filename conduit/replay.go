package conduit

import (
	"slices"
	"strings"

	"conduit/api"
)

// replay does on a new agent what a log tells (P10), and says whether it is
// one. What a call wrote last may have been cut: then it is left out. What
// Compact wrote must be there whole, or all that was taken would be forgotten.
func (a *Agent) replay(log string) bool {
	whole := 0 // how much of the log is done
	for r := (reader{rest: log}); r.rest != ""; whole = len(log) - len(r.rest) {
		by, told := r.record()
		if r.short && by == byCall {
			break
		}
		if !mayStand(by, whole) || !a.redo(told) {
			return false
		}
	}
	a.log = strings.Clone(log[:whole])
	a.retries = slices.Repeat([]retry{{pause: a.config.Base}}, len(a.taken))
	return true
}

// mayStand says whether such a record may stand behind so many bytes.
func mayStand(by, ahead int) bool {
	return by == byCall || by == byCompact && ahead == 0
}

// redo does what one record tells, and says whether it can be under this
// configuration. A record tells something: one that was cut comes as nothing.
func (a *Agent) redo(told string) bool {
	for r := (reader{rest: told}); r.rest != ""; {
		e := r.event()
		if r.short || !a.canBe(e) {
			return false
		}
		a.play(e)
	}
	// Not ahead of the end: what Compact wrote takes all batches first.
	return told != "" && a.keepsQuota()
}

// canBe says whether an event can come next.
func (a *Agent) canBe(e event) bool {
	if e.kind == wasTaken {
		return a.misfit(e.batch) == nil
	}
	if e.place >= len(a.taken) || a.taken[e.place].State != api.Pending {
		return false
	}
	failed := a.taken[e.place].Failed + e.failures
	switch e.kind {
	case wasAcked:
		return failed < a.config.Attempts
	case hasFailed:
		return failed < a.config.Attempts && e.failures > 0
	case hasDied:
		return failed == a.config.Attempts
	}
	return false
}

func (a *Agent) keepsQuota() bool {
	for _, pending := range a.waiting() {
		if pending > a.config.Quota {
			return false
		}
	}
	return true
}

package conduit

import "conduit/api"

// breaker watches the results of the sends to one destination (P7).
type breaker struct {
	// tooMany says whether failures that are such a part of the results are
	// too many.
	tooMany  func(quotient float64) bool
	results  int
	failures int
	tripped  bool // open or, from the time until on, half open
	until    int
}

func newBreaker(c api.Config) breaker {
	threshold := c.Threshold
	return breaker{tooMany: func(quotient float64) bool { return quotient >= threshold }}
}

func (b *breaker) isOpen(now int) bool {
	return b.tripped && now < b.until
}

// hear takes a result in. None comes while the breaker is open, since nothing
// is sent then: one that is tripped is half open here.
func (b *breaker) hear(good bool, c api.Config, now int) {
	switch {
	case !b.tripped:
		b.count(good, c, now)
	case good:
		b.tripped = false
	default:
		b.trip(now + c.Open)
	}
}

// count takes a result of a closed breaker in.
func (b *breaker) count(good bool, c api.Config, now int) {
	b.results++
	if !good {
		b.failures++
	}
	switch {
	case b.results >= c.Least && b.tooMany(float64(b.failures)/float64(b.results)):
		b.trip(now + c.Open)
	case b.results == c.Window:
		b.forget()
	}
}

func (b *breaker) trip(until int) {
	b.tripped, b.until = true, until
	b.forget()
}

func (b *breaker) forget() {
	b.results, b.failures = 0, 0
}

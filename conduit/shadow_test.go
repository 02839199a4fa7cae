package conduit_test

import (
	"maps"
	"math/rand"
	"slices"
	"strconv"
	"strings"
	"testing"

	"conduit/api"
	"conduit/conduit"
)

// shadow is what the document says of an agent, written down another way: it
// has no queues and no numbers that could be counted anew, and looks through
// all that ever happened.
type shadow struct {
	config api.Config
	now    int
	taken  []*shade
	dead   []string
	ends   []*end
}

// shade is a batch in the shadow.
type shade struct {
	api.Batch
	state, failed, from, pause int
}

// end is a destination in the shadow. Its breaker is "closed" or "tripped".
type end struct {
	sends   int
	sending *shade
	began   int
	breaker string
	until   int
	results []bool
	turn    string
	credit  map[string]int
}

func newShadow(c api.Config) *shadow {
	c.Quanta = maps.Clone(c.Quanta)
	s := &shadow{config: c}
	for range c.Destinations {
		s.ends = append(s.ends, &end{breaker: "closed", turn: s.names()[0], credit: make(map[string]int)})
	}
	return s
}

func (s *shadow) names() []string {
	var names []string
	for name := range s.config.Quanta {
		names = append(names, name)
	}
	slices.SortFunc(names, strings.Compare)
	return names
}

func (s *shadow) submit(b api.Batch) error {
	twice := slices.ContainsFunc(s.taken, func(other *shade) bool { return other.ID == b.ID })
	for _, row := range []struct {
		holds bool
		err   error
	}{
		{b.Destination < 0 || b.Destination >= s.config.Destinations, api.ErrDestination},
		{s.config.Quanta[b.Tenant] == 0, api.ErrTenant},
		{b.ID == "" || len(b.ID) > 16, api.ErrID},
		{len(b.Body) > 63, api.ErrLong},
		{twice, api.ErrTwice},
		{len(s.taken) == 120, api.ErrFull},
		{s.waiting()[b.Tenant] == s.config.Quota, api.ErrQuota},
	} {
		if row.holds {
			return row.err
		}
	}
	s.taken = append(s.taken, &shade{b, api.Pending, 0, 0, s.config.Base})
	return nil
}

func (s *shadow) waiting() map[string]int {
	counts := make(map[string]int)
	for _, b := range s.taken {
		if b.state == api.Pending {
			counts[b.Tenant]++
		}
	}
	return counts
}

func (s *shadow) tick(ms, draw int) ([]api.Send, error) {
	if ms < 0 || ms > 60000 || draw < 0 {
		return nil, api.ErrRange
	}
	s.now += ms
	for _, e := range s.ends {
		if e.sending != nil && e.began+s.config.Timeout <= s.now {
			s.over(e, false, draw)
		}
	}
	var sends []api.Send
	for d, e := range s.ends {
		if e.sending != nil || e.breaker == "tripped" && s.now < e.until {
			continue
		}
		if b := s.named(d); b != nil {
			e.sends++
			e.sending, e.began = b, s.now
			sends = append(sends, api.Send{Destination: d, Try: e.sends, ID: b.ID, Body: b.Body})
		}
	}
	return sends, nil
}

func (s *shadow) reply(d, try int, good bool, draw int) error {
	if d < 0 || d >= len(s.ends) {
		return api.ErrDestination
	}
	if draw < 0 {
		return api.ErrRange
	}
	if s.ends[d].sending == nil || s.ends[d].sends != try {
		return api.ErrStale
	}
	s.over(s.ends[d], good, draw)
	return nil
}

func (s *shadow) over(e *end, good bool, draw int) {
	b := e.sending
	e.sending = nil
	if good {
		b.state = api.Acked
	} else if b.failed++; b.failed == s.config.Attempts {
		b.state = api.Dead
		s.dead = append(s.dead, b.ID)
	} else {
		b.pause = s.config.Base + draw%(3*b.pause-s.config.Base+1)
		if b.pause > s.config.Cap {
			b.pause = s.config.Cap
		}
		b.from = s.now + b.pause
	}
	s.result(e, good)
}

func (s *shadow) result(e *end, good bool) {
	if e.breaker == "tripped" && good {
		e.breaker = "closed"
		return
	}
	if e.breaker == "tripped" {
		e.until = s.now + s.config.Open
		return
	}
	e.results = append(e.results, good)
	failures := 0
	for _, r := range e.results {
		if !r {
			failures++
		}
	}
	if len(e.results) >= s.config.Least && !(float64(failures)/float64(len(e.results)) < s.config.Threshold) {
		e.breaker, e.until, e.results = "tripped", s.now+s.config.Open, nil
	}
	if len(e.results) == s.config.Window {
		e.results = nil
	}
}

// goer is the batch at the head of a queue, if it may go by now.
func (s *shadow) goer(d int, tenant string) *shade {
	for _, b := range s.taken {
		if b.Destination == d && b.Tenant == tenant && b.state == api.Pending {
			if b.from <= s.now {
				return b
			}
			return nil
		}
	}
	return nil
}

func (s *shadow) named(d int) *shade {
	names := s.names()
	if !slices.ContainsFunc(names, func(name string) bool { return s.goer(d, name) != nil }) {
		return nil
	}
	e := s.ends[d]
	for {
		b := s.goer(d, e.turn)
		if b != nil && e.credit[e.turn] >= len(b.Body)+1 {
			e.credit[e.turn] -= len(b.Body) + 1
			return b
		}
		if b == nil {
			e.credit[e.turn] = 0
		}
		at := slices.Index(names, e.turn)
		e.turn = append(names[at+1:], names...)[0]
		e.credit[e.turn] += s.config.Quanta[e.turn]
	}
}

// anyConfig draws one with times so short that all of it comes to bear.
func anyConfig(r *rand.Rand) api.Config {
	c := api.Config{
		Destinations: 1 + r.Intn(4),
		Quanta:       make(map[string]int),
		Quota:        1 + r.Intn(40),
		Attempts:     1 + r.Intn(5),
		Base:         1 + r.Intn(10),
		Timeout:      1 + r.Intn(30),
		Window:       1 + r.Intn(6),
		Open:         1 + r.Intn(30),
		Threshold:    []float64{1, 0.75, 2.0 / 3, 0.5, 1.0 / 3, 0.1}[r.Intn(6)],
	}
	c.Cap = c.Base + r.Intn(40)
	c.Least = 1 + r.Intn(c.Window)
	for name := range tenants(1 + r.Intn(4)) {
		c.Quanta[name] = 64 + r.Intn([]int{1, 20, 937}[r.Intn(3)])
	}
	return c
}

// anyDraw is mostly right.
func anyDraw(r *rand.Rand) int {
	if r.Intn(10) == 0 {
		return anyNumber(r)
	}
	return r.Intn(200)
}

func TestAgentsAgainstTheShadow(t *testing.T) {
	for seed := range 400 {
		r := rand.New(rand.NewSource(int64(seed)))
		c := anyConfig(r)
		a, s := agentOf(t, c), newShadow(c)
		for range 400 {
			stepBoth(t, r, a, s)
			if t.Failed() {
				t.Fatalf("seed %d: %+v", seed, c)
			}
		}
		expectAsShadow(t, a, s)
	}
}

func stepBoth(t *testing.T, r *rand.Rand, a *conduit.Agent, s *shadow) {
	t.Helper()
	switch r.Intn(8) {
	case 0, 1:
		b := anyBatch(r)
		expectSubmit(t, a, b, s.submit(b))
	case 2, 3, 4:
		ms, draw := r.Intn(15), anyDraw(r)
		if r.Intn(20) == 0 {
			ms = anyNumber(r)
		}
		got, err := a.Tick(ms, draw)
		if want, wantErr := s.tick(ms, draw); !slices.Equal(got, want) || err != wantErr {
			t.Errorf("P5: Tick(%d, %d) = %v, %v; want %v, %v", ms, draw, got, err, want, wantErr)
		}
	default:
		d, good, draw := r.Intn(len(s.ends)), r.Intn(3) > 0, anyDraw(r)
		try := s.ends[d].sends
		if r.Intn(10) == 0 {
			d, try = d+r.Intn(3)-1, try+r.Intn(3)-1
		}
		expectReply(t, a, d, try, good, draw, s.reply(d, try, good, draw))
	}
	expectWaiting(t, a, s.waiting())
}

func expectAsShadow(t *testing.T, a *conduit.Agent, s *shadow) {
	t.Helper()
	expectDead(t, a, s.dead...)
	for _, b := range s.taken {
		expectStatus(t, a, b.ID, api.Status{State: b.state, Failed: b.failed})
	}
}

// The shadow's runs are worth something only if all that can happen does
// happen in them.
func TestRunsReachEverything(t *testing.T) {
	seen := make(map[string]int)
	for seed := range 100 {
		r := rand.New(rand.NewSource(int64(seed)))
		c := anyConfig(r)
		a, s := agentOf(t, c), newShadow(c)
		for range 400 {
			stepBoth(t, r, a, s)
			for _, e := range s.ends {
				seen[e.breaker]++
			}
		}
		for _, b := range s.taken {
			seen["state "+strconv.Itoa(b.state)]++
			if b.state == api.Acked && b.failed > 0 {
				seen["acked behind a failure"]++
			}
		}
	}
	for _, what := range []string{"closed", "tripped", "state 1", "state 2", "state 3", "acked behind a failure"} {
		if seen[what] < 50 {
			t.Errorf("only %d times: %s", seen[what], what)
		}
	}
}

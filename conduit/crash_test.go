package conduit_test

import (
	"math/rand"
	"slices"
	"strconv"
	"testing"

	"conduit/api"
	"conduit/conduit"
)

// reopened is what an agent must be that is opened of the log of s.
func (s *shadow) reopened() *shadow {
	next := newShadow(s.config)
	for _, b := range s.taken {
		next.taken = append(next.taken, &shade{b.Batch, b.state, b.failed, 0, s.config.Base})
	}
	next.dead = slices.Clone(s.dead)
	return next
}

// moment is what a log was, and what stood in it then.
type moment struct {
	log string
	s   *shadow
}

// past is the moments of a log, from what Compact wrote last on.
type past []moment

func (p *past) note(a *conduit.Agent, s *shadow) {
	if log := a.Log(); len(*p) == 0 || log != (*p)[len(*p)-1].log {
		*p = append(*p, moment{log, s.reopened()})
	}
}

// within is the last moment whose log lies within n bytes.
func (p past) within(n int) moment {
	last := p[0]
	for _, m := range p {
		if len(m.log) <= n {
			last = m
		}
	}
	return last
}

func expectMoment(t *testing.T, a *conduit.Agent, m moment) {
	t.Helper()
	expectLog(t, a, m.log)
	expectAsShadow(t, a, m.s)
	expectWaiting(t, a, m.s.waiting())
}

// live calls both n times, and notes the moments.
func live(t *testing.T, r *rand.Rand, a *conduit.Agent, s *shadow, n int) past {
	t.Helper()
	var p past
	p.note(a, s)
	for range n {
		stepBoth(t, r, a, s)
		p.note(a, s)
	}
	return p
}

// Each agent that is opened of a cut log goes on as the shadow of the moment
// does, and its log goes on, too.
func TestEachCutOfALog(t *testing.T) {
	for seed := range 12 {
		r := rand.New(rand.NewSource(int64(seed)))
		c := anyConfig(r)
		a, s := agentOf(t, c), newShadow(c)
		if seed%3 > 0 {
			live(t, r, a, s, 100)
			a.Compact()
		}
		p := live(t, r, a, s, 150)
		log := a.Log()
		for n := len(p[0].log); n <= len(log); n++ {
			m := p.within(n)
			b := reopen(t, c, log[:n])
			expectMoment(t, b, m)
			for _, late := range s.taken[len(m.s.taken):] {
				expectNoStatus(t, b, late.ID)
			}
			again := m.s.reopened()
			live(t, r, b, again, 20)
			expectMoment(t, reopen(t, c, b.Log()), moment{b.Log(), again})
			if t.Failed() {
				t.Fatalf("seed %d, %d bytes of %d", seed, n, len(log))
			}
		}
	}
}

// What one call adds must make just one more moment of a log: a cut one byte
// ahead of its end leaves nothing of it.
func TestEachMomentOfALog(t *testing.T) {
	for seed := range 60 {
		r := rand.New(rand.NewSource(int64(seed)))
		c := anyConfig(r)
		a, s := agentOf(t, c), newShadow(c)
		p := live(t, r, a, s, 300)
		for i, m := range p[1:] {
			expectMoment(t, reopen(t, c, m.log), m)
			expectMoment(t, reopen(t, c, m.log[:len(m.log)-1]), p[i])
			if t.Failed() {
				t.Fatalf("seed %d, moment %d", seed, i)
			}
		}
	}
}

// The order in which batches were taken is that in which they go.
func TestOrderOfWhatWasTakenLasts(t *testing.T) {
	c := of(map[string]int{"a": 1000, "b": 1000})
	ids := []string{"9", "b", "1", "a", "10", "0"}
	a := agentOf(t, c)
	for _, id := range ids {
		hand(t, a, 0, "b", id, 1)
	}
	expectTick(t, a, 0, 0, send(0, 1, "9"))
	expectReply(t, a, 0, 1, true, 0, nil)
	for range 2 {
		b := reopen(t, c, a.Log())
		hand(t, b, 0, "b", "last", 1)
		expectSent(t, reopen(t, c, b.Log()), "b 1 a 10 0 last")
		a.Compact()
	}
}

// deadInOrder lets batches die in another order than they were taken in.
func deadInOrder(t *testing.T, c api.Config, order []int) *conduit.Agent {
	t.Helper()
	a := agentOf(t, c)
	for d := range order {
		hand(t, a, d, "a", strconv.Itoa(d), 1)
	}
	for try := 1; try <= c.Attempts; try++ {
		a.Tick(60000-1, 0)
		for _, d := range order {
			expectReply(t, a, d, try, false, 0, nil)
		}
	}
	return a
}

func TestOrderOfTheDeadLasts(t *testing.T) {
	c := patient()
	c.Attempts = 3
	for _, order := range [][]int{{0, 1, 2, 3}, {3, 2, 1, 0}, {2, 0, 3, 1}, {1, 3, 0, 2}} {
		a := deadInOrder(t, c, order)
		var want []string
		for _, d := range order {
			want = append(want, strconv.Itoa(d))
		}
		for range 2 {
			b := reopen(t, c, a.Log())
			expectDead(t, b, want...)
			expectWaiting(t, b, nil)
			hand(t, b, 0, "b", "late", 1)
			for try := 1; try <= 3; try++ {
				expectTick(t, b, 10, 0, send(0, try, "late"))
				expectReply(t, b, 0, try, false, 0, nil)
			}
			expectDead(t, reopen(t, c, b.Log()), append(slices.Clone(want), "late")...)
			a.Compact()
		}
	}
}

// A batch fails Attempts times in all, however many agents it goes through.
func TestFailuresAddUpBehindCrashes(t *testing.T) {
	for _, attempts := range []int{1, 2, 9, 10} {
		c := patient()
		c.Attempts = attempts
		a := agentOf(t, c)
		hand(t, a, 0, "a", "1", 1)
		for n := 1; n <= attempts; n++ {
			expectStatus(t, a, "1", pending(n-1))
			a = reopen(t, c, a.Log())
			if n%2 == 0 {
				a.Compact()
			}
			expectTick(t, a, 0, 0, send(0, 1, "1"))
			expectReply(t, a, 0, 1, false, 0, nil)
		}
		a = reopen(t, c, a.Log())
		expectStatus(t, a, "1", died(attempts))
		expectDead(t, a, "1")
		expectTick(t, a, 60000, 0)
	}
}

// A send that is under way at a crash has not failed: it is forgotten, and its
// batch is pending.
func TestSendUnderWayAtACrashIsNoFailure(t *testing.T) {
	a := agentOf(t, example())
	hand(t, a, 0, "a", "1", 1)
	for range 20 {
		expectTick(t, a, 0, 0, send(0, 1, "1"))
		a = reopen(t, example(), a.Log())
		expectStatus(t, a, "1", fresh())
		expectReply(t, a, 0, 1, false, 0, api.ErrStale)
	}
}

// The quota and the ids that are gone are those of before the crash.
func TestBoundsHoldBehindCrashes(t *testing.T) {
	c := roomy()
	c.Quota = 60
	a := agentOf(t, c)
	fill(t, a, "a", 0, 59)
	a = reopen(t, c, a.Log())
	fill(t, a, "a", 59, 1)
	for range 2 {
		a = reopen(t, c, a.Log())
		expectSubmit(t, a, api.Batch{Tenant: "a", ID: "new"}, api.ErrQuota)
		expectSubmit(t, a, api.Batch{Tenant: "b", ID: "7"}, api.ErrTwice)
		a.Compact()
	}
	fill(t, a, "b", 60, 60)
	for range 2 {
		a = reopen(t, c, a.Log())
		expectSubmit(t, a, api.Batch{Tenant: "b", ID: "new"}, api.ErrFull)
		expectSubmit(t, a, api.Batch{Tenant: "b", ID: "119"}, api.ErrTwice)
		expectWaiting(t, a, map[string]int{"a": 60, "b": 60})
		a.Compact()
	}
}

// Random calls with crashes between, each of which may cut the log, too.
func TestCrashesAgainstTheShadow(t *testing.T) {
	for seed := range 150 {
		r := rand.New(rand.NewSource(int64(seed)))
		c := anyConfig(r)
		a, s := agentOf(t, c), newShadow(c)
		for range 12 {
			if r.Intn(3) == 0 {
				a.Compact()
			}
			p := live(t, r, a, s, r.Intn(60))
			log := a.Log()
			n := len(log)
			if r.Intn(2) == 0 {
				n = max(len(p[0].log), n-r.Intn(200))
			}
			m := p.within(n)
			a, s = reopen(t, c, log[:n]), m.s
			expectMoment(t, a, m)
			if t.Failed() {
				t.Fatalf("seed %d: %+v", seed, c)
			}
		}
	}
}

// witness has seen what an agent answered, and knows what must hold then (P11).
type witness struct {
	config api.Config
	seen   map[string]api.Status
	now    int
	last   map[string]int // when this agent sent it
}

func (w *witness) looks(t *testing.T, a *conduit.Agent) {
	t.Helper()
	for id, before := range w.seen {
		now, err := a.Status(id)
		ended := before.State != api.Pending
		if err != nil || ended && now != before || now.Failed < before.Failed || now.Failed > w.config.Attempts {
			t.Fatalf("P11: %q was %+v, and is %+v, %v, with Attempts %d", id, before, now, err, w.config.Attempts)
		}
		if (now.State == api.Dead) != (now.Failed == w.config.Attempts) {
			t.Fatalf("P11: %q is %+v, with Attempts %d", id, now, w.config.Attempts)
		}
		w.seen[id] = now
	}
}

func (w *witness) hears(t *testing.T, s api.Send) {
	t.Helper()
	if w.seen[s.ID].State != api.Pending {
		t.Fatalf("P11: %q is sent, which is %+v", s.ID, w.seen[s.ID])
	}
	if before, again := w.last[s.ID]; again && w.now-before < w.config.Base {
		t.Fatalf("P11: %q is sent at %d, and was at %d, with Base %d", s.ID, w.now, before, w.config.Base)
	}
	w.last[s.ID] = w.now
}

func TestNothingIsForgottenWhateverCrashesCome(t *testing.T) {
	for seed := range 100 {
		r := rand.New(rand.NewSource(int64(seed)))
		c := anyConfig(r)
		a := agentOf(t, c)
		w := &witness{config: c, seen: make(map[string]api.Status), last: make(map[string]int)}
		for i := range 400 {
			b := api.Batch{Destination: r.Intn(c.Destinations), Tenant: "a", ID: strconv.Itoa(i), Body: rough(r, r.Intn(64))}
			if r.Intn(2) == 0 && a.Submit(b) == nil {
				w.seen[b.ID] = fresh()
			}
			if r.Intn(10) == 0 {
				a.Compact()
			}
			if r.Intn(10) == 0 {
				a = reopen(t, c, a.Log())
				w.now = 0
				clear(w.last)
			}
			w.steps(t, r, a)
		}
		w.drains(t, a)
	}
}

func (w *witness) steps(t *testing.T, r *rand.Rand, a *conduit.Agent) {
	t.Helper()
	ms := r.Intn(10)
	w.now += ms
	sends, err := a.Tick(ms, r.Intn(1000))
	if err != nil {
		t.Fatalf("P5: Tick(%d, ..) = %v", ms, err)
	}
	w.looks(t, a)
	for _, s := range sends {
		w.hears(t, s)
		if r.Intn(3) > 0 {
			expectReply(t, a, s.Destination, s.Try, r.Intn(2) == 0, r.Intn(1000), nil)
		}
	}
	w.looks(t, a)
}

// drains lets all that is pending end well.
func (w *witness) drains(t *testing.T, a *conduit.Agent) {
	t.Helper()
	for n := 0; len(a.Waiting()) > 0; n++ {
		sends, _ := a.Tick(60000, 0)
		for _, s := range sends {
			expectReply(t, a, s.Destination, s.Try, true, 0, nil)
		}
		if n > 1000 {
			t.Fatalf("P11: %v are never sent", a.Waiting())
		}
	}
	w.looks(t, a)
	for id, status := range w.seen {
		if status.State == api.Pending {
			t.Errorf("P11: %q is pending, and not waiting", id)
		}
	}
}

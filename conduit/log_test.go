package conduit_test

import (
	"math"
	"math/rand"
	"strconv"
	"strings"
	"testing"

	"conduit/api"
	"conduit/conduit"
)

// reopen opens a log that must be one.
func reopen(t *testing.T, c api.Config, log string) *conduit.Agent {
	t.Helper()
	a, err := conduit.Open(c, log)
	if a == nil || err != nil {
		t.Fatalf("P10: Open of a log of %d bytes = agent %t, %v; want an agent, nil", len(log), a != nil, err)
	}
	return a
}

func expectLog(t *testing.T, a *conduit.Agent, want string) {
	t.Helper()
	if got := a.Log(); got != want {
		t.Fatalf("P10: Log() = %q; want %q", got, want)
	}
}

// adding says whether a call leaves the log as it was ahead of what it adds.
func adding(t *testing.T, a *conduit.Agent, call func()) bool {
	t.Helper()
	was := a.Log()
	call()
	is := a.Log()
	if !strings.HasPrefix(is, was) {
		t.Errorf("P10: the log %q became %q", was, is)
	}
	return len(is) > len(was)
}

func expectAdds(t *testing.T, a *conduit.Agent, what string, call func()) {
	t.Helper()
	if !adding(t, a, call) {
		t.Errorf("P10: %s: the log stays as it was", what)
	}
}

func expectAddsNothing(t *testing.T, a *conduit.Agent, what string, call func()) {
	t.Helper()
	if adding(t, a, call) {
		t.Errorf("P10: %s: the log is longer", what)
	}
}

// behindTheExamples is the agent of the document's examples 1 to 4.
func behindTheExamples(t *testing.T) *conduit.Agent {
	t.Helper()
	a := agentOf(t, example())
	hand(t, a, 0, "a", "1", 10)
	hand(t, a, 0, "a", "2", 10)
	hand(t, a, 0, "b", "3", 10)
	expectTick(t, a, 0, 0, send(0, 1, "3"))
	expectTick(t, a, 49, 0)
	expectTick(t, a, 1, 0, send(0, 2, "1"))
	expectReply(t, a, 0, 2, true, 0, nil)
	expectTick(t, a, 10, 0, send(0, 3, "2"))
	expectReply(t, a, 0, 3, false, 25, nil)
	expectTick(t, a, 0, 0, send(0, 4, "3"))
	expectReply(t, a, 0, 4, false, 0, nil)
	expectTick(t, a, 199, 0)
	expectTick(t, a, 1, 0, send(0, 5, "2"))
	return a
}

func TestExampleOfTheLog(t *testing.T) {
	a := behindTheExamples(t)
	for _, step := range []func(){func() {}, a.Compact, a.Compact} {
		step()
		b := reopen(t, example(), a.Log())
		expectLog(t, b, a.Log())
		expectStatus(t, b, "1", acked(0))
		expectStatus(t, b, "2", pending(1))
		expectStatus(t, b, "3", died(2))
		expectDead(t, b, "3")
		expectWaiting(t, b, map[string]int{"a": 1})
		expectTick(t, b, 0, 0, send(0, 1, "2"))
	}
	// The agent itself goes on as if nobody had asked for its log.
	expectReply(t, a, 0, 5, false, 0, nil)
	expectDead(t, a, "3", "2")
}

func TestLogsOfNewAgents(t *testing.T) {
	a := agentOf(t, example())
	expectLog(t, agentOf(t, roomy()), a.Log())
	b := reopen(t, example(), a.Log())
	expectLog(t, b, a.Log())
	expectWaiting(t, b, nil)
	expectDead(t, b)
	b.Compact()
	if len(b.Log()) > 16 {
		t.Errorf("P10: the log of nothing has %d bytes", len(b.Log()))
	}
	b = reopen(t, example(), b.Log())
	expectWaiting(t, b, nil)
	expectDead(t, b)
}

func TestWhatChangesABatchAddsToTheLog(t *testing.T) {
	a := agentOf(t, patient())
	expectAdds(t, a, "Submit", func() { hand(t, a, 0, "a", "1", 1) })
	expectAdds(t, a, "Submit of a long one", func() { hand(t, a, 0, "b", strings.Repeat("i", 16), 64) })
	expectAdds(t, a, "Submit to another destination", func() { hand(t, a, 3, "a", "2", 1) })
	expectAddsNothing(t, a, "Tick with sends", func() { expectTick(t, a, 0, 0, send(0, 1, strings.Repeat("i", 16)), send(3, 1, "2")) })
	expectAdds(t, a, "a good Reply", func() { expectReply(t, a, 0, 1, true, 0, nil) })
	expectAdds(t, a, "a bad Reply", func() { expectReply(t, a, 3, 1, false, 0, nil) })
	expectAddsNothing(t, a, "Tick with a send", func() { expectTick(t, a, 0, 0, send(0, 2, "1")) })
	expectAddsNothing(t, a, "Tick ahead of a timeout", func() { expectTick(t, a, 9, 0) })
	expectAddsNothing(t, a, "Tick with another send", func() { expectTick(t, a, 40, 0, send(3, 2, "2")) })
	expectAdds(t, a, "Tick with a timeout", func() { expectTick(t, a, 1, 0) })
	expectAdds(t, a, "Tick with a timeout and a send", func() { expectTick(t, a, 49, 0, send(0, 3, "1")) })
	expectAddsNothing(t, a, "Tick with a third send", func() { expectTick(t, a, 10, 0, send(3, 3, "2")) })
	expectAdds(t, a, "a good Reply behind failures", func() { expectReply(t, a, 3, 3, true, 0, nil) })
	for n := range 8 {
		expectAdds(t, a, "a bad Reply again", func() { expectReply(t, a, 0, 3+n, false, 0, nil) })
		expectAddsNothing(t, a, "Tick with a send again", func() { expectTick(t, a, 40, 0, send(0, 4+n, "1")) })
	}
	expectStatus(t, a, "1", pending(9))
	expectAdds(t, a, "the last bad Reply", func() { expectReply(t, a, 0, 11, false, 0, nil) })
	expectStatus(t, a, "1", died(10))
}

func TestAllElseAddsNothing(t *testing.T) {
	c := roomy()
	c.Quota = 2
	full := agentOf(t, roomy())
	fill(t, full, "a", 0, 120)
	a := agentOf(t, c)
	fill(t, a, "a", 0, 2)
	expectTick(t, a, 0, 0, send(0, 1, "0"))
	for _, row := range []struct {
		what string
		a    *conduit.Agent
		call func(a *conduit.Agent) error
		want error
	}{
		{"ErrDestination", a, submitting(api.Batch{Destination: 4, Tenant: "b", ID: "new"}), api.ErrDestination},
		{"ErrTenant", a, submitting(api.Batch{Tenant: "z", ID: "new"}), api.ErrTenant},
		{"ErrID", a, submitting(api.Batch{Tenant: "b"}), api.ErrID},
		{"ErrLong", a, submitting(api.Batch{Tenant: "b", ID: "new", Body: strings.Repeat("x", 64)}), api.ErrLong},
		{"ErrTwice", a, submitting(api.Batch{Tenant: "b", ID: "1"}), api.ErrTwice},
		{"ErrFull", full, submitting(api.Batch{Tenant: "b", ID: "new"}), api.ErrFull},
		{"ErrQuota", a, submitting(api.Batch{Tenant: "a", ID: "new"}), api.ErrQuota},
		{"Tick, ms", a, func(a *conduit.Agent) error { _, err := a.Tick(60001, 0); return err }, api.ErrRange},
		{"Tick, draw", a, func(a *conduit.Agent) error { _, err := a.Tick(60000, -1); return err }, api.ErrRange},
		{"Reply, destination", a, func(a *conduit.Agent) error { return a.Reply(4, 1, true, 0) }, api.ErrDestination},
		{"Reply, draw", a, func(a *conduit.Agent) error { return a.Reply(0, 1, true, -1) }, api.ErrRange},
		{"Reply, try", a, func(a *conduit.Agent) error { return a.Reply(0, 2, false, 0) }, api.ErrStale},
		{"Reply, none", a, func(a *conduit.Agent) error { return a.Reply(1, 0, true, 0) }, api.ErrStale},
		{"Status", a, func(a *conduit.Agent) error { _, err := a.Status("1"); return err }, nil},
		{"Status of none", a, func(a *conduit.Agent) error { _, err := a.Status("new"); return err }, api.ErrID},
		{"Dead", a, func(a *conduit.Agent) error { a.Dead(); return nil }, nil},
		{"Waiting", a, func(a *conduit.Agent) error { a.Waiting(); return nil }, nil},
		{"Log", a, func(a *conduit.Agent) error { a.Log(); return nil }, nil},
		{"Tick with nothing to do", a, func(a *conduit.Agent) error { _, err := a.Tick(0, math.MaxInt); return err }, nil},
	} {
		expectAddsNothing(t, row.a, row.what, func() {
			if err := row.call(row.a); err != row.want {
				t.Errorf("P1: %s: %v; want %v", row.what, err, row.want)
			}
		})
	}
}

func submitting(b api.Batch) func(*conduit.Agent) error {
	return func(a *conduit.Agent) error { return a.Submit(b) }
}

// What an opened agent does not have of its log is as at first.
func TestOpenedAgentIsAsNew(t *testing.T) {
	c := roomy()
	c.Destinations, c.Attempts, c.Least, c.Threshold = 1, 9, 2, 0.5
	a := agentOf(t, c)
	expectTick(t, a, 60000, 0)
	hand(t, a, 0, "a", "1", 50)
	hand(t, a, 0, "a", "2", 50)
	expectTick(t, a, 0, 0, send(0, 1, "1"))
	expectReply(t, a, 0, 1, false, 20, nil) // its pause is 30
	hand(t, a, 0, "b", "3", 20)
	expectTick(t, a, 0, 0, send(0, 2, "3"))
	expectReply(t, a, 0, 2, true, 0, nil) // the breaker opens
	hand(t, a, 0, "b", "4", 30)
	hand(t, a, 0, "b", "5", 64)
	expectTick(t, a, 200, 0, send(0, 3, "4")) // b had 44
	for range 2 {
		b := reopen(t, c, a.Log())
		expectReply(t, b, 0, 3, true, 0, api.ErrStale)
		expectReply(t, b, 0, 0, true, 0, api.ErrStale)
		// The turn is a's, without credit; b has 64.
		expectTick(t, b, 0, 0, send(0, 1, "4"))
		expectReply(t, b, 0, 1, true, 0, nil)
		// b has 34, and "5" does not go with that; a has 64; one result of two.
		expectTick(t, b, 0, 0, send(0, 2, "1"))
		expectReply(t, b, 0, 2, false, 0, nil)
		// 2 results, 1 failure: the breaker opens.
		expectTick(t, b, 199, 0)
		expectTick(t, b, 1, 0, send(0, 3, "5"))
		a.Compact()
	}
}

// The time begins anew, too: what began then is not over sooner or later.
func TestOpenedAgentIsAtTheTimeNull(t *testing.T) {
	a := agentOf(t, patient())
	hand(t, a, 0, "a", "1", 1)
	expectTick(t, a, 60000, 0, send(0, 1, "1"))
	expectReply(t, a, 0, 1, false, 0, nil)
	b := reopen(t, patient(), a.Log())
	expectTick(t, b, 0, 0, send(0, 1, "1"))
	expectTick(t, b, 49, 0)
	expectStatus(t, b, "1", pending(1))
	expectTick(t, b, 1, 0)
	expectStatus(t, b, "1", pending(2))
	expectTick(t, b, 9, 0)
	expectTick(t, b, 1, 0, send(0, 2, "1"))
}

// A pause that was drawn ahead of the crash must not make the next one longer.
func TestPausesBeginAnewBehindOpen(t *testing.T) {
	c := patient()
	c.Cap = 60000
	a := agentOf(t, c)
	hand(t, a, 0, "a", "1", 1)
	for try := 1; try <= 4; try++ {
		expectTick(t, a, 60000, 0, send(0, try, "1"))
		expectReply(t, a, 0, try, false, 3*10*9*27, nil)
	}
	b := reopen(t, c, a.Log())
	expectTick(t, b, 0, 0, send(0, 1, "1"))
	expectReply(t, b, 0, 1, false, 20, nil)
	expectTick(t, b, 29, 0)
	expectTick(t, b, 1, 0, send(0, 2, "1"))
}

// All that one Tick lets fail is in the log, or nothing of it.
func TestTickIsThereWhollyOrNotAtAll(t *testing.T) {
	for _, attempts := range []int{1, 2} {
		c := roomy()
		c.Attempts = attempts
		a := agentOf(t, c)
		for _, d := range []int{3, 1, 0, 2} {
			hand(t, a, d, "a", strconv.Itoa(d), 10)
		}
		a.Tick(0, 0)
		hand(t, a, 1, "b", "next", 1)
		was := a.Log()
		expectTick(t, a, 50, 0, send(1, 2, "next"))
		is := a.Log()
		for n := len(was); n <= len(is); n++ {
			b := reopen(t, c, is[:n])
			failed, log := 0, was
			if n == len(is) {
				failed, log = 1, is
			}
			expectLog(t, b, log)
			for _, id := range []string{"0", "1", "2", "3"} {
				got, err := b.Status(id)
				if got.Failed != failed || (got.State == api.Dead) != (failed == attempts) || err != nil {
					t.Errorf("P10: of %d bytes more (of %d): Status(%q) = %+v, %v", n-len(was), len(is)-len(was), id, got, err)
				}
			}
			if failed == attempts {
				expectDead(t, b, "0", "1", "2", "3")
			} else {
				expectDead(t, b)
			}
			expectStatus(t, b, "next", fresh())
		}
	}
}

// A failure that a Tick brings about is in the log alone, not with the sends
// of that Tick, and a Tick that only sends is not in it at all.
func TestSendsAreNotInTheLog(t *testing.T) {
	a := agentOf(t, roomy())
	hand(t, a, 0, "a", "1", 10)
	was := a.Log()
	expectTick(t, a, 5, 0, send(0, 1, "1"))
	expectLog(t, a, was)
	expectTick(t, reopen(t, roomy(), a.Log()), 0, 0, send(0, 1, "1"))
}

// A log is one agent's text: what was told before does not grow with it, and
// agents of one log go their own ways.
func TestAgentsOfOneLogDoNotTouch(t *testing.T) {
	a := behindTheExamples(t)
	log := a.Log()
	was := strings.Clone(log)
	b, c := reopen(t, example(), log), reopen(t, example(), log)
	hand(t, b, 0, "a", "4", 1)
	hand(t, c, 0, "b", "5", 2)
	hand(t, a, 0, "b", "6", 3)
	if log != was {
		t.Errorf("P2: the log that was told became %q", log)
	}
	for i, agent := range []*conduit.Agent{b, c, a} {
		for j, id := range []string{"4", "5", "6"} {
			for _, one := range []*conduit.Agent{agent, reopen(t, example(), agent.Log())} {
				if _, err := one.Status(id); (err == nil) != (i == j) {
					t.Errorf("P2: agent %d: Status(%q): %v", i, id, err)
				}
			}
		}
	}
}

// rough draws a text that has bytes that stand for something in a log, or in other texts.
func rough(r *rand.Rand, length int) string {
	text := make([]byte, length)
	for i := range text {
		text[i] = "\x00\x01\x02\x03\x04\x10\x3f+=\n\r ,:;\"\\{}[]0123456789-\x7f\x80\xc3\xff"[r.Intn(35)]
	}
	return string(text)
}

// Ids, tenants and bodies of any bytes come out of the log as they went in.
func TestTextsOfAnyBytes(t *testing.T) {
	for seed := range 50 {
		r := rand.New(rand.NewSource(int64(seed)))
		c := patient()
		c.Quanta = make(map[string]int)
		var names []string
		for len(names) < 8 {
			name := rough(r, 1+r.Intn(16))
			if c.Quanta[name] == 0 {
				c.Quanta[name] = 1000
				names = append(names, name)
			}
		}
		a := agentOf(t, c)
		want := make(map[string]api.Batch)
		for range 100 {
			b := api.Batch{Destination: r.Intn(4), Tenant: names[r.Intn(8)], ID: rough(r, 1+r.Intn(16)), Body: rough(r, r.Intn(64))}
			if a.Submit(b) == nil {
				want[b.ID] = b
			}
		}
		for _, compact := range []bool{false, true} {
			if compact {
				a.Compact()
			}
			b := reopen(t, c, a.Log())
			expectWaiting(t, b, a.Waiting())
			expectBatches(t, b, want)
		}
	}
}

// expectBatches sends all that is pending, and holds it against what was handed
// in.
func expectBatches(t *testing.T, a *conduit.Agent, want map[string]api.Batch) {
	t.Helper()
	n := 0
	for len(a.Waiting()) > 0 {
		sends, err := a.Tick(0, 0)
		if len(sends) == 0 || err != nil {
			t.Fatalf("P5: Tick(0, 0) = %v, %v with %v waiting", sends, err, a.Waiting())
		}
		for _, s := range sends {
			n++
			if b := want[s.ID]; b.Body != s.Body || b.Destination != s.Destination || b.ID != s.ID {
				t.Fatalf("P10: %+v is sent for %+v", s, b)
			}
			before := a.Waiting()[want[s.ID].Tenant]
			expectReply(t, a, s.Destination, s.Try, true, 0, nil)
			if after := a.Waiting()[want[s.ID].Tenant]; after != before-1 {
				t.Fatalf("P10: %q was not of the tenant %q", s.ID, want[s.ID].Tenant)
			}
		}
	}
	if n != len(want) {
		t.Errorf("P10: %d batches are sent; want %d", n, len(want))
	}
}

func TestIDsOfEachByte(t *testing.T) {
	for first := 0; first < 256; first += 64 {
		a := agentOf(t, roomy())
		for i := range 64 {
			id := string([]byte{byte(first + i)})
			expectSubmit(t, a, api.Batch{Destination: i % 4, Tenant: "a", ID: id, Body: id}, nil)
		}
		b := reopen(t, roomy(), a.Log())
		for i := range 64 {
			id := string([]byte{byte(first + i)})
			expectStatus(t, b, id, fresh())
			expectSubmit(t, b, api.Batch{Tenant: "a", ID: id}, api.ErrTwice)
		}
	}
}

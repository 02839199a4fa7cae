package conduit_test

import (
	"maps"
	"math/rand"
	"slices"
	"strings"
	"testing"

	"conduit/api"
	"conduit/conduit"
)

// mostOf is how long Compact may make the log of what was taken.
func mostOf(taken []api.Batch) int {
	most := 16
	for _, b := range taken {
		most += 16 + len(b.ID) + len(b.Tenant) + len(b.Body)
	}
	return most
}

func expectCompact(t *testing.T, a *conduit.Agent, taken []api.Batch) {
	t.Helper()
	a.Compact()
	if got, most := len(a.Log()), mostOf(taken); got > most {
		t.Errorf("P10: of %d batches Compact makes a log of %d bytes; want %d at most", len(taken), got, most)
	}
}

// worn is a configuration with tenants of any bytes, under which a batch may
// fail as often as can be.
func worn(r *rand.Rand) api.Config {
	c := patient()
	c.Quanta = map[string]int{rough(r, 16): 1000, rough(r, 2): 1000, "\x00": 1000}
	return c
}

// takeAll hands in n batches whose ids and bodies the function text makes.
func takeAll(r *rand.Rand, a *conduit.Agent, c api.Config, n int, text func(least, most int) string) []api.Batch {
	names := slices.Sorted(maps.Keys(c.Quanta))
	var taken []api.Batch
	for len(taken) < n {
		b := api.Batch{Destination: r.Intn(4), Tenant: names[r.Intn(len(names))], ID: text(1, 16), Body: text(0, 63)}
		if a.Submit(b) == nil {
			taken = append(taken, b)
		}
	}
	return taken
}

func TestCompactIsShort(t *testing.T) {
	for _, n := range []int{0, 1, 2, 3, 60, 119, 120} {
		r := rand.New(rand.NewSource(int64(n)))
		for kind, text := range []func(least, most int) string{
			func(least, most int) string { return rough(r, least+r.Intn(most-least+1)) },
			func(least, most int) string { return rough(r, most) },
			func(least, most int) string { return rough(r, 2*least) },
		} {
			c := worn(r)
			a := agentOf(t, c)
			taken := takeAll(r, a, c, n, text)
			expectCompact(t, a, taken)
			b := reopen(t, c, a.Log())
			expectLog(t, b, a.Log())
			expectWaiting(t, b, a.Waiting())
			if got := len(statuses(t, b, taken)); got != n {
				t.Errorf("P10: %d batches of kind %d: %d are there behind Compact", n, kind, got)
			}
		}
	}
}

// wearDown lets all that is pending fail and end at random, till little is left.
func wearDown(t *testing.T, r *rand.Rand, a *conduit.Agent, rounds int) {
	t.Helper()
	for range rounds {
		sends, err := a.Tick(60000, 0)
		if err != nil {
			t.Fatalf("P5: Tick(60000, 0) = %v", err)
		}
		for _, s := range sends {
			expectReply(t, a, s.Destination, s.Try, r.Intn(12) == 0, 0, nil)
		}
	}
}

// At the worst there are 120 batches, and nearly all of them have failed. The
// document asks for all kinds of states, so all of them must come about.
func TestCompactOfAllKindsOfStates(t *testing.T) {
	seen := make(map[api.Status]int)
	for seed := range 40 {
		r := rand.New(rand.NewSource(int64(seed)))
		c := worn(r)
		a := agentOf(t, c)
		taken := takeAll(r, a, c, 120, func(least, most int) string { return rough(r, least+r.Intn(most-least+1)) })
		wearDown(t, r, a, 10*seed)
		want := statuses(t, a, taken)
		dead, waiting := a.Dead(), a.Waiting()
		for range 3 {
			expectCompact(t, a, taken)
			b := reopen(t, c, a.Log())
			expectLog(t, b, a.Log())
			for _, agent := range []*conduit.Agent{a, b} {
				if got := statuses(t, agent, taken); !slices.Equal(got, want) {
					t.Errorf("P10: seed %d: behind Compact %v; want %v", seed, got, want)
				}
				expectDead(t, agent, dead...)
				expectWaiting(t, agent, waiting)
			}
			a = b
		}
		for _, status := range want {
			seen[status]++
		}
	}
	for failed := range 10 {
		if seen[pending(failed)] == 0 || seen[acked(failed)] == 0 || seen[died(10)] == 0 {
			t.Errorf("not all kinds of states came about: %v", seen)
		}
	}
}

func statuses(t *testing.T, a *conduit.Agent, taken []api.Batch) []api.Status {
	t.Helper()
	var all []api.Status
	for _, b := range taken {
		status, err := a.Status(b.ID)
		if err != nil {
			t.Errorf("P9: Status(%q): %v", b.ID, err)
		}
		all = append(all, status)
	}
	return all
}

// Of an Attempts of 1 the first failure is death.
func TestCompactAtTheBoundsOfAttempts(t *testing.T) {
	for _, attempts := range []int{1, 2, 10} {
		c := patient()
		c.Attempts = attempts
		a := agentOf(t, c)
		hand(t, a, 0, "a", "acked", 1)
		hand(t, a, 1, "a", "dead", 1)
		hand(t, a, 2, "b", "pending", 1)
		for try := 1; try < attempts; try++ {
			a.Tick(10, 0)
			for d := range 3 {
				expectReply(t, a, d, try, false, 0, nil)
			}
		}
		a.Tick(10, 0)
		expectReply(t, a, 0, attempts, true, 0, nil)
		expectReply(t, a, 1, attempts, false, 0, nil)
		a.Compact()
		b := reopen(t, c, a.Log())
		expectStatus(t, b, "acked", acked(attempts-1))
		expectStatus(t, b, "dead", died(attempts))
		expectStatus(t, b, "pending", pending(attempts-1))
		expectDead(t, b, "dead")
	}
}

// More may have been pending in all than the quota lets be so at once.
func TestCompactOfASmallQuota(t *testing.T) {
	c := patient()
	c.Quota, c.Attempts = 1, 1
	a := agentOf(t, c)
	for i := range 120 {
		b := api.Batch{Destination: i % 4, Tenant: []string{"a", "b"}[i%2], ID: string([]byte{byte(i)})}
		expectSubmit(t, a, b, nil)
		if i >= 118 {
			continue
		}
		sends, err := a.Tick(60000, 0)
		if len(sends) != 1 || err != nil {
			t.Fatalf("P5: Tick(60000, 0) = %v, %v; want a send", sends, err)
		}
		expectReply(t, a, b.Destination, sends[0].Try, i%3 == 0, 0, nil)
	}
	dead := a.Dead()
	a.Compact()
	b := reopen(t, c, a.Log())
	expectDead(t, b, dead...)
	expectWaiting(t, b, map[string]int{"a": 1, "b": 1})
}

// What is under way, the pauses, breakers and turns are as they were: the
// shadow knows of no Compact.
func TestCompactChangesNothingElse(t *testing.T) {
	for seed := range 60 {
		r := rand.New(rand.NewSource(int64(seed)))
		c := anyConfig(r)
		a, s := agentOf(t, c), newShadow(c)
		for range 300 {
			stepBoth(t, r, a, s)
			if r.Intn(10) == 0 {
				a.Compact()
				expectMoment(t, reopen(t, c, a.Log()), moment{a.Log(), s})
			}
			if t.Failed() {
				t.Fatalf("seed %d: %+v", seed, c)
			}
		}
		expectAsShadow(t, a, s)
	}
}

// Behind Compact the log grows at its end as it did before.
func TestLogGoesOnBehindCompact(t *testing.T) {
	a := behindTheExamples(t)
	a.Compact()
	compact := a.Log()
	expectAdds(t, a, "Submit", func() { hand(t, a, 0, "b", "4", 64) })
	taken := a.Log()
	expectAdds(t, a, "Reply", func() { expectReply(t, a, 0, 5, false, 0, nil) })
	expectDead(t, a, "3", "2")
	log := a.Log()
	if !strings.HasPrefix(log, taken) || !strings.HasPrefix(taken, compact) {
		t.Fatalf("P10: %q, then %q, then %q", compact, taken, log)
	}
	for n := len(compact); n <= len(log); n++ {
		b := reopen(t, example(), log[:n])
		switch {
		case n < len(taken):
			expectLog(t, b, compact)
			expectNoStatus(t, b, "4")
			expectDead(t, b, "3")
		case n < len(log):
			expectLog(t, b, taken)
			expectStatus(t, b, "4", fresh())
			expectStatus(t, b, "2", pending(1))
		default:
			expectLog(t, b, log)
			expectDead(t, b, "3", "2")
		}
	}
}

// Compact has nothing to do with how often it was called, nor with whether the
// agent was opened of what it wrote.
func TestCompactAgain(t *testing.T) {
	a := behindTheExamples(t)
	a.Compact()
	first := a.Log()
	a.Compact()
	expectLog(t, a, first)
	b := reopen(t, example(), first)
	b.Compact()
	expectLog(t, b, first)
	if long := behindTheExamples(t).Log(); len(first) >= len(long) {
		t.Errorf("P10: Compact makes %d bytes of %d", len(first), len(long))
	}
}

// Of a piece of what Compact wrote no agent may be made that has forgotten
// something (the document leaves it open; nothing at all is an empty log).
func TestCutsWithinWhatCompactWrote(t *testing.T) {
	a := behindTheExamples(t)
	a.Compact()
	compact := a.Log()
	for n := 1; n < len(compact); n++ {
		if b, err := conduit.Open(example(), compact[:n]); b != nil || err != api.ErrLog {
			t.Errorf("P10: Open of %d bytes of %d = agent %t, %v; want nil, ErrLog", n, len(compact), b != nil, err)
		}
	}
	expectWaiting(t, reopen(t, example(), compact[:0]), nil)
}

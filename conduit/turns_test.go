package conduit_test

import (
	"math/rand"
	"slices"
	"strconv"
	"strings"
	"testing"

	"conduit/api"
	"conduit/conduit"
)

// of is a configuration with these tenants, which has no other bounds to bear on
// whose turn it is.
func of(quanta map[string]int) api.Config {
	c := patient()
	c.Destinations, c.Quanta = 1, quanta
	return c
}

// sent lets n batches go to destination 0, one by one, and tells their ids. All
// of them end well.
func sent(t *testing.T, a *conduit.Agent, n int) string {
	t.Helper()
	var ids []string
	for range n {
		sends, err := a.Tick(0, 0)
		if len(sends) != 1 || err != nil {
			t.Fatalf("P8: behind %v Tick(0, 0) = %v, %v; want a send", ids, sends, err)
		}
		ids = append(ids, sends[0].ID)
		expectReply(t, a, 0, sends[0].Try, true, 0, nil)
	}
	return strings.Join(ids, " ")
}

func expectSent(t *testing.T, a *conduit.Agent, want string) {
	t.Helper()
	if got := sent(t, a, len(strings.Fields(want))); got != want {
		t.Fatalf("P8: the order is %q; want %q", got, want)
	}
}

// handAll hands in n batches of one size and tenant: a0, a1, ..
func handAll(t *testing.T, a *conduit.Agent, tenant string, n, size int) {
	t.Helper()
	for i := range n {
		hand(t, a, 0, tenant, tenant+strconv.Itoa(i), size)
	}
}

func TestOneTenantAlone(t *testing.T) {
	a := agentOf(t, of(map[string]int{"a": 64}))
	handAll(t, a, "a", 5, 64)
	expectSent(t, a, "a0 a1 a2 a3 a4")
	expectTick(t, a, 0, 0)
}

// The first turn is that of the least name, which has no credit yet: so the
// second one goes first, and the first one goes behind the last one.
func TestFirstTurnAndTheWrap(t *testing.T) {
	a := agentOf(t, of(map[string]int{"c": 64, "a": 64, "b": 64}))
	for _, tenant := range []string{"c", "a", "b"} {
		handAll(t, a, tenant, 2, 64)
	}
	expectSent(t, a, "b0 c0 a0 b1 c1 a1")
}

func TestTurnsGoByTheBytesOfNames(t *testing.T) {
	names := []string{"\x00", "A", "Z", "a", "a\x00", "aa", "\u00e9", "\xff"}
	quanta := make(map[string]int)
	for _, name := range names {
		quanta[name] = 64
	}
	for range 10 {
		a := agentOf(t, of(quanta))
		for _, i := range []int{7, 2, 5, 0, 3, 6, 1, 4} {
			hand(t, a, 0, names[i], strconv.Itoa(i), 64)
		}
		expectSent(t, a, "1 2 3 4 5 6 7 0")
	}
}

// The turn stays as long as the credit is enough, to the byte.
func TestCreditAtItsBounds(t *testing.T) {
	quanta := map[string]int{"a": 64, "b": 100}
	a := agentOf(t, of(quanta))
	handAll(t, a, "a", 4, 32)
	handAll(t, a, "b", 4, 50)
	expectSent(t, a, "b0 b1 a0 a1 b2 b3 a2 a3")

	a = agentOf(t, of(quanta))
	handAll(t, a, "a", 4, 33) // 64: one, 31 are left; 95: two, 29 are left; 93: two
	handAll(t, a, "b", 4, 51) // 100: one, 49 are left; 149: two, 47 are left; 147: two
	expectSent(t, a, "b0 a0 b1 b2 a1 a2 b3")
	expectSent(t, a, "a3")
}

func TestCreditIsLessByTheSize(t *testing.T) {
	a := agentOf(t, of(map[string]int{"a": 64, "b": 64}))
	for i, size := range []int{1, 62, 1, 1, 63, 64} { // of the body one less
		hand(t, a, 0, "b", "b"+strconv.Itoa(i), size)
	}
	handAll(t, a, "a", 6, 64)
	expectSent(t, a, "b0 b1 b2 a0 b3 b4 a1 b5 a2 a3 a4 a5")
}

// Who has nothing to send loses the credit when the turn passes.
func TestCreditIsLostByWhoMayNotGo(t *testing.T) {
	a := agentOf(t, of(map[string]int{"a": 64, "b": 1000}))
	hand(t, a, 0, "b", "b", 1)
	expectSent(t, a, "b")
	handAll(t, a, "a", 3, 64)
	expectSent(t, a, "a0") // the turn passed b, whose 999 are lost
	handAll(t, a, "b", 20, 50)
	expectSent(t, a, "b0 b1 b2 b3 b4 b5 b6 b7 b8 b9 b10 b11 b12 b13 b14 b15 b16 b17 b18 b19 a1 a2")
}

// As long as the turn does not pass, who has nothing to send keeps the credit.
func TestCreditStaysWhileTheTurnStays(t *testing.T) {
	a := agentOf(t, of(map[string]int{"a": 64, "b": 100}))
	hand(t, a, 0, "b", "b", 40)
	expectSent(t, a, "b")
	expectTick(t, a, 1000, 0)
	expectTick(t, a, 1000, 0)
	hand(t, a, 0, "a", "a", 1)
	hand(t, a, 0, "b", "more", 60)
	hand(t, a, 0, "b", "most", 1)
	expectSent(t, a, "more a most")
}

// If none may go, neither turn nor credit changes.
func TestNothingChangesIfNoneMayGo(t *testing.T) {
	a := agentOf(t, of(map[string]int{"a": 64, "b": 64, "c": 64}))
	for range 7 {
		expectTick(t, a, 1, 0)
	}
	for _, tenant := range []string{"a", "b", "c"} {
		handAll(t, a, tenant, 3, 60)
	}
	expectSent(t, a, "b0 c0 a0 b1 c1 a1 b2 c2 a2")
}

// A batch in its pause holds up all that is behind it in its queue, and nothing
// in other queues.
func TestWhoIsInAPauseMayNotGo(t *testing.T) {
	a := agentOf(t, of(map[string]int{"a": 64, "b": 128}))
	handAll(t, a, "a", 3, 32)
	handAll(t, a, "b", 3, 32)
	expectTick(t, a, 0, 0, send(0, 1, "b0"))
	expectReply(t, a, 0, 1, false, 0, nil)
	// b may not go before 10: its 96 are lost, and the turn is a's, with 64.
	expectTick(t, a, 0, 0, send(0, 2, "a0"))
	expectReply(t, a, 0, 2, true, 0, nil)
	expectTick(t, a, 0, 0, send(0, 3, "a1"))
	expectReply(t, a, 0, 3, true, 0, nil)
	// a has no credit left; b is passed by; a has 64.
	expectTick(t, a, 9, 0, send(0, 4, "a2"))
	expectReply(t, a, 0, 4, true, 0, nil)
	expectTick(t, a, 0, 0)
	expectTick(t, a, 1, 0, send(0, 5, "b0"))
	expectReply(t, a, 0, 5, true, 0, nil)
	expectSent(t, a, "b1 b2")
}

// What failed has paid for its send, and pays again.
func TestCreditIsPaidForEachSend(t *testing.T) {
	a := agentOf(t, of(map[string]int{"a": 64, "b": 100}))
	hand(t, a, 0, "b", "b0", 60)
	expectTick(t, a, 0, 0, send(0, 1, "b0"))
	expectReply(t, a, 0, 1, false, 0, nil)
	expectTick(t, a, 9, 0)
	hand(t, a, 0, "a", "a0", 64)
	hand(t, a, 0, "a", "a1", 64)
	expectTick(t, a, 1, 0, send(0, 2, "a0")) // b has 40
	expectReply(t, a, 0, 2, true, 0, nil)
	expectTick(t, a, 0, 0, send(0, 3, "b0")) // b has 140
	expectReply(t, a, 0, 3, false, 0, nil)
	expectTick(t, a, 0, 0, send(0, 4, "a1")) // b's 80 are lost
	expectReply(t, a, 0, 4, true, 0, nil)
	hand(t, a, 0, "b", "b1", 50)
	expectTick(t, a, 10, 0, send(0, 5, "b0")) // b has 100
	expectReply(t, a, 0, 5, true, 0, nil)
	hand(t, a, 0, "a", "a2", 64)
	expectSent(t, a, "a2 b1")
}

// Turns and credits at one destination have nothing to do with another's.
func TestTurnsAreOfOneDestination(t *testing.T) {
	c := of(map[string]int{"a": 64, "b": 64, "c": 64})
	c.Destinations = 2
	a := agentOf(t, c)
	for _, tenant := range []string{"a", "b", "c"} {
		handAll(t, a, tenant, 2, 64)
	}
	expectSent(t, a, "b0 c0 a0 b1")
	for _, tenant := range []string{"a", "b", "c"} {
		hand(t, a, 1, tenant, "other "+tenant, 64)
	}
	expectTick(t, a, 0, 0, send(0, 5, "c1"), send(1, 1, "other b"))
	expectReply(t, a, 0, 5, true, 0, nil)
	expectTick(t, a, 0, 0, send(0, 6, "a1"))
	expectReply(t, a, 1, 1, true, 0, nil)
	expectTick(t, a, 0, 0, send(1, 2, "other c"))
}

func TestAQueueGoesInTheOrderOfTaking(t *testing.T) {
	a := agentOf(t, of(map[string]int{"a": 1000}))
	ids := []string{"9", "b", "1", "a", "10", "0"}
	for _, id := range ids {
		hand(t, a, 0, "a", id, 1)
	}
	expectSent(t, a, strings.Join(ids, " "))
}

// Of two tenants who always may go, the bytes divided by the quanta differ by
// less than 3 (P11), over each stretch of the sends.
func TestSharesOfTheBytes(t *testing.T) {
	for seed := range 200 {
		r := rand.New(rand.NewSource(int64(seed)))
		quanta := make(map[string]int)
		for _, name := range []string{"a", "b", "c"} {
			quanta[name] = 64 + r.Intn([]int{1, 10, 937}[r.Intn(3)])
		}
		a := agentOf(t, of(quanta))
		handThirds(t, r, a)
		if seed%4 == 0 {
			a = reopen(t, of(quanta), a.Log())
		}
		shares := sharesOf(t, a, quanta)
		for from := range shares {
			for to := from; to < len(shares); to++ {
				if far := apart(shares[from], shares[to]); far >= 3 {
					t.Fatalf("P11: seed %d, %v: from send %d to %d the shares differ by %v", seed, quanta, from, to, far)
				}
			}
		}
	}
}

// handThirds hands in all that can be, a third of it of each tenant.
func handThirds(t *testing.T, r *rand.Rand, a *conduit.Agent) {
	t.Helper()
	for i := range 120 {
		hand(t, a, 0, []string{"a", "b", "c"}[i%3], strconv.Itoa(i), 1+r.Intn(64))
	}
}

// sharesOf sends as long as each tenant may go, and tells behind each send what
// part of its quantum each tenant has sent.
func sharesOf(t *testing.T, a *conduit.Agent, quanta map[string]int) [][3]float64 {
	t.Helper()
	shares := [][3]float64{{}}
	for len(a.Waiting()) == 3 {
		sends, err := a.Tick(0, 0)
		if len(sends) != 1 || err != nil {
			t.Fatalf("P8: Tick(0, 0) = %v, %v; want a send", sends, err)
		}
		place, _ := strconv.Atoi(sends[0].ID)
		next := shares[len(shares)-1]
		next[place%3] += float64(len(sends[0].Body)+1) / float64(quanta[[]string{"a", "b", "c"}[place%3]])
		shares = append(shares, next)
		expectReply(t, a, 0, sends[0].Try, true, 0, nil)
	}
	return shares
}

// apart tells how far apart the shares of a stretch lie.
func apart(from, to [3]float64) float64 {
	var parts []float64
	for i := range from {
		parts = append(parts, to[i]-from[i])
	}
	return slices.Max(parts) - slices.Min(parts)
}

// Between two sends of one batch lies a pause of Base at least, and none fails
// more often than Attempts says (P11).
func TestPausesBetweenTheSendsOfOneBatch(t *testing.T) {
	for seed := range 100 {
		r := rand.New(rand.NewSource(int64(seed)))
		c := anyConfig(r)
		a := agentOf(t, c)
		now, last, tries := 0, make(map[string]int), make(map[string]int)
		for i := range 300 {
			a.Submit(api.Batch{Destination: r.Intn(c.Destinations), Tenant: "a", ID: strconv.Itoa(i)})
			ms := r.Intn(10)
			now += ms
			sends, err := a.Tick(ms, r.Intn(1000))
			if err != nil {
				t.Fatalf("P5: Tick(%d, ..) = %v", ms, err)
			}
			for _, s := range sends {
				before, again := last[s.ID]
				tries[s.ID]++
				if again && now-before < c.Base || tries[s.ID] > c.Attempts {
					t.Fatalf("P11: seed %d: send %d of %q at %d, behind one at %d, Base %d, Attempts %d", seed, tries[s.ID], s.ID, now, before, c.Base, c.Attempts)
				}
				last[s.ID] = now
				if r.Intn(2) == 0 {
					expectReply(t, a, s.Destination, s.Try, r.Intn(3) == 0, r.Intn(1000), nil)
				}
			}
		}
	}
}

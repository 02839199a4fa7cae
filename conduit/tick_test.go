package conduit_test

import (
	"math"
	"slices"
	"strconv"
	"strings"
	"testing"

	"conduit/api"
	"conduit/conduit"
)

// expectTick asks for the sends of a Tick: their destination, Try and id.
func expectTick(t *testing.T, a *conduit.Agent, ms, draw int, want ...api.Send) {
	t.Helper()
	got, err := a.Tick(ms, draw)
	for i := range got {
		got[i].Body = ""
	}
	if !slices.Equal(got, want) || err != nil {
		t.Fatalf("P5: Tick(%d, %d) = %+v, %v; want %+v, nil", ms, draw, got, err, want)
	}
}

func send(destination, try int, id string) api.Send {
	return api.Send{Destination: destination, Try: try, ID: id}
}

func expectReply(t *testing.T, a *conduit.Agent, d, try int, good bool, draw int, want error) {
	t.Helper()
	if err := a.Reply(d, try, good, draw); err != want {
		t.Fatalf("P6: Reply(%d, %d, %t, %d) = %v; want %v", d, try, good, draw, err, want)
	}
}

func expectDead(t *testing.T, a *conduit.Agent, want ...string) {
	t.Helper()
	if got := a.Dead(); !slices.Equal(got, want) {
		t.Fatalf("P9: Dead() = %q; want %q", got, want)
	}
}

func pending(failed int) api.Status { return api.Status{State: api.Pending, Failed: failed} }
func acked(failed int) api.Status   { return api.Status{State: api.Acked, Failed: failed} }
func died(failed int) api.Status    { return api.Status{State: api.Dead, Failed: failed} }

// hand hands in a batch of this size.
func hand(t *testing.T, a *conduit.Agent, d int, tenant, id string, size int) {
	t.Helper()
	expectSubmit(t, a, api.Batch{Destination: d, Tenant: tenant, ID: id, Body: strings.Repeat("x", size-1)}, nil)
}

// patient is a configuration whose breakers hardly ever open.
func patient() api.Config {
	c := roomy()
	c.Attempts, c.Window, c.Least, c.Threshold = 10, 64, 64, 1
	return c
}

func TestExamples(t *testing.T) {
	a := agentOf(t, example())
	hand(t, a, 0, "a", "1", 10)
	hand(t, a, 0, "a", "2", 10)
	hand(t, a, 0, "b", "3", 10)
	expectSubmit(t, a, api.Batch{Tenant: "a", ID: "1"}, api.ErrTwice)
	expectTick(t, a, 0, 0, send(0, 1, "3"))

	expectTick(t, a, 49, 0)
	expectTick(t, a, 1, 0, send(0, 2, "1"))
	expectStatus(t, a, "3", pending(1))
	expectWaiting(t, a, map[string]int{"a": 2, "b": 1})

	expectReply(t, a, 0, 1, true, 0, api.ErrStale)
	expectReply(t, a, 0, 2, true, 0, nil)
	expectStatus(t, a, "1", acked(0))

	expectTick(t, a, 10, 0, send(0, 3, "2"))
	expectReply(t, a, 0, 3, false, 25, nil)
	expectStatus(t, a, "2", pending(1))
	expectTick(t, a, 0, 0, send(0, 4, "3"))
	expectReply(t, a, 0, 4, false, 0, nil)
	expectStatus(t, a, "3", died(2))
	expectDead(t, a, "3")
	expectTick(t, a, 199, 0)
	expectTick(t, a, 1, 0, send(0, 5, "2"))
	expectStatus(t, a, "1", acked(0))
	expectStatus(t, a, "2", pending(1))
	expectWaiting(t, a, map[string]int{"a": 1})
}

func TestTickAtItsBounds(t *testing.T) {
	for _, row := range []struct {
		ms, draw int
		want     error
	}{
		{0, 0, nil}, {1, 1, nil}, {60000, 0, nil}, {0, math.MaxInt, nil}, {60000, math.MaxInt, nil},
		{-1, 0, api.ErrRange}, {60001, 0, api.ErrRange}, {math.MinInt, 0, api.ErrRange}, {math.MaxInt, 0, api.ErrRange},
		{0, -1, api.ErrRange}, {0, math.MinInt, api.ErrRange}, {60000, -1, api.ErrRange}, {-1, -1, api.ErrRange}, {60001, math.MinInt, api.ErrRange},
	} {
		a := agentOf(t, roomy())
		hand(t, a, 0, "a", "1", 1)
		sends, err := a.Tick(row.ms, row.draw)
		if err != row.want || (len(sends) == 1) != (err == nil) {
			t.Errorf("P5: Tick(%d, %d) = %v, %v; want %v", row.ms, row.draw, sends, err, row.want)
		}
	}
}

// A Tick that is refused must let no time go by, and no send begin or time out.
func TestRefusedTickLetsNoTimeGoBy(t *testing.T) {
	a := agentOf(t, roomy())
	hand(t, a, 0, "a", "1", 1)
	refuse := func() {
		t.Helper()
		for _, row := range [][2]int{{60001, 0}, {60000, -1}, {50, -1}, {-1, 0}} {
			if sends, err := a.Tick(row[0], row[1]); len(sends) != 0 || err != api.ErrRange {
				t.Errorf("P5: Tick(%d, %d) = %v, %v; want nothing, ErrRange", row[0], row[1], sends, err)
			}
		}
	}
	refuse()
	expectTick(t, a, 0, 0, send(0, 1, "1"))
	refuse()
	expectTick(t, a, 49, 0)
	refuse()
	expectStatus(t, a, "1", pending(0))
	expectTick(t, a, 1, 0)
	expectStatus(t, a, "1", pending(1))
}

func TestTickTellsTheWholeSend(t *testing.T) {
	a := agentOf(t, roomy())
	body := "\x00\xff" + strings.Repeat("\u00e9", 30)
	expectSubmit(t, a, api.Batch{Destination: 2, Tenant: "b", ID: "\xfe", Body: body}, nil)
	got, err := a.Tick(7, 0)
	if want := (api.Send{Destination: 2, Try: 1, ID: "\xfe", Body: body}); err != nil || len(got) != 1 || got[0] != want {
		t.Errorf("P5: Tick(7, 0) = %+v, %v; want %+v", got, err, want)
	}
}

func TestSendsStandInTheOrderOfDestinations(t *testing.T) {
	a := agentOf(t, roomy())
	for _, d := range []int{2, 0, 3, 1} {
		hand(t, a, d, "b", strconv.Itoa(d), 1)
	}
	expectTick(t, a, 0, 0, send(0, 1, "0"), send(1, 1, "1"), send(2, 1, "2"), send(3, 1, "3"))
	for _, d := range []int{3, 1} {
		expectReply(t, a, d, 1, true, 0, nil)
		hand(t, a, d, "a", "next"+strconv.Itoa(d), 1)
	}
	expectTick(t, a, 0, 0, send(1, 2, "next1"), send(3, 2, "next3"))
}

// Each destination counts its own sends, those that failed or timed out too,
// and counts nothing but sends.
func TestTryCountsTheSendsOfItsDestination(t *testing.T) {
	c := patient()
	a := agentOf(t, c)
	for i := range 6 {
		hand(t, a, 0, "a", "x"+strconv.Itoa(i), 1)
		hand(t, a, 3, "a", "y"+strconv.Itoa(i), 1)
	}
	expectTick(t, a, 0, 0, send(0, 1, "x0"), send(3, 1, "y0"))
	expectTick(t, a, 0, 0)
	expectReply(t, a, 0, 1, true, 0, nil)
	expectTick(t, a, 0, 0, send(0, 2, "x1"))
	expectReply(t, a, 0, 2, false, 0, nil)
	expectTick(t, a, 9, 0)
	expectTick(t, a, 1, 0, send(0, 3, "x1"))
	expectReply(t, a, 0, 3, true, 0, nil)
	expectTick(t, a, 0, 0, send(0, 4, "x2"))
	expectTick(t, a, 40, 0)
	expectTick(t, a, 10, 0, send(3, 2, "y0"))
	expectTick(t, a, 10, 0, send(0, 5, "x2"))
	expectReply(t, a, 3, 2, true, 0, nil)
	expectReply(t, a, 0, 5, true, 0, nil)
	expectTick(t, a, 0, 0, send(0, 6, "x3"), send(3, 3, "y1"))
}

func TestOneSendAtATimeToEachDestination(t *testing.T) {
	a := agentOf(t, roomy())
	hand(t, a, 0, "a", "1", 1)
	hand(t, a, 0, "a", "2", 1)
	hand(t, a, 0, "b", "3", 1)
	expectTick(t, a, 0, 0, send(0, 1, "3"))
	for range 49 {
		expectTick(t, a, 1, 0)
	}
	hand(t, a, 1, "a", "4", 1)
	expectTick(t, a, 0, 0, send(1, 1, "4"))
}

func TestTimeoutAtItsBounds(t *testing.T) {
	for _, timeout := range []int{1, 2, 50, 59999, 60000} {
		c := patient()
		c.Timeout = timeout
		a := agentOf(t, c)
		expectTick(t, a, 17, 0)
		hand(t, a, 0, "a", "1", 1)
		expectTick(t, a, 23, 0, send(0, 1, "1"))
		expectTick(t, a, timeout-1, 0)
		expectStatus(t, a, "1", pending(0))
		expectTick(t, a, 1, 0)
		expectStatus(t, a, "1", pending(1))
		expectReply(t, a, 0, 1, true, 0, api.ErrStale)
		expectTick(t, a, 10, 0, send(0, 2, "1"))
		expectTick(t, a, 60000, 0)
		expectStatus(t, a, "1", pending(2))
	}
}

// A reply just ahead of the timeout is heard, and there is no timeout then.
func TestReplyAheadOfTheTimeout(t *testing.T) {
	a := agentOf(t, patient())
	hand(t, a, 0, "a", "1", 1)
	expectTick(t, a, 0, 0, send(0, 1, "1"))
	expectTick(t, a, 49, 0)
	expectReply(t, a, 0, 1, true, 0, nil)
	expectTick(t, a, 1, 0)
	expectStatus(t, a, "1", acked(0))
}

// The draw of the Tick makes the pauses of all that time out in it.
func TestTimeoutsTakeTheDrawOfTheTick(t *testing.T) {
	a := agentOf(t, patient())
	for d := range 4 {
		hand(t, a, d, "a", strconv.Itoa(d), 1)
	}
	expectTick(t, a, 0, 3, send(0, 1, "0"), send(1, 1, "1"), send(2, 1, "2"), send(3, 1, "3"))
	expectReply(t, a, 1, 1, true, 0, nil)
	expectTick(t, a, 50, 25)
	expectTick(t, a, 13, 7)
	expectTick(t, a, 1, 7, send(0, 2, "0"), send(2, 2, "2"), send(3, 2, "3"))
}

// What timed out makes room for a send of the same Tick, but does not go itself.
func TestTimeoutsComeAheadOfTheSends(t *testing.T) {
	c := patient()
	c.Base, c.Cap = 1, 1
	a := agentOf(t, c)
	hand(t, a, 0, "b", "1", 1)
	hand(t, a, 1, "b", "2", 1)
	expectTick(t, a, 0, 0, send(0, 1, "1"), send(1, 1, "2"))
	hand(t, a, 0, "a", "3", 1)
	hand(t, a, 1, "b", "4", 1)
	expectTick(t, a, 50, 0, send(0, 2, "3"))
	expectTick(t, a, 1, 0, send(1, 2, "2"))
}

// The failure of a timeout counts with the breaker ahead of the sends.
func TestTimeoutOpensTheBreakerAheadOfTheSends(t *testing.T) {
	c := roomy()
	c.Least, c.Threshold = 1, 1
	a := agentOf(t, c)
	hand(t, a, 0, "b", "1", 1)
	expectTick(t, a, 0, 0, send(0, 1, "1"))
	hand(t, a, 0, "a", "2", 1)
	expectTick(t, a, 50, 0)
	expectTick(t, a, 199, 0)
	expectTick(t, a, 1, 0, send(0, 2, "1")) // the turn is b's still, with 63
}

func TestTimeoutsKillInTheOrderOfDestinations(t *testing.T) {
	c := roomy()
	c.Attempts = 1
	a := agentOf(t, c)
	for _, d := range []int{3, 1, 0, 2} {
		hand(t, a, d, "a", strconv.Itoa(d), 1)
	}
	if sends, err := a.Tick(0, 0); len(sends) != 4 || err != nil {
		t.Fatalf("P5: Tick(0, 0) = %v, %v; want 4 sends", sends, err)
	}
	expectTick(t, a, 50, 0)
	expectDead(t, a, "0", "1", "2", "3")
	expectWaiting(t, a, nil)
}

func TestCallerMayWriteIntoSends(t *testing.T) {
	a := agentOf(t, patient())
	for d := range 3 {
		hand(t, a, d, "a", strconv.Itoa(d), 3)
	}
	first, _ := a.Tick(0, 0)
	was := slices.Clone(first)
	for d := range 3 {
		expectReply(t, a, d, 1, false, 0, nil)
	}
	second, _ := a.Tick(10, 0)
	if !slices.Equal(first, was) {
		t.Errorf("P2: a later Tick made %v of %v", first, was)
	}
	was = slices.Clone(second)
	first = first[:cap(first)]
	for i := range first {
		first[i] = api.Send{Destination: -1, Try: -1, ID: "spoilt", Body: "spoilt"}
	}
	if !slices.Equal(second, was) {
		t.Errorf("P2: writing into one answer made %v of %v", second, was)
	}
	expectReply(t, a, 0, 2, true, 0, nil)
	expectStatus(t, a, "0", acked(1))
}

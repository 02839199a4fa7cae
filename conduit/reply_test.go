package conduit_test

import (
	"math"
	"strconv"
	"testing"

	"conduit/api"
)

func TestReplyAtTheBoundsOfDestination(t *testing.T) {
	for destinations := 1; destinations <= 4; destinations++ {
		c := patient()
		c.Destinations = destinations
		a := agentOf(t, c)
		for d := range destinations {
			hand(t, a, d, "a", strconv.Itoa(d), 1)
		}
		if sends, err := a.Tick(0, 0); len(sends) != destinations || err != nil {
			t.Fatalf("P5: Tick(0, 0) = %v, %v", sends, err)
		}
		for _, d := range []int{math.MinInt, -1, destinations, destinations + 1, math.MaxInt} {
			expectReply(t, a, d, 1, true, 0, api.ErrDestination)
		}
		expectWaiting(t, a, map[string]int{"a": destinations})
		for d := range destinations {
			expectReply(t, a, d, 1, true, 0, nil)
		}
		expectWaiting(t, a, nil)
	}
}

func TestReplyAtTheBoundsOfDraw(t *testing.T) {
	for _, good := range []bool{true, false} {
		for _, draw := range []int{0, 1, math.MaxInt} {
			a := agentOf(t, patient())
			hand(t, a, 0, "a", "1", 1)
			expectTick(t, a, 0, 0, send(0, 1, "1"))
			for _, wrong := range []int{-1, math.MinInt} {
				expectReply(t, a, 0, 1, good, wrong, api.ErrRange)
			}
			expectStatus(t, a, "1", pending(0))
			expectReply(t, a, 0, 1, good, draw, nil)
		}
	}
}

func TestReplyNamesTheFirstError(t *testing.T) {
	a := agentOf(t, patient())
	hand(t, a, 1, "a", "1", 1)
	expectTick(t, a, 0, 0, send(1, 1, "1"))
	for _, row := range []struct {
		d, try, draw int
		want         error
	}{
		{-1, 1, -1, api.ErrDestination},
		{4, 1, -1, api.ErrDestination},
		{4, 2, 0, api.ErrDestination},
		{-1, 0, math.MinInt, api.ErrDestination},
		{1, 2, -1, api.ErrRange},
		{0, 1, -1, api.ErrRange},
		{1, 1, -1, api.ErrRange},
		{0, 1, 0, api.ErrStale},
		{1, 2, 0, api.ErrStale},
	} {
		for _, good := range []bool{true, false} {
			expectReply(t, a, row.d, row.try, good, row.draw, row.want)
		}
	}
	expectStatus(t, a, "1", pending(0))
	expectReply(t, a, 1, 1, true, 0, nil)
}

func TestReplyOfAnotherTry(t *testing.T) {
	a := agentOf(t, patient())
	stale := func(d int, tries ...int) {
		t.Helper()
		for _, try := range tries {
			expectReply(t, a, d, try, true, 0, api.ErrStale)
			expectReply(t, a, d, try, false, 0, api.ErrStale)
		}
	}
	stale(0, math.MinInt, -1, 0, 1, 2, math.MaxInt)
	hand(t, a, 0, "a", "1", 1)
	hand(t, a, 0, "a", "2", 1)
	hand(t, a, 1, "a", "3", 1)
	stale(0, 0, 1)
	expectTick(t, a, 0, 0, send(0, 1, "1"), send(1, 1, "3"))
	stale(0, math.MinInt, -1, 0, 2, math.MaxInt)
	expectReply(t, a, 0, 1, true, 0, nil)
	stale(0, -1, 0, 1, 2)
	expectTick(t, a, 0, 0, send(0, 2, "2"))
	stale(0, 0, 1, 3)
	stale(1, 0, 2)
	expectReply(t, a, 0, 2, false, 0, nil)
	stale(0, 0, 1, 2, 3)
	expectStatus(t, a, "1", acked(0))
	expectStatus(t, a, "2", pending(1))
	expectStatus(t, a, "3", pending(0))
	expectTick(t, a, 50, 0, send(0, 3, "2"))
	stale(1, 0, 1, 2)
	expectStatus(t, a, "3", pending(1))
}

// pauses lets one batch fail by each draw, and asks for each pause to the
// millisecond.
func pauses(t *testing.T, c api.Config, rows ...[2]int) {
	t.Helper()
	a := agentOf(t, c)
	hand(t, a, 0, "a", "1", 1)
	expectTick(t, a, 5, 0, send(0, 1, "1"))
	for i, row := range rows {
		draw, pause := row[0], row[1]
		expectReply(t, a, 0, i+1, false, draw, nil)
		expectStatus(t, a, "1", pending(i+1))
		expectTick(t, a, pause-1, 0)
		expectTick(t, a, 1, 0, send(0, i+2, "1"))
	}
}

func TestPausesAtTheirBounds(t *testing.T) {
	c := patient()
	// Of the pause 10 there are 21 draws, of 30 there are 81, of 100 there are 291.
	pauses(t, c, [2]int{0, 10}, [2]int{20, 30}, [2]int{80, 90}, [2]int{261, 10})
	pauses(t, c, [2]int{21, 10}, [2]int{41, 30}, [2]int{81, 10}, [2]int{1, 11})
	pauses(t, c, [2]int{19, 29}, [2]int{78, 10}, [2]int{20, 30}, [2]int{79, 89})
	pauses(t, c, [2]int{20, 30}, [2]int{80, 90}, [2]int{89, 99}, [2]int{287, 100})
	pauses(t, c, [2]int{20, 30}, [2]int{80, 90}, [2]int{90, 100}, [2]int{290, 100})
	pauses(t, c, [2]int{20, 30}, [2]int{80, 90}, [2]int{91, 100}, [2]int{291, 10})
	pauses(t, c, [2]int{math.MaxInt, 10 + math.MaxInt%21})
}

func TestPausesOfOtherBasesAndCaps(t *testing.T) {
	c := patient()
	c.Base, c.Cap = 1, 1
	pauses(t, c, [2]int{0, 1}, [2]int{1, 1}, [2]int{2, 1}, [2]int{math.MaxInt, 1})
	c.Base, c.Cap = 1, 60000
	pauses(t, c, [2]int{2, 3}, [2]int{8, 9}, [2]int{26, 27}, [2]int{80, 81}, [2]int{242, 243}, [2]int{728, 729}, [2]int{2186, 2187}, [2]int{6560, 6561}, [2]int{19682, 19683})
	c.Base, c.Cap = 60000, 60000
	pauses(t, c, [2]int{0, 60000}, [2]int{120000, 60000}, [2]int{120001, 60000}, [2]int{math.MaxInt, 60000})
	c.Base, c.Cap = 20000, 60000
	pauses(t, c, [2]int{40000, 60000}, [2]int{160000, 60000}, [2]int{160001, 20000}, [2]int{39999, 59999}, [2]int{1, 20001})
}

// The pause is a batch's own: that of another one has nothing to do with it.
func TestPausesAreOfOneBatch(t *testing.T) {
	a := agentOf(t, patient())
	hand(t, a, 0, "a", "1", 1)
	hand(t, a, 0, "a", "2", 1)
	hand(t, a, 1, "a", "3", 1)
	expectTick(t, a, 0, 0, send(0, 1, "1"), send(1, 1, "3"))
	expectReply(t, a, 0, 1, false, 20, nil)
	expectReply(t, a, 1, 1, false, 0, nil)
	expectTick(t, a, 10, 0, send(1, 2, "3"))
	expectTick(t, a, 20, 0, send(0, 2, "1"))
	expectReply(t, a, 0, 2, true, 0, nil)
	expectTick(t, a, 0, 0, send(0, 3, "2"))
	expectReply(t, a, 0, 3, false, 21, nil)
	expectTick(t, a, 9, 0)
	expectTick(t, a, 1, 0, send(0, 4, "2"))
}

func TestDeadAtAttempts(t *testing.T) {
	for attempts := 1; attempts <= 10; attempts++ {
		c := patient()
		c.Attempts, c.Quota = attempts, 1
		a := agentOf(t, c)
		hand(t, a, 0, "a", "1", 1)
		for try := 1; try <= attempts; try++ {
			expectStatus(t, a, "1", pending(try-1))
			expectDead(t, a)
			expectSubmit(t, a, api.Batch{Tenant: "a", ID: "2"}, api.ErrQuota)
			expectTick(t, a, 10, 0, send(0, try, "1"))
			expectReply(t, a, 0, try, false, 0, nil)
		}
		expectStatus(t, a, "1", died(attempts))
		expectDead(t, a, "1")
		expectWaiting(t, a, nil)
		expectTick(t, a, 60000, 0)
		expectSubmit(t, a, api.Batch{Tenant: "a", ID: "1"}, api.ErrTwice)
		hand(t, a, 0, "a", "2", 1)
		expectTick(t, a, 0, 0, send(0, attempts+1, "2"))
	}
}

// The last attempt may still end well, and the failures stay to be told.
func TestAckedAtTheLastAttempt(t *testing.T) {
	a := agentOf(t, patient())
	hand(t, a, 0, "a", "1", 1)
	for try := 1; try <= 9; try++ {
		expectTick(t, a, 10, 0, send(0, try, "1"))
		expectReply(t, a, 0, try, false, 0, nil)
	}
	expectTick(t, a, 10, 0, send(0, 10, "1"))
	expectReply(t, a, 0, 10, true, 0, nil)
	expectStatus(t, a, "1", acked(9))
	expectDead(t, a)
	expectTick(t, a, 60000, 0)
}

func TestAckedIsSentNoMore(t *testing.T) {
	c := patient()
	c.Quota = 1
	a := agentOf(t, c)
	hand(t, a, 0, "a", "1", 1)
	expectTick(t, a, 0, 0, send(0, 1, "1"))
	expectSubmit(t, a, api.Batch{Tenant: "a", ID: "2"}, api.ErrQuota)
	expectReply(t, a, 0, 1, true, 0, nil)
	expectStatus(t, a, "1", acked(0))
	expectWaiting(t, a, nil)
	expectTick(t, a, 60000, 0)
	expectSubmit(t, a, api.Batch{Tenant: "a", ID: "1"}, api.ErrTwice)
	hand(t, a, 3, "a", "2", 1)
	expectTick(t, a, 0, 0, send(3, 1, "2"))
}

func TestDeadStandInTheOrderOfTheirDeath(t *testing.T) {
	c := patient()
	c.Attempts = 1
	a := agentOf(t, c)
	for d := range 4 {
		hand(t, a, d, "a", strconv.Itoa(d), 1)
	}
	expectTick(t, a, 0, 0, send(0, 1, "0"), send(1, 1, "1"), send(2, 1, "2"), send(3, 1, "3"))
	expectReply(t, a, 2, 1, false, 0, nil)
	expectDead(t, a, "2")
	expectReply(t, a, 0, 1, false, 0, nil)
	expectReply(t, a, 1, 1, true, 0, nil)
	expectReply(t, a, 3, 1, false, 0, nil)
	expectDead(t, a, "2", "0", "3")
}

package conduit_test

import (
	"math"
	"strconv"
	"testing"

	"conduit/api"
	"conduit/conduit"
)

// drill is an agent whose results a test says one by one: its batches never run
// out, and it asks whether the breaker lets them go.
type drill struct {
	t   *testing.T
	a   *conduit.Agent
	try int
}

// newDrill has batches that die at their first failure, so that no pause is
// taken for an open breaker.
func newDrill(t *testing.T, c api.Config) *drill {
	t.Helper()
	c.Destinations, c.Quota, c.Attempts, c.Open = 1, 120, 1, 200
	d := &drill{t: t, a: agentOf(t, c)}
	fill(t, d.a, "a", 0, 120)
	return d
}

// goes asks for a send behind so many milliseconds.
func (d *drill) goes(ms int) {
	d.t.Helper()
	d.try++
	if sends, err := d.a.Tick(ms, 0); len(sends) != 1 || sends[0].Try != d.try || err != nil {
		d.t.Fatalf("P7: send %d: Tick(%d, 0) = %v, %v", d.try, ms, sends, err)
	}
}

// stays asks for no send.
func (d *drill) stays(ms int) {
	d.t.Helper()
	if sends, err := d.a.Tick(ms, 0); len(sends) != 0 || err != nil {
		d.t.Fatalf("P7: behind send %d the breaker is not open: Tick(%d, 0) = %v, %v", d.try, ms, sends, err)
	}
}

// hears sends one batch for each byte: '+' ends well, '-' fails.
func (d *drill) hears(results string) {
	d.t.Helper()
	for _, r := range results {
		d.goes(0)
		expectReply(d.t, d.a, 0, d.try, r == '+', 0, nil)
	}
}

// opens asks for an open breaker, up to the last millisecond of it.
func (d *drill) opens() {
	d.t.Helper()
	d.stays(0)
	d.stays(199)
	d.stays(0)
}

func breakerOf(least, window int, threshold float64) api.Config {
	c := example()
	c.Least, c.Window, c.Threshold = least, window, threshold
	return c
}

func TestBreakerAtTheBoundsOfLeast(t *testing.T) {
	for _, least := range []int{1, 2, 3, 63, 64} {
		d := newDrill(t, breakerOf(least, 64, 1))
		for range least - 1 {
			d.hears("-")
		}
		d.hears("-")
		d.opens()
	}
	d := newDrill(t, breakerOf(3, 64, 0.5))
	d.hears("--")
	d.hears("+")
	d.opens()
}

// A good result opens it too, if it brings the results up to Least.
func TestBreakerAtTheBoundsOfThreshold(t *testing.T) {
	for _, row := range []struct {
		threshold float64
		results   string
		opens     bool
	}{
		{0.75, "+---", true},
		{0.75, "-+-+", false},
		{math.Nextafter(0.75, 1), "+---", false},
		{math.Nextafter(0.75, 0), "+---", true},
		{0.5, "--++", true},
		{math.Nextafter(0.5, 1), "--++", false},
		{1, "----", true},
		{1, "---+", false},
		{0.25, "-+++", true},
		{0.25, "++++", false},
		{math.SmallestNonzeroFloat64, "-+++", true},
		{math.SmallestNonzeroFloat64, "++++", false},
	} {
		d := newDrill(t, breakerOf(4, 4, row.threshold))
		d.hears(row.results)
		if row.opens {
			d.opens()
		} else {
			d.goes(0)
		}
	}
}

// A quotient is one of float64: 1/3 is not below the threshold 1.0/3, and
// 7/10 is not below 0.7, though 0.7 has no exact form.
func TestBreakerDividesAsFloat64(t *testing.T) {
	d := newDrill(t, breakerOf(3, 64, 1.0/3))
	d.hears("++-")
	d.opens()
	d = newDrill(t, breakerOf(10, 64, 0.7))
	d.hears("+++-------")
	d.opens()
	d = newDrill(t, breakerOf(10, 64, 0.7))
	d.hears("++++------")
	d.hears("---")
	d.hears("-") // 10 of 14
	d.opens()
}

// The counts begin anew behind Window results, not one later or earlier.
func TestBreakerAtTheBoundsOfWindow(t *testing.T) {
	d := newDrill(t, breakerOf(2, 4, 0.75))
	d.hears("+-+-") // 2 of 4: anew
	d.hears("-")    // 1 of 1
	d.hears("+")    // 1 of 2
	d.hears("-")    // 2 of 3
	d.hears("-")    // 3 of 4
	d.opens()

	d = newDrill(t, breakerOf(3, 3, 0.75))
	d.hears("+--+--++--")
	d.hears("+--")
	d.goes(0)

	d = newDrill(t, breakerOf(1, 1, 1))
	d.hears("+++++")
	d.hears("-")
	d.opens()
}

// At Window results the threshold is asked ahead of the counts' end.
func TestBreakerOpensWithTheLastOfTheWindow(t *testing.T) {
	d := newDrill(t, breakerOf(64, 64, 0.5))
	for range 32 {
		d.hears("+")
	}
	for range 32 {
		d.hears("-")
	}
	d.opens()
	d = newDrill(t, breakerOf(64, 64, 0.5))
	for range 33 {
		d.hears("+")
	}
	for range 31 {
		d.hears("-")
	}
	d.hears("--")
	d.goes(0)
}

func TestBreakerHalfOpenAndAGoodResult(t *testing.T) {
	d := newDrill(t, breakerOf(2, 4, 0.75))
	d.hears("+---")
	d.opens()
	d.goes(1)
	expectReply(t, d.a, 0, d.try, true, 0, nil)
	d.hears("-")  // 1 of 1: what came before is forgotten, the good result too
	d.hears("+")  // 1 of 2
	d.hears("--") // 3 of 4
	d.opens()
}

func TestBreakerHalfOpenAndAFailure(t *testing.T) {
	d := newDrill(t, breakerOf(2, 4, 0.75))
	d.hears("--")
	for range 3 {
		d.opens()
		d.goes(1)
		expectReply(t, d.a, 0, d.try, false, 0, nil)
	}
	d.opens()
	d.hearsLate(1, "+")
	d.hears("-")
	d.hears("-")
	d.opens()
}

// hearsLate is hears with a first send behind so many milliseconds.
func (d *drill) hearsLate(ms int, results string) {
	d.t.Helper()
	d.goes(ms)
	expectReply(d.t, d.a, 0, d.try, results[0] == '+', 0, nil)
	d.hears(results[1:])
}

// Half open, one send is under way at most, as ever; it may take its time.
func TestBreakerHalfOpenAndATimeout(t *testing.T) {
	d := newDrill(t, breakerOf(1, 1, 1))
	d.hears("-")
	d.opens()
	d.goes(1)
	d.stays(49)
	d.stays(1) // timed out: open again from here on
	d.opens()
	d.goes(60000)
	d.stays(40)
	expectReply(t, d.a, 0, d.try, true, 0, nil)
	d.goes(0)
}

// It is open from the result on, not from when the send began.
func TestBreakerIsOpenFromTheResultOn(t *testing.T) {
	d := newDrill(t, breakerOf(1, 1, 1))
	d.goes(7)
	d.stays(30)
	expectReply(t, d.a, 0, d.try, false, 0, nil)
	d.opens()
	d.goes(1)
}

func TestBreakerOpenAtItsBounds(t *testing.T) {
	for _, open := range []int{1, 2, 60000} {
		c := breakerOf(1, 1, 1)
		c.Attempts, c.Open = 1, open
		a := agentOf(t, c)
		hand(t, a, 0, "a", "1", 1)
		hand(t, a, 0, "a", "2", 1)
		expectTick(t, a, 3, 0, send(0, 1, "1"))
		expectReply(t, a, 0, 1, false, 0, nil)
		expectTick(t, a, open-1, 0)
		expectTick(t, a, 1, 0, send(0, 2, "2"))
	}
}

// A timeout is a failure, and stale replies are no results.
func TestBreakerCountsTimeoutsAndNoStaleReply(t *testing.T) {
	d := newDrill(t, breakerOf(3, 4, 0.75))
	d.goes(0)
	expectReply(t, d.a, 0, 7, false, 0, api.ErrStale)
	expectReply(t, d.a, 0, 1, false, -1, api.ErrRange)
	d.goes(50)
	expectReply(t, d.a, 0, 1, false, 0, api.ErrStale)
	d.goes(50)
	d.stays(49)
	d.stays(1)
	d.opens()
}

func TestBreakersAreOfOneDestination(t *testing.T) {
	c := patient()
	c.Attempts, c.Least, c.Window, c.Threshold = 1, 2, 4, 0.75
	a := agentOf(t, c)
	for i := range 12 {
		hand(t, a, i%2, "a", strconv.Itoa(i), 1)
	}
	expectTick(t, a, 0, 0, send(0, 1, "0"), send(1, 1, "1"))
	expectReply(t, a, 0, 1, false, 0, nil)
	expectReply(t, a, 1, 1, false, 0, nil)
	expectTick(t, a, 0, 0, send(0, 2, "2"), send(1, 2, "3"))
	expectReply(t, a, 0, 2, true, 0, nil)
	expectReply(t, a, 1, 2, false, 0, nil)
	expectTick(t, a, 0, 0, send(0, 3, "4"))
	expectReply(t, a, 0, 3, true, 0, nil)
	expectTick(t, a, 199, 0, send(0, 4, "6"))
	expectTick(t, a, 1, 0, send(1, 3, "5"))
}

// While it is open a batch is taken, and time goes on for the pauses.
func TestOpenBreakerHoldsOnlySends(t *testing.T) {
	c := breakerOf(1, 1, 1)
	c.Base = 100
	a := agentOf(t, c)
	hand(t, a, 0, "a", "1", 1)
	expectTick(t, a, 0, 0, send(0, 1, "1"))
	expectReply(t, a, 0, 1, false, 0, nil)
	hand(t, a, 0, "b", "2", 1)
	expectTick(t, a, 199, 0)
	expectReply(t, a, 0, 1, true, 0, api.ErrStale)
	expectTick(t, a, 1, 0, send(0, 2, "1"))
}

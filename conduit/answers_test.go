package conduit_test

import (
	"math"
	"math/rand"
	"strconv"
	"strings"
	"testing"

	"conduit/api"
	"conduit/conduit"
)

func TestNewAgentTellsNothing(t *testing.T) {
	a := agentOf(t, roomy())
	expectWaiting(t, a, nil)
	if dead := a.Dead(); len(dead) != 0 {
		t.Errorf("P9: Dead() of a new agent = %q", dead)
	}
	for _, id := range []string{"", "1", "a", "\x00", strings.Repeat("i", 17), strings.Repeat("i", 100000)} {
		expectNoStatus(t, a, id)
	}
}

func TestStatusIsOfTheWholeID(t *testing.T) {
	a := agentOf(t, roomy())
	expectSubmit(t, a, api.Batch{Tenant: "a", ID: "mid", Body: "body"}, nil)
	expectStatus(t, a, "mid", fresh())
	for _, id := range []string{"", "m", "mi", "midd", "id", "Mid", "mid\x00", "a", "body"} {
		expectNoStatus(t, a, id)
	}
}

func TestWaitingHasOnlyThoseThatHaveSome(t *testing.T) {
	c := roomy()
	c.Quanta = tenants(8)
	a := agentOf(t, c)
	for i, tenant := range []string{"h", "c", "h", "h", "c"} {
		expectSubmit(t, a, api.Batch{Destination: i % 4, Tenant: tenant, ID: strconv.Itoa(i)}, nil)
	}
	expectWaiting(t, a, map[string]int{"c": 2, "h": 3})
}

func TestCallerMayWriteIntoWaiting(t *testing.T) {
	c := roomy()
	c.Quota = 2
	a := agentOf(t, c)
	fill(t, a, "a", 0, 2)
	early, late := a.Waiting(), a.Waiting()
	early["a"], early["b"] = -7, 99
	if len(late) != 1 || late["a"] != 2 {
		t.Errorf("P2: writing into one answer changed another one: %v", late)
	}
	clear(late)
	expectWaiting(t, a, map[string]int{"a": 2})
	expectSubmit(t, a, api.Batch{Tenant: "a", ID: "new"}, api.ErrQuota)
	expectSubmit(t, a, api.Batch{Tenant: "b", ID: "new"}, nil)
	if len(late) != 0 || early["a"] != -7 || early["b"] != 99 {
		t.Errorf("P2: a later call wrote into the caller's answers: %v, %v", early, late)
	}
}

// The order of the calls of several agents is mixed, and each is held against
// one that was alone.
func TestAgentsDoNotTouchOneAnother(t *testing.T) {
	c := roomy()
	c.Quota = 3
	a, b := agentOf(t, c), agentOf(t, c)
	for i := range 3 {
		id := strconv.Itoa(i)
		expectSubmit(t, a, api.Batch{Tenant: "a", ID: id}, nil)
		expectNoStatus(t, b, id)
		expectSubmit(t, b, api.Batch{Tenant: "b", ID: id}, nil)
		expectSubmit(t, a, api.Batch{Tenant: "a", ID: id}, api.ErrTwice)
		expectWaiting(t, a, map[string]int{"a": i + 1})
		expectWaiting(t, b, map[string]int{"b": i + 1})
	}
	expectSubmit(t, a, api.Batch{Tenant: "a", ID: "new"}, api.ErrQuota)
	expectSubmit(t, b, api.Batch{Tenant: "a", ID: "new"}, nil)
	expectNoStatus(t, a, "new")
	expectWaiting(t, agentOf(t, c), nil)
}

func TestTheConfigurationIsTheOneAtOpen(t *testing.T) {
	c := roomy()
	a := agentOf(t, c)
	c.Quanta["z"] = 64
	delete(c.Quanta, "a")
	c.Destinations, c.Quota = 1, 1
	expectSubmit(t, a, api.Batch{Destination: 3, Tenant: "z", ID: "1"}, api.ErrTenant)
	expectSubmit(t, a, api.Batch{Destination: 3, Tenant: "a", ID: "1"}, nil)
	expectSubmit(t, a, api.Batch{Destination: 3, Tenant: "a", ID: "2"}, nil)
	expectWaiting(t, a, map[string]int{"a": 2})
}

func TestAnswersHangOnWhatWasDoneAlone(t *testing.T) {
	for seed := range 5 {
		first, second := told(t, int64(seed)), told(t, int64(seed))
		if first != second {
			t.Errorf("P2: seed %d answered\n%s\nand then\n%s", seed, first, second)
		}
	}
}

// told lets an agent answer many calls, and writes down what it answers.
func told(t *testing.T, seed int64) string {
	t.Helper()
	r := rand.New(rand.NewSource(seed))
	c := roomy()
	c.Quota, c.Quanta = 30, tenants(4)
	a := agentOf(t, c)
	var text strings.Builder
	for range 500 {
		b := anyBatch(r)
		if err := a.Submit(b); err != nil {
			text.WriteString(err.Error() + "\n")
		}
		sends, _ := a.Tick(r.Intn(30), r.Intn(100))
		for _, s := range sends {
			text.WriteString(strconv.Itoa(s.Destination) + "," + strconv.Itoa(s.Try) + "," + s.ID + "," + s.Body + "\n")
			a.Reply(s.Destination, s.Try-r.Intn(2), r.Intn(2) == 0, r.Intn(100))
		}
		status, _ := a.Status(b.ID)
		text.WriteString(strconv.Itoa(status.State) + strconv.Itoa(a.Waiting()[b.Tenant]) + "\n")
	}
	return text.String() + strings.Join(a.Dead(), ",")
}

func anyNumber(r *rand.Rand) int {
	edges := []int{math.MinInt, -60001, -1, 0, 1, 2, 3, 4, 49, 50, 60000, 60001, math.MaxInt}
	if r.Intn(4) == 0 {
		return int(r.Uint64())
	}
	return edges[r.Intn(len(edges))]
}

// Whatever is called in whatever order ends and does not panic, and an error
// stands alone.
func TestCallsInAnyOrder(t *testing.T) {
	for seed := range 40 {
		r := rand.New(rand.NewSource(int64(seed)))
		c := roomy()
		c.Quanta = tenants(4)
		a := agentOf(t, c)
		for range 500 {
			callAny(t, r, a)
		}
	}
}

func callAny(t *testing.T, r *rand.Rand, a *conduit.Agent) {
	t.Helper()
	switch r.Intn(8) {
	case 0:
		if sends, err := a.Tick(anyNumber(r), anyNumber(r)); err != nil && len(sends) != 0 {
			t.Errorf("P1: Tick answered %v beside %v", sends, err)
		}
	case 1:
		a.Reply(anyNumber(r), anyNumber(r), r.Intn(2) == 0, anyNumber(r))
		a.Reply(r.Intn(4), 1+r.Intn(4), r.Intn(2) == 0, r.Intn(1000))
	case 2:
		if status, err := a.Status(anyBatch(r).ID); (status == api.Status{}) != (err != nil) {
			t.Errorf("P1: Status answered %+v beside %v", status, err)
		}
	case 3:
		a.Dead()
	case 4:
		a.Waiting()
	case 5:
		a.Log()
	case 6:
		a.Compact()
	default:
		b := anyBatch(r)
		if r.Intn(4) == 0 {
			b.Destination = anyNumber(r)
		}
		a.Submit(b)
	}
}

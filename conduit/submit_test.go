package conduit_test

import (
	"maps"
	"math"
	"math/rand"
	"strconv"
	"strings"
	"testing"

	"conduit/api"
	"conduit/conduit"
)

// roomy is a configuration whose quota is never in the way.
func roomy() api.Config {
	c := example()
	c.Destinations, c.Quota = 4, 120
	return c
}

func agentOf(t *testing.T, c api.Config) *conduit.Agent {
	t.Helper()
	a, err := conduit.Open(c, "")
	if a == nil || err != nil {
		t.Fatalf("P3: Open(%+v) = agent %t, %v; want an agent, nil", c, a != nil, err)
	}
	return a
}

func expectSubmit(t *testing.T, a *conduit.Agent, b api.Batch, want error) {
	t.Helper()
	if err := a.Submit(b); err != want {
		t.Errorf("P4: Submit of %d, %.20q, %.20q, a body of %d = %v; want %v", b.Destination, b.Tenant, b.ID, len(b.Body), err, want)
	}
}

func expectStatus(t *testing.T, a *conduit.Agent, id string, want api.Status) {
	t.Helper()
	if got, err := a.Status(id); got != want || err != nil {
		t.Errorf("P9: Status(%.20q) = %+v, %v; want %+v, nil", id, got, err, want)
	}
}

func expectNoStatus(t *testing.T, a *conduit.Agent, id string) {
	t.Helper()
	if got, err := a.Status(id); got != (api.Status{}) || err != api.ErrID {
		t.Errorf("P9: Status(%.20q) = %+v, %v; want zeros, ErrID", id, got, err)
	}
}

func expectWaiting(t *testing.T, a *conduit.Agent, want map[string]int) {
	t.Helper()
	if got := a.Waiting(); !maps.Equal(got, want) {
		t.Errorf("P9: Waiting() = %v; want %v", got, want)
	}
}

// fresh is what a batch is that was taken and not sent yet.
func fresh() api.Status { return api.Status{State: api.Pending} }

// fill hands in n batches of one byte's size, with the ids from, from+1, ..
func fill(t *testing.T, a *conduit.Agent, tenant string, from, n int) {
	t.Helper()
	for i := from; i < from+n; i++ {
		expectSubmit(t, a, api.Batch{Tenant: tenant, ID: strconv.Itoa(i)}, nil)
	}
}

func TestSubmitOfTheExample(t *testing.T) {
	a := agentOf(t, example())
	for _, b := range []api.Batch{
		{Tenant: "a", ID: "1", Body: "123456789"},
		{Tenant: "a", ID: "2", Body: "123456789"},
		{Tenant: "b", ID: "3", Body: "123456789"},
	} {
		expectSubmit(t, a, b, nil)
		expectStatus(t, a, b.ID, fresh())
	}
	expectSubmit(t, a, api.Batch{Tenant: "a", ID: "1"}, api.ErrTwice)
	expectWaiting(t, a, map[string]int{"a": 2, "b": 1})
}

func TestSubmitAtTheBoundsOfDestination(t *testing.T) {
	for destinations := 1; destinations <= 4; destinations++ {
		c := example()
		c.Destinations = destinations
		a := agentOf(t, c)
		for _, d := range []int{math.MinInt, -1, destinations, destinations + 1, math.MaxInt} {
			expectSubmit(t, a, api.Batch{Destination: d, Tenant: "a", ID: "1"}, api.ErrDestination)
		}
		for d := range destinations {
			expectSubmit(t, a, api.Batch{Destination: d, Tenant: "a", ID: strconv.Itoa(d)}, nil)
		}
		expectWaiting(t, a, map[string]int{"a": destinations})
	}
}

func TestSubmitOfTenants(t *testing.T) {
	c := roomy()
	c.Quanta = map[string]int{"a": 64, "\x00": 64, "\xff": 64, strings.Repeat("n", 16): 64}
	a := agentOf(t, c)
	for _, tenant := range []string{"", "b", "A", "aa", "a ", "\x00\x00", "\ufffd", strings.Repeat("n", 15), strings.Repeat("n", 17), strings.Repeat("a", 100000)} {
		expectSubmit(t, a, api.Batch{Tenant: tenant, ID: "1"}, api.ErrTenant)
	}
	want := make(map[string]int)
	for tenant := range c.Quanta {
		expectSubmit(t, a, api.Batch{Tenant: tenant, ID: tenant}, nil)
		want[tenant] = 1
	}
	expectWaiting(t, a, want)
}

func TestSubmitAtTheBoundsOfID(t *testing.T) {
	a := agentOf(t, roomy())
	for _, id := range []string{"", strings.Repeat("i", 17), strings.Repeat("\u00e9", 9), strings.Repeat("i", 100000)} {
		expectSubmit(t, a, api.Batch{Tenant: "a", ID: id}, api.ErrID)
		expectNoStatus(t, a, id)
	}
	for _, id := range []string{"i", "\x00", "\xff", " ", strings.Repeat("i", 15), strings.Repeat("i", 16), strings.Repeat("\u00e9", 8)} {
		expectSubmit(t, a, api.Batch{Tenant: "a", ID: id}, nil)
		expectStatus(t, a, id, fresh())
	}
}

func TestSubmitAtTheBoundsOfBody(t *testing.T) {
	a := agentOf(t, roomy())
	for _, body := range []string{strings.Repeat("x", 64), strings.Repeat("\u00e9", 32), strings.Repeat("\x00", 100000)} {
		expectSubmit(t, a, api.Batch{Tenant: "a", ID: "1", Body: body}, api.ErrLong)
		expectNoStatus(t, a, "1")
	}
	for i, body := range []string{"", "x", strings.Repeat("x", 62), strings.Repeat("x", 63), strings.Repeat("\u00e9", 31) + "x", strings.Repeat("\xff", 63)} {
		expectSubmit(t, a, api.Batch{Tenant: "a", ID: strconv.Itoa(i), Body: body}, nil)
	}
}

// An id is one agent's, not one tenant's or one destination's.
func TestSubmitOfAnIDAgain(t *testing.T) {
	a := agentOf(t, roomy())
	expectSubmit(t, a, api.Batch{Destination: 1, Tenant: "a", ID: "1", Body: "x"}, nil)
	for _, b := range []api.Batch{
		{Destination: 1, Tenant: "a", ID: "1", Body: "x"},
		{Destination: 0, Tenant: "a", ID: "1", Body: "x"},
		{Destination: 1, Tenant: "b", ID: "1", Body: "x"},
		{Destination: 3, Tenant: "b", ID: "1"},
	} {
		expectSubmit(t, a, b, api.ErrTwice)
	}
	for _, id := range []string{"11", "1\x00", "\x001", "01", "I"} {
		expectSubmit(t, a, api.Batch{Tenant: "b", ID: id}, nil)
	}
	expectWaiting(t, a, map[string]int{"a": 1, "b": 5})
}

func TestSubmitTillFull(t *testing.T) {
	a := agentOf(t, roomy())
	fill(t, a, "a", 0, 60)
	fill(t, a, "b", 60, 60)
	for _, tenant := range []string{"a", "b"} {
		for d := range 4 {
			expectSubmit(t, a, api.Batch{Destination: d, Tenant: tenant, ID: "new"}, api.ErrFull)
		}
	}
	expectNoStatus(t, a, "new")
	expectWaiting(t, a, map[string]int{"a": 60, "b": 60})
}

func TestSubmitAtTheBoundsOfQuota(t *testing.T) {
	for _, quota := range []int{1, 2, 9, 119} {
		c := roomy()
		c.Quota = quota
		a := agentOf(t, c)
		for i := range quota {
			expectSubmit(t, a, api.Batch{Destination: i % 4, Tenant: "a", ID: strconv.Itoa(i)}, nil)
		}
		for d := range 4 {
			expectSubmit(t, a, api.Batch{Destination: d, Tenant: "a", ID: "new"}, api.ErrQuota)
		}
		expectWaiting(t, a, map[string]int{"a": quota})
		expectSubmit(t, a, api.Batch{Tenant: "b", ID: "new"}, nil)
	}
}

// Each batch is wrong in everything from its row on, so that the row's error is
// the first of all that apply.
func TestSubmitNamesTheFirstError(t *testing.T) {
	c := roomy()
	c.Quota = 60
	a := agentOf(t, c)
	fill(t, a, "a", 0, 60)
	expectSubmit(t, a, api.Batch{Tenant: "a", ID: "1"}, api.ErrTwice)
	expectSubmit(t, a, api.Batch{Tenant: "a", ID: "new"}, api.ErrQuota)
	fill(t, a, "b", 60, 60)
	long := strings.Repeat("x", 64)
	for _, row := range []struct {
		b    api.Batch
		want error
	}{
		{api.Batch{Destination: -1, Tenant: "z", ID: "", Body: long}, api.ErrDestination},
		{api.Batch{Destination: 4, Tenant: "", ID: long, Body: long}, api.ErrDestination},
		{api.Batch{Destination: 4, Tenant: "a", ID: "1"}, api.ErrDestination},
		{api.Batch{Tenant: "z", ID: "", Body: long}, api.ErrTenant},
		{api.Batch{Tenant: "z", ID: "1", Body: long}, api.ErrTenant},
		{api.Batch{Tenant: "z", ID: "1"}, api.ErrTenant},
		{api.Batch{Tenant: "a", ID: "", Body: long}, api.ErrID},
		{api.Batch{Tenant: "a", ID: long, Body: long}, api.ErrID},
		{api.Batch{Tenant: "a", ID: ""}, api.ErrID},
		{api.Batch{Tenant: "a", ID: "1", Body: long}, api.ErrLong},
		{api.Batch{Tenant: "a", ID: "new", Body: long}, api.ErrLong},
		{api.Batch{Tenant: "a", ID: "1"}, api.ErrTwice},
		{api.Batch{Tenant: "a", ID: "119"}, api.ErrTwice},
		{api.Batch{Tenant: "a", ID: "new"}, api.ErrFull},
	} {
		expectSubmit(t, a, row.b, row.want)
	}
	expectWaiting(t, a, map[string]int{"a": 60, "b": 60})
}

// anyBatch draws one that is mostly right, or only just wrong.
func anyBatch(r *rand.Rand) api.Batch {
	b := api.Batch{
		Destination: r.Intn(4),
		Tenant:      string([]byte{byte('a' + r.Intn(4))}),
		ID:          strconv.Itoa(r.Intn(300)),
		Body:        strings.Repeat("x", r.Intn(64)),
	}
	switch r.Intn(20) {
	case 0:
		b.Destination = []int{-1, 4, 5, math.MinInt, math.MaxInt}[r.Intn(5)]
	case 1:
		b.Tenant = []string{"", "e", "aa"}[r.Intn(3)]
	case 2:
		b.ID = strings.Repeat("i", []int{0, 16, 17, 1000}[r.Intn(4)])
	case 3:
		b.Body = strings.Repeat("x", []int{64, 65, 1000}[r.Intn(3)])
	}
	return b
}

func TestSubmitsAgainstTheShadow(t *testing.T) {
	for seed := range 60 {
		r := rand.New(rand.NewSource(int64(seed)))
		c := roomy()
		c.Destinations, c.Quota, c.Quanta = 1+r.Intn(4), 1+r.Intn(60), tenants(1+r.Intn(4))
		a, s := agentOf(t, c), newShadow(c)
		for range 400 {
			b := anyBatch(r)
			expectSubmit(t, a, b, s.submit(b))
			expectWaiting(t, a, s.waiting())
		}
		for _, b := range s.taken {
			expectStatus(t, a, b.ID, fresh())
		}
		if t.Failed() {
			t.Fatalf("seed %d", seed)
		}
	}
}

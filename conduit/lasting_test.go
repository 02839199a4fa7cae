package conduit

import (
	"maps"
	"reflect"
	"slices"
	"strconv"
	"strings"
	"testing"
	"unsafe"

	"conduit/api"
)

func submit(t *testing.T, a *Agent, b api.Batch, want error) {
	t.Helper()
	if err := a.Submit(b); err != want {
		t.Fatalf("P4: Submit(%+v) = %v; want %v", b, err, want)
	}
}

// finish lets a batch be acked or die, without a send, by what happened to it.
func finish(t *testing.T, a *Agent, id string, end api.Status) {
	t.Helper()
	place := a.place(id)
	if place == none {
		t.Fatalf("no batch %q was taken", id)
	}
	a.record(event{kind: hasFailed, place: place, failures: 1})
	if end.State == api.Dead {
		a.record(event{kind: hasDied, place: place, failures: 1})
	} else {
		a.record(event{kind: wasAcked, place: place})
	}
}

func status(t *testing.T, a *Agent, id string, want api.Status) {
	t.Helper()
	if got, err := a.Status(id); got != want || err != nil {
		t.Errorf("P9: Status(%q) = %+v, %v; want %+v, nil", id, got, err, want)
	}
}

var (
	acked = api.Status{State: api.Acked, Failed: 1}
	died  = api.Status{State: api.Dead, Failed: 2}
)

func TestTakenBatchesStandInTheirQueues(t *testing.T) {
	a := open(t, wideConfig())
	for i, key := range []lane{{0, "a"}, {1, "a"}, {0, "b"}, {0, "a"}, {1, "a"}, {0, "a"}} {
		submit(t, a, api.Batch{Destination: key.destination, Tenant: key.tenant, ID: strconv.Itoa(i), Body: "x"}, nil)
	}
	want := map[lane][]int{{0, "a"}: {0, 3, 5}, {1, "a"}: {1, 4}, {0, "b"}: {2}}
	if !maps.EqualFunc(a.queues, want, slices.Equal[[]int]) {
		t.Errorf("P4: the queues are %v; want %v", a.queues, want)
	}
	if first := (batch{api.Batch{Tenant: "a", ID: "0", Body: "x"}, api.Status{State: api.Pending}}); a.taken[0] != first {
		t.Errorf("P4: what was taken first is %+v; want %+v", a.taken[0], first)
	}
}

func TestTakenBatchMayGoAtOnceWithThePauseBase(t *testing.T) {
	a := open(t, wideConfig())
	submit(t, a, api.Batch{Tenant: "a", ID: "1"}, nil)
	a.now = 70
	submit(t, a, api.Batch{Tenant: "a", ID: "2"}, nil)
	for i, r := range a.retries {
		if r.pause != 10 || r.from > []int{0, 70}[i] {
			t.Errorf("P4: batch %d has the pause %d and may go from %d on", i, r.pause, r.from)
		}
	}
	if len(a.retries) != 2 {
		t.Errorf("P4: 2 batches have %d pauses", len(a.retries))
	}
}

// A text that is kept as it is may hold a much longer one in memory.
func TestTakenBatchHasItsOwnTexts(t *testing.T) {
	a := open(t, wideConfig())
	whole := strings.Repeat("a", 1000)
	submit(t, a, api.Batch{Tenant: whole[:1], ID: whole[:2], Body: whole[:3]}, nil)
	got := a.taken[0]
	for _, text := range []string{got.Tenant, got.ID, got.Body} {
		if unsafe.StringData(text) == unsafe.StringData(whole) {
			t.Errorf("P2: the text %q is kept", text)
		}
	}
	for key := range a.queues {
		if unsafe.StringData(key.tenant) == unsafe.StringData(whole) {
			t.Error("P2: the tenant is kept as a key")
		}
	}
}

func TestSubmitOfAnIDThatHasEnded(t *testing.T) {
	for _, end := range []api.Status{acked, died} {
		a := open(t, wideConfig())
		submit(t, a, api.Batch{Tenant: "a", ID: "1"}, nil)
		finish(t, a, "1", end)
		for _, tenant := range []string{"a", "b"} {
			submit(t, a, api.Batch{Tenant: tenant, ID: "1"}, api.ErrTwice)
		}
		status(t, a, "1", end)
	}
}

func TestEndedBatchesFreeTheQuotaButNoID(t *testing.T) {
	c := wideConfig()
	c.Quota = 1
	a := open(t, c)
	for i := range api.MaxIDs {
		id := strconv.Itoa(i)
		submit(t, a, api.Batch{Destination: i % 4, Tenant: "a", ID: id}, nil)
		if i < api.MaxIDs-1 {
			submit(t, a, api.Batch{Destination: i % 3, Tenant: "a", ID: "new"}, api.ErrQuota)
		}
		finish(t, a, id, []api.Status{acked, died}[i%2])
	}
	submit(t, a, api.Batch{Tenant: "a", ID: "new"}, api.ErrFull)
	submit(t, a, api.Batch{Tenant: "a", ID: "0"}, api.ErrTwice)
}

func TestWaitingCountsNoneThatHasEnded(t *testing.T) {
	a := open(t, wideConfig())
	for i, tenant := range []string{"a", "b", "a", "b", "a"} {
		submit(t, a, api.Batch{Destination: i % 4, Tenant: tenant, ID: strconv.Itoa(i)}, nil)
	}
	for _, row := range []struct {
		id   string
		end  api.Status
		want map[string]int
	}{
		{"0", acked, map[string]int{"a": 2, "b": 2}},
		{"3", died, map[string]int{"a": 2, "b": 1}},
		{"1", acked, map[string]int{"a": 2}},
		{"4", died, map[string]int{"a": 1}},
		{"2", died, map[string]int{}},
	} {
		finish(t, a, row.id, row.end)
		status(t, a, row.id, row.end)
		if got := a.Waiting(); !maps.Equal(got, row.want) {
			t.Errorf("P9: behind the end of %q Waiting() = %v; want %v", row.id, got, row.want)
		}
	}
}

func TestStatusTellsFailuresOfWhatIsPending(t *testing.T) {
	a := open(t, wideConfig())
	submit(t, a, api.Batch{Tenant: "a", ID: "1"}, nil)
	submit(t, a, api.Batch{Tenant: "a", ID: "2"}, nil)
	a.taken[1].Failed = 1
	status(t, a, "1", api.Status{State: api.Pending})
	status(t, a, "2", api.Status{State: api.Pending, Failed: 1})
}

func TestDeadAreToldInTheOrderOfTheirDeath(t *testing.T) {
	a := open(t, wideConfig())
	for i := range 6 {
		submit(t, a, api.Batch{Destination: i % 4, Tenant: []string{"b", "a"}[i%2], ID: strconv.Itoa(i)}, nil)
	}
	finish(t, a, "0", acked)
	var want []string
	for _, id := range []string{"4", "1", "5", "2"} {
		finish(t, a, id, died)
		want = append(want, id)
		if got := a.Dead(); !slices.Equal(got, want) {
			t.Errorf("P9: Dead() = %q; want %q", got, want)
		}
	}
}

func TestCallerMayWriteIntoDead(t *testing.T) {
	a := open(t, wideConfig())
	for i := range 5 {
		submit(t, a, api.Batch{Tenant: "a", ID: strconv.Itoa(i)}, nil)
	}
	for _, id := range []string{"3", "1", "2"} {
		finish(t, a, id, died)
	}
	early, late := a.Dead(), a.Dead()
	spoil(early)
	if want := []string{"3", "1", "2"}; !slices.Equal(late, want) || !slices.Equal(a.Dead(), want) {
		t.Errorf("P2: writing into one answer changed others: %q, %q", late, a.Dead())
	}
	finish(t, a, "0", died)
	if longer := a.Dead(); !slices.Equal(longer, []string{"3", "1", "2", "0"}) || early[0] != "spoilt" {
		t.Errorf("P2: the answers lie in one another: %q, %q", longer, early)
	}
	status(t, a, "3", died)
}

// spoil writes into all of a list, its spare room too.
func spoil(list []string) {
	list = list[:cap(list)]
	for i := range list {
		list[i] = "spoilt"
	}
}

// kept is a copy of all that a call could change.
func kept(a *Agent) []any {
	queues := make(map[lane][]int)
	for key, queue := range a.queues {
		queues[key] = slices.Clone(queue)
	}
	outlets := slices.Clone(a.outlets)
	for i := range outlets {
		outlets[i].credits = slices.Clone(outlets[i].credits)
		outlets[i].tooMany = nil // functions are never the same
	}
	return []any{slices.Clone(a.taken), queues, slices.Clone(a.dead), a.log, slices.Clone(a.retries), outlets, a.now, maps.Clone(a.config.Quanta), slices.Clone(a.names)}
}

// The errors come from a new agent, from one whose tenant "a" is at its quota,
// and from one that is full.
func TestErrorsChangeNothing(t *testing.T) {
	c := wideConfig()
	c.Quota = 3
	empty, busy, full := open(t, c), open(t, c), open(t, c)
	for i := range 3 {
		submit(t, busy, api.Batch{Destination: i, Tenant: "a", ID: strconv.Itoa(i)}, nil)
	}
	for i := range api.MaxIDs {
		submit(t, full, api.Batch{Tenant: "a", ID: strconv.Itoa(i)}, nil)
		finish(t, full, strconv.Itoa(i), died)
	}
	for _, row := range []struct {
		a    *Agent
		b    api.Batch
		want error
	}{
		{empty, api.Batch{Destination: 4, Tenant: "a", ID: "new"}, api.ErrDestination},
		{empty, api.Batch{Tenant: "z", ID: "new"}, api.ErrTenant},
		{empty, api.Batch{Tenant: "a"}, api.ErrID},
		{empty, api.Batch{Tenant: "a", ID: "new", Body: strings.Repeat("x", 64)}, api.ErrLong},
		{busy, api.Batch{Destination: 3, Tenant: "b", ID: "1", Body: "other"}, api.ErrTwice},
		{busy, api.Batch{Destination: 3, Tenant: "a", ID: "new"}, api.ErrQuota},
		{full, api.Batch{Destination: 3, Tenant: "b", ID: "new"}, api.ErrFull},
		{full, api.Batch{Destination: 3, Tenant: "b", ID: "7"}, api.ErrTwice},
	} {
		was := kept(row.a)
		submit(t, row.a, row.b, row.want)
		row.a.Status("none")
		if is := kept(row.a); !reflect.DeepEqual(is, was) {
			t.Errorf("P1: beside %v the agent became %v; it was %v", row.want, is, was)
		}
	}
}

// A question must not lay an empty queue down, nor bring anything in order.
func TestQuestionsChangeNothing(t *testing.T) {
	a := open(t, wideConfig())
	submit(t, a, api.Batch{Tenant: "b", ID: "2"}, nil)
	submit(t, a, api.Batch{Tenant: "a", ID: "1"}, nil)
	finish(t, a, "1", died)
	was := kept(a)
	a.Waiting()
	a.Dead()
	a.Status("1")
	a.Status("")
	if is := kept(a); !reflect.DeepEqual(is, was) {
		t.Errorf("P9: asking made %v of %v", is, was)
	}
}

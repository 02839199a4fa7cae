package conduit

import (
	"slices"
	"strconv"
	"strings"
	"testing"
	"unsafe"

	"conduit/api"
)

func taking(d int, tenant, id, body string) event {
	return event{kind: wasTaken, batch: api.Batch{Destination: d, Tenant: tenant, ID: id, Body: body}}
}

// calls writes a log in which each event is one call's.
func calls(events ...event) string {
	var log strings.Builder
	for _, e := range events {
		log.WriteString(written(byCall, []event{e}))
	}
	return log.String()
}

// many takes n batches of a tenant.
func many(tenant string, from, n int) []event {
	var events []event
	for i := range n {
		events = append(events, taking(i%4, tenant, strconv.Itoa(from+i), ""))
	}
	return events
}

func opening(t *testing.T, c api.Config, log string) error {
	t.Helper()
	a, err := Open(c, log)
	if (a == nil) != (err != nil) {
		t.Errorf("P1: Open(c, %q) = agent %t, %v", log, a != nil, err)
	}
	return err
}

// Each row is a log that an agent with this configuration could have told, or
// one that is wrong in one thing only.
func TestOpenHoldsEachEventAgainstTheConfiguration(t *testing.T) {
	one := taking(0, "a", "1", "")
	for _, row := range []struct {
		what string
		good bool
		e    event
	}{
		{"the last destination", true, taking(3, "a", "2", "")},
		{"no destination", false, taking(4, "a", "2", "")},
		{"a destination far off", false, taking(255, "a", "2", "")},
		{"another tenant", true, taking(0, "b", "2", "")},
		{"no tenant", false, taking(0, "c", "2", "")},
		{"an empty tenant", false, taking(0, "", "2", "")},
		{"a tenant's beginning", false, taking(0, "aa", "2", "")},
		{"an id of 16", true, taking(0, "a", strings.Repeat("i", 16), "")},
		{"an id of 17", false, taking(0, "a", strings.Repeat("i", 17), "")},
		{"an empty id", false, taking(0, "a", "", "")},
		{"a body of 63", true, taking(0, "a", "2", strings.Repeat("x", 63))},
		{"a body of 64", false, taking(0, "a", "2", strings.Repeat("x", 64))},
		{"an id again", false, taking(1, "b", "1", "x")},
		{"an ack", true, event{kind: wasAcked}},
		{"an ack behind failures", true, event{kind: wasAcked, failures: 2}},
		{"an ack behind too many failures", false, event{kind: wasAcked, failures: 3}},
		{"an ack of none", false, event{kind: wasAcked, place: 1}},
		{"an ack far off", false, event{kind: wasAcked, place: 255}},
		{"a failure", true, event{kind: hasFailed, failures: 1}},
		{"failures up to the last", true, event{kind: hasFailed, failures: 2}},
		{"a failure that is death", false, event{kind: hasFailed, failures: 3}},
		{"no failure", false, event{kind: hasFailed}},
		{"a failure of none", false, event{kind: hasFailed, place: 1, failures: 1}},
		{"a death", true, event{kind: hasDied, failures: 3}},
		{"a death too early", false, event{kind: hasDied, failures: 2}},
		{"a death too late", false, event{kind: hasDied, failures: 4}},
		{"a death of none", false, event{kind: hasDied, place: 1, failures: 3}},
		{"a kind too far", false, event{kind: hasDied + 1}},
		{"a kind far off", false, event{kind: 255, failures: 1}},
	} {
		c := wideConfig()
		c.Attempts = 3
		for _, log := range []string{
			calls(one, row.e),
			written(byCompact, []event{one, row.e}),
			written(byCompact, []event{one}) + calls(row.e),
		} {
			if err := opening(t, c, log); (err == nil) != row.good || err != nil && err != api.ErrLog {
				t.Errorf("P10: %s: Open(c, %q): %v", row.what, log, err)
			}
		}
	}
}

// What has ended stays what it is.
func TestOpenLetsNothingHappenToWhatHasEnded(t *testing.T) {
	c := wideConfig()
	one := taking(0, "a", "1", "")
	for _, end := range []event{{kind: wasAcked}, {kind: hasDied, failures: 2}} {
		if err := opening(t, c, calls(one, end)); err != nil {
			t.Errorf("P10: Open behind %+v: %v", end, err)
		}
		for _, next := range []event{{kind: wasAcked}, {kind: hasFailed, failures: 1}, {kind: hasDied, failures: 2}, {kind: hasDied}, one} {
			if err := opening(t, c, calls(one, end, next)); err != api.ErrLog {
				t.Errorf("P10: Open of %+v behind %+v: %v; want ErrLog", next, end, err)
			}
		}
	}
}

func TestOpenHoldsFailuresOfSeveralCallsTogether(t *testing.T) {
	c := wideConfig()
	c.Attempts = 3
	one, fails, dies := taking(0, "a", "1", ""), event{kind: hasFailed, failures: 1}, event{kind: hasDied, failures: 1}
	for _, row := range []struct {
		events []event
		want   error
	}{
		{[]event{one, fails, fails}, nil},
		{[]event{one, fails, fails, fails}, api.ErrLog},
		{[]event{one, fails, fails, dies}, nil},
		{[]event{one, fails, dies}, api.ErrLog},
		{[]event{one, dies}, api.ErrLog},
		{[]event{fails, one}, api.ErrLog},
	} {
		if err := opening(t, c, calls(row.events...)); err != row.want {
			t.Errorf("P10: Open of %+v: %v; want %v", row.events, err, row.want)
		}
	}
}

func TestOpenHoldsTheLogAgainstQuotaAndMaxIDs(t *testing.T) {
	c := wideConfig()
	c.Quota = 60
	full := append(many("a", 0, 60), many("b", 60, 60)...)
	ack := event{kind: wasAcked}
	for _, row := range []struct {
		what   string
		events []event
		want   error
	}{
		{"at the quota", many("a", 0, 60), nil},
		{"above the quota", many("a", 0, 61), api.ErrLog},
		{"another tenant above it", append(many("b", 100, 1), many("a", 0, 61)...), api.ErrLog},
		{"all ids", full, nil},
		{"one id too many", append(slices.Clone(full), ack, taking(0, "a", "new", "")), api.ErrLog},
		{"room by an ack", append(many("a", 0, 60), ack, taking(0, "a", "new", "")), nil},
	} {
		for _, log := range []string{calls(row.events...), written(byCompact, row.events)} {
			if err := opening(t, c, log); err != row.want {
				t.Errorf("P10: %s: Open(c, %.20q): %v; want %v", row.what, log, err, row.want)
			}
		}
	}
	// It counts what is pending at the end of a record, not within it.
	late := append(many("a", 0, 60), taking(0, "a", "new", ""), ack)
	if err := opening(t, c, written(byCompact, late)); err != nil {
		t.Errorf("P10: Open of what Compact wrote: %v; want nil", err)
	}
	if err := opening(t, c, calls(late...)); err != api.ErrLog {
		t.Errorf("P10: Open of an ack that is too late: %v; want ErrLog", err)
	}
}

func TestOpenOfRecordsThatAreNone(t *testing.T) {
	one, two := taking(0, "a", "1", "x"), taking(1, "b", "2", "y")
	first := calls(one)
	for _, row := range []struct {
		what, log string
		want      error
	}{
		{"nothing", "", nil},
		{"a call", first, nil},
		{"two calls", first + calls(two), nil},
		{"Compact and a call", written(byCompact, []event{one}) + calls(two), nil},
		{"Compact behind a call", first + written(byCompact, []event{two}), api.ErrLog},
		{"Compact twice", written(byCompact, []event{one}) + written(byCompact, []event{two}), api.ErrLog},
		{"no events", "+\x00\x00", api.ErrLog},
		{"no events of Compact", "=\x00\x00", api.ErrLog},
		{"no events behind a call", first + "+\x00\x00", api.ErrLog},
		{"another record", "x" + first[1:], api.ErrLog},
		{"another record behind a call", first + "x", api.ErrLog},
		{"a cut call", first + "+", nil},
		{"a cut Compact", "=", api.ErrLog},
		{"a cut Compact behind a call", first + "=", api.ErrLog},
		{"half an event", "+\x00\x02\x00\x00", api.ErrLog},
		{"an event and a half", "+\x00" + string(rune(len(first)-3+2)) + first[3:] + "\x01\x00", api.ErrLog},
		{"a text that is cut by its record", "+\x00\x05\x00\x00\x01a\x01", api.ErrLog},
		{"a text that lies behind its record", "+\x00\x05\x00\x00\x01a\x01" + "1\x00", api.ErrLog},
		{"a byte too many", "+\x00" + string(rune(len(first)-3+1)) + first[3:] + "\x00", api.ErrLog},
	} {
		if err := opening(t, wideConfig(), row.log); err != row.want {
			t.Errorf("P10: %s: Open(c, %q): %v; want %v", row.what, row.log, err, row.want)
		}
	}
}

// A record tells its length in two bytes: one is not enough for Compact.
func TestRecordsOfEachLength(t *testing.T) {
	for _, n := range []int{1, 2, 3, 100, 255, 256, 257, 1000} {
		var events []event
		for range n {
			events = append(events, event{kind: wasAcked, place: n % 120, failures: n % 11})
		}
		r := reader{rest: written(byCall, events) + "+"}
		by, told := r.record()
		if by != byCall || len(told) != 3*n || r.rest != "+" || r.short {
			t.Errorf("P10: a record of %d events: %d, %d bytes, and %q behind it", n, by, len(told), r.rest)
		}
		in := reader{rest: told}
		for i, want := range events {
			if got := in.event(); got != want || in.short {
				t.Fatalf("P10: event %d of %d is %+v; want %+v", i, n, got, want)
			}
		}
	}
}

func TestEventsComeOutAsTheyWentIn(t *testing.T) {
	long := strings.Repeat("\xff", 63)
	for _, want := range []event{
		taking(3, long[:16], long[:16], long),
		taking(0, "\x00", "+", ""),
		{kind: wasAcked, place: 119, failures: 9},
		{kind: hasFailed, place: 0, failures: 1},
		{kind: hasDied, place: 77, failures: 10},
	} {
		told := string(appendEvent(nil, want))
		r := reader{rest: told + "x"}
		if got := r.event(); got != want || r.rest != "x" || r.short {
			t.Errorf("P10: %+v came out as %+v, with %q behind it", want, got, r.rest)
		}
		for n := range len(told) {
			if r := (reader{rest: told[:n]}); !fallsShort(&r) {
				t.Errorf("P10: %d bytes of %q are an event", n, told)
			}
		}
	}
}

func fallsShort(r *reader) bool {
	r.event()
	return r.short && r.rest == ""
}

// An opened agent keeps nothing of the text that it was handed.
func TestOpenedAgentHasItsOwnTexts(t *testing.T) {
	for _, log := range []string{
		calls(taking(0, "a", "1", "body"), taking(1, "b", "2", "other")),
		written(byCompact, []event{taking(0, "a", "1", "body"), taking(1, "b", "2", "other")}),
	} {
		a, err := Open(wideConfig(), log)
		if err != nil {
			t.Fatalf("P10: Open(c, %q): %v", log, err)
		}
		texts := []string{a.log}
		for _, b := range a.taken {
			texts = append(texts, b.Tenant, b.ID, b.Body)
		}
		for key := range a.queues {
			texts = append(texts, key.tenant)
		}
		for _, text := range texts {
			if lies(text, log) {
				t.Errorf("P2: %q lies in the text that was handed in", text)
			}
		}
	}
}

// lies says whether a text lies in the memory of another one.
func lies(text, whole string) bool {
	start := uintptr(unsafe.Pointer(unsafe.StringData(text)))
	first := uintptr(unsafe.Pointer(unsafe.StringData(whole)))
	return first <= start && start < first+uintptr(len(whole))
}

// Behind Open all that does not last is as at first.
func TestOpenedAgentBeginsAnew(t *testing.T) {
	a := underWay(t)
	b, err := Open(wideConfig(), a.Log())
	if err != nil {
		t.Fatalf("P10: Open of a log: %v", err)
	}
	fresh := open(t, wideConfig())
	if b.now != 0 || !slices.Equal(b.names, fresh.names) || len(b.outlets) != len(fresh.outlets) {
		t.Errorf("P10: an opened agent is at %d, with the names %q", b.now, b.names)
	}
	for i, o := range b.outlets {
		if o.isBusy() || o.sends != 0 || o.tripped || o.results != 0 || o.failures != 0 || o.turn != 0 || !slices.Equal(o.credits, []int{0, 0}) {
			t.Errorf("P10: destination %d of an opened agent is %+v", i, o)
		}
	}
	if want := slices.Repeat([]retry{{0, 10}}, len(a.taken)); !slices.Equal(b.retries, want) {
		t.Errorf("P10: the pauses of an opened agent are %+v; want %+v", b.retries, want)
	}
	if !slices.Equal(b.taken, a.taken) || !slices.Equal(b.dead, a.dead) || b.log != a.log {
		t.Errorf("P10: an opened agent has %+v, %v; want %+v, %v", b.taken, b.dead, a.taken, a.dead)
	}
	for key, queue := range a.queues {
		if !slices.Equal(b.queues[key], queue) {
			t.Errorf("P10: the queue of %+v is %v; want %v", key, b.queues[key], queue)
		}
	}
}

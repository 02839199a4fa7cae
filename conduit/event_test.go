package conduit

import (
	"reflect"
	"slices"
	"strconv"
	"testing"

	"conduit/api"
)

func TestWhatEachKindOfEventDoes(t *testing.T) {
	l := newLasting()
	for i := range 4 {
		l.play(event{kind: wasTaken, batch: api.Batch{Destination: 1, Tenant: "a", ID: strconv.Itoa(i)}})
	}
	for _, row := range []struct {
		e     event
		want  api.Status
		queue []int
		dead  []int
	}{
		{event{kind: hasFailed, place: 0, failures: 1}, api.Status{State: api.Pending, Failed: 1}, []int{0, 1, 2, 3}, nil},
		{event{kind: hasFailed, place: 0, failures: 4}, api.Status{State: api.Pending, Failed: 5}, []int{0, 1, 2, 3}, nil},
		{event{kind: wasAcked, place: 1}, api.Status{State: api.Acked}, []int{0, 2, 3}, nil},
		{event{kind: hasDied, place: 2, failures: 1}, api.Status{State: api.Dead, Failed: 1}, []int{0, 3}, []int{2}},
		{event{kind: hasDied, place: 0, failures: 2}, api.Status{State: api.Dead, Failed: 7}, []int{3}, []int{2, 0}},
		{event{kind: wasAcked, place: 3, failures: 9}, api.Status{State: api.Acked, Failed: 9}, []int{}, []int{2, 0}},
	} {
		l.play(row.e)
		if got := l.taken[row.e.place].Status; got != row.want {
			t.Errorf("behind %+v the batch is %+v; want %+v", row.e, got, row.want)
		}
		if queue := l.queues[lane{1, "a"}]; !slices.Equal(queue, row.queue) || !slices.Equal(l.dead, row.dead) {
			t.Errorf("behind %+v the queue is %v and the dead are %v; want %v, %v", row.e, queue, l.dead, row.queue, row.dead)
		}
	}
}

// underWay has a send to destination 0 under way, a batch in its pause at
// destination 1, and a breaker that is open at destination 2.
func underWay(t *testing.T) *Agent {
	t.Helper()
	a := open(t, wideConfig())
	for i, d := range []int{0, 0, 1, 2, 2} {
		submit(t, a, api.Batch{Destination: d, Tenant: []string{"a", "b"}[i%2], ID: strconv.Itoa(i)}, nil)
	}
	for range 2 {
		a.Tick(0, 0)
		a.Reply(2, a.outlets[2].sends, false, 0)
	}
	a.Reply(1, 1, false, 7)
	if !a.outlets[0].isBusy() || a.outlets[1].isBusy() || !a.outlets[2].isOpen(a.now) {
		t.Fatalf("the destinations are %+v", a.outlets)
	}
	return a
}

func TestErrorsOfTickAndReplyChangeNothing(t *testing.T) {
	a := underWay(t)
	was := kept(a)
	for _, row := range [][2]int{{-1, 0}, {60001, 0}, {60000, -1}, {50, -1}} {
		if sends, err := a.Tick(row[0], row[1]); sends != nil || err != api.ErrRange {
			t.Errorf("P5: Tick(%d, %d) = %v, %v; want nil, ErrRange", row[0], row[1], sends, err)
		}
	}
	for _, row := range []struct {
		d, try, draw int
		want         error
	}{
		{-1, 1, 0, api.ErrDestination},
		{4, 1, 0, api.ErrDestination},
		{0, 1, -1, api.ErrRange},
		{0, 0, 0, api.ErrStale},
		{0, 2, 0, api.ErrStale},
		{1, 1, 0, api.ErrStale},
		{2, 2, 0, api.ErrStale},
		{3, 0, 0, api.ErrStale},
	} {
		for _, good := range []bool{true, false} {
			if err := a.Reply(row.d, row.try, good, row.draw); err != row.want {
				t.Errorf("P6: Reply(%d, %d, %t, %d) = %v; want %v", row.d, row.try, good, row.draw, err, row.want)
			}
		}
	}
	if is := kept(a); !reflect.DeepEqual(is, was) {
		t.Errorf("P1: beside errors the agent became %v; it was %v", is, was)
	}
}

// If no tenant may go anywhere, a Tick of 0 does nothing at all.
func TestIdleTickChangesNothing(t *testing.T) {
	for _, a := range []*Agent{underWay(t), open(t, wideConfig())} {
		was := kept(a)
		for range 5 {
			if sends, err := a.Tick(0, 1); len(sends) != 0 || err != nil {
				t.Errorf("P5: Tick(0, 1) = %v, %v; want nothing, nil", sends, err)
			}
		}
		if is := kept(a); !reflect.DeepEqual(is, was) {
			t.Errorf("P8: idle Ticks made %v of %v", is, was)
		}
	}
}

// The quanta are those at Open, whatever their owner does with the map then.
func TestCreditsGrowByTheQuantaAtOpen(t *testing.T) {
	c := wideConfig()
	a := open(t, c)
	c.Quanta["a"] = 1
	delete(c.Quanta, "b")
	submit(t, a, api.Batch{Tenant: "b", ID: "1"}, nil)
	a.Tick(0, 0)
	if want := []int{0, 999}; !slices.Equal(a.outlets[0].credits, want) {
		t.Errorf("P2: the credits are %v; want %v", a.outlets[0].credits, want)
	}
}

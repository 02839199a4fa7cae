package conduit

import (
	"maps"
	"math"
	"slices"
	"testing"

	"conduit/api"
)

func wideConfig() api.Config {
	return api.Config{
		Destinations: 4,
		Quanta:       map[string]int{"a": 64, "b": 1000},
		Quota:        9,
		Attempts:     2,
		Base:         10,
		Cap:          100,
		Timeout:      50,
		Window:       4,
		Least:        2,
		Threshold:    0.75,
		Open:         200,
	}
}

func open(t *testing.T, c api.Config) *Agent {
	t.Helper()
	a, err := Open(c, "")
	if a == nil || err != nil {
		t.Fatalf("P3: Open(%+v) = agent %t, %v; want an agent, nil", c, a != nil, err)
	}
	return a
}

func TestNewAgentHasTakenNothing(t *testing.T) {
	a := open(t, wideConfig())
	if len(a.taken) != 0 || len(a.queues) != 0 {
		t.Errorf("P3: a new agent has taken %v, with the queues %v", a.taken, a.queues)
	}
	if a.now != 0 {
		t.Errorf("P3: a new agent is at the time %d", a.now)
	}
	if len(a.outlets) != 4 {
		t.Errorf("P3: a new agent has %d destinations; want 4", len(a.outlets))
	}
	for i, o := range a.outlets {
		if o.isBusy() || o.sends != 0 || o.tripped || o.results != 0 || o.failures != 0 || o.turn != 0 || !slices.Equal(o.credits, []int{0, 0}) {
			t.Errorf("P3: destination %d of a new agent is %+v", i, o)
		}
	}
}

func TestNamesStandByTheirBytes(t *testing.T) {
	want := []string{"\x00", "B", "a", "a\x00", "aa", "b", "\u00e9", "\xff"}
	for range 20 {
		c := wideConfig()
		c.Quanta = make(map[string]int)
		for _, name := range want {
			c.Quanta[name] = 64
		}
		if got := open(t, c).names; !slices.Equal(got, want) {
			t.Fatalf("P8: the names stand as %q; want %q", got, want)
		}
	}
}

func TestAgentDoesNotKeepTheMap(t *testing.T) {
	c := wideConfig()
	want := maps.Clone(c.Quanta)
	a := open(t, c)
	c.Quanta["a"] = -1
	c.Quanta["new"] = 64
	delete(c.Quanta, "b")
	if !maps.Equal(a.config.Quanta, want) {
		t.Errorf("P2: the owner's changes reached the agent: %v, want %v", a.config.Quanta, want)
	}
}

func TestAgentsOfOneMapDoNotTouch(t *testing.T) {
	c := wideConfig()
	a, b := open(t, c), open(t, c)
	a.config.Quanta["a"] = 65
	a.queues[lane{0, "a"}] = []int{0}
	if b.config.Quanta["a"] != 64 || c.Quanta["a"] != 64 || len(b.queues) != 0 {
		t.Errorf("P2: what one agent did reached another one: %v, %v", b.config.Quanta, b.queues)
	}
}

func TestBreakerThinksOfTheQuotient(t *testing.T) {
	for _, row := range []struct {
		threshold         float64
		failures, divisor int
		want              bool
	}{
		{0.75, 3, 4, true},
		{0.75, 2, 3, false},
		{0.75, 1, 1, true},
		{1, 64, 64, true},
		{1, 63, 64, false},
		{1.0 / 3, 1, 3, true},
		{math.Nextafter(1.0/3, 1), 1, 3, false},
		{0.1, 6, 60, true},
		{math.SmallestNonzeroFloat64, 0, 64, false},
		{math.SmallestNonzeroFloat64, 1, 64, true},
	} {
		c := wideConfig()
		c.Threshold = row.threshold
		for i, o := range open(t, c).outlets {
			if got := o.tooMany(float64(row.failures) / float64(row.divisor)); got != row.want {
				t.Errorf("P7: breaker %d of the threshold %v thinks %t of %d / %d", i, row.threshold, got, row.failures, row.divisor)
			}
		}
	}
}

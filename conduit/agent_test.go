package conduit

import (
	"maps"
	"testing"

	"conduit/api"
)

func wideConfig() api.Config {
	return api.Config{
		Destinations: 4,
		Quanta:       map[string]int{"a": 64, "b": 1000},
		Quota:        9,
		Attempts:     2,
		Base:         10,
		Cap:          100,
		Timeout:      50,
		Window:       4,
		Least:        2,
		Threshold:    0.75,
		Open:         200,
	}
}

func open(t *testing.T, c api.Config) *Agent {
	t.Helper()
	a, err := Open(c, "")
	if a == nil || err != nil {
		t.Fatalf("P3: Open(%+v) = agent %t, %v; want an agent, nil", c, a != nil, err)
	}
	return a
}

func TestNewAgentHasTakenNothing(t *testing.T) {
	a := open(t, wideConfig())
	if len(a.taken) != 0 || len(a.queues) != 0 {
		t.Errorf("P3: a new agent has taken %v, with the queues %v", a.taken, a.queues)
	}
	if a.now != 0 {
		t.Errorf("P3: a new agent is at the time %d", a.now)
	}
	if len(a.breakers) != 4 {
		t.Errorf("P3: a new agent of 4 destinations has %d breakers", len(a.breakers))
	}
}

func TestAgentDoesNotKeepTheMap(t *testing.T) {
	c := wideConfig()
	want := maps.Clone(c.Quanta)
	a := open(t, c)
	c.Quanta["a"] = -1
	c.Quanta["new"] = 64
	delete(c.Quanta, "b")
	if !maps.Equal(a.config.Quanta, want) {
		t.Errorf("P2: the owner's changes reached the agent: %v, want %v", a.config.Quanta, want)
	}
}

func TestAgentsOfOneMapDoNotTouch(t *testing.T) {
	c := wideConfig()
	a, b := open(t, c), open(t, c)
	a.config.Quanta["a"] = 65
	a.queues[lane{0, "a"}] = []int{0}
	if b.config.Quanta["a"] != 64 || c.Quanta["a"] != 64 || len(b.queues) != 0 {
		t.Errorf("P2: what one agent did reached another one: %v, %v", b.config.Quanta, b.queues)
	}
}

func TestBreakerThinksOfTheQuotient(t *testing.T) {
	for _, row := range []struct {
		threshold                float64
		least, failures, results int
		want                     bool
	}{
		{0.75, 2, 1, 1, false},
		{0.75, 2, 2, 2, true},
		{0.75, 2, 1, 2, false},
		{0.75, 2, 2, 3, false},
		{0.75, 2, 3, 4, true},
		{1, 1, 1, 1, true},
		{1, 1, 63, 64, false},
		{1.0 / 3, 1, 1, 3, true},
		{5e-324, 1, 0, 64, false},
		{5e-324, 1, 1, 64, true},
		{0.5, 1, 0, 0, false},
	} {
		c := wideConfig()
		c.Window, c.Least, c.Threshold = 64, row.least, row.threshold
		for i, b := range open(t, c).breakers {
			if got := b.trips(row.failures, row.results); got != row.want {
				t.Errorf("breaker %d of Least %d, Threshold %v: trips(%d, %d) = %t", i, row.least, row.threshold, row.failures, row.results, got)
			}
		}
	}
}

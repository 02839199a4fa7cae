package conduit_test

import (
	"maps"
	"math"
	"strings"
	"testing"

	"conduit/api"
	"conduit/conduit"
)

// example is the configuration of the document's examples.
func example() api.Config {
	return api.Config{
		Destinations: 1,
		Quanta:       map[string]int{"a": 64, "b": 64},
		Quota:        9,
		Attempts:     2,
		Base:         10,
		Cap:          100,
		Timeout:      50,
		Window:       4,
		Least:        2,
		Threshold:    0.75,
		Open:         200,
	}
}

func expectOpens(t *testing.T, c api.Config) {
	t.Helper()
	if a, err := conduit.Open(c, ""); a == nil || err != nil {
		t.Errorf("P3: Open(%+v) = agent %t, %v; want an agent, nil", c, a != nil, err)
	}
}

func expectErrConfig(t *testing.T, c api.Config) {
	t.Helper()
	if a, err := conduit.Open(c, ""); a != nil || err != api.ErrConfig {
		t.Errorf("P3: Open(%+v) = agent %t, %v; want nil, ErrConfig", c, a != nil, err)
	}
}

// tenants makes n tenants with names of one byte.
func tenants(n int) map[string]int {
	quanta := make(map[string]int)
	for i := range n {
		quanta[string([]byte{byte('a' + i)})] = 100
	}
	return quanta
}

func TestOpenOfOrdinaryConfigurations(t *testing.T) {
	expectOpens(t, example())
	expectOpens(t, api.Config{
		Destinations: 3, Quanta: map[string]int{"north": 200, "south": 900, "west": 64},
		Quota: 40, Attempts: 5, Base: 250, Cap: 30000, Timeout: 5000,
		Window: 20, Least: 10, Threshold: 0.5, Open: 10000,
	})
	expectOpens(t, api.Config{
		Destinations: 1, Quanta: map[string]int{"x": 64},
		Quota: 1, Attempts: 1, Base: 1, Cap: 1, Timeout: 1,
		Window: 1, Least: 1, Threshold: math.SmallestNonzeroFloat64, Open: 1,
	})
	quanta := make(map[string]int)
	for name := range tenants(8) {
		quanta[strings.Repeat(name, 16)] = 1000
	}
	expectOpens(t, api.Config{
		Destinations: 4, Quanta: quanta,
		Quota: 120, Attempts: 10, Base: 60000, Cap: 60000, Timeout: 60000,
		Window: 64, Least: 64, Threshold: 1, Open: 60000,
	})
}

// Each number is tried at both of its bounds, just outside of them, and far
// outside of them. The numbers around it are so wide that it alone decides.
func TestOpenAtTheBoundsOfEachNumber(t *testing.T) {
	for _, row := range []struct {
		name        string
		field       func(c *api.Config) *int
		least, most int
	}{
		{"Destinations", func(c *api.Config) *int { return &c.Destinations }, 1, 4},
		{"Quota", func(c *api.Config) *int { return &c.Quota }, 1, 120},
		{"Attempts", func(c *api.Config) *int { return &c.Attempts }, 1, 10},
		{"Base", func(c *api.Config) *int { return &c.Base }, 1, 60000},
		{"Timeout", func(c *api.Config) *int { return &c.Timeout }, 1, 60000},
		{"Open", func(c *api.Config) *int { return &c.Open }, 1, 60000},
		{"Least", func(c *api.Config) *int { return &c.Least }, 1, 64},
		{"Cap", func(c *api.Config) *int { return &c.Cap }, 1, 60000},
		{"Window", func(c *api.Config) *int { return &c.Window }, 1, 64},
	} {
		t.Run(row.name, func(t *testing.T) {
			with := func(value int) api.Config {
				c := example()
				c.Cap, c.Window = 60000, 64
				c.Base, c.Least = 1, 1
				*row.field(&c) = value
				return c
			}
			for _, value := range []int{row.least, row.least + 1, row.most - 1, row.most} {
				expectOpens(t, with(value))
			}
			for _, value := range []int{row.least - 1, -1, math.MinInt, row.most + 1, math.MaxInt} {
				expectErrConfig(t, with(value))
			}
		})
	}
}

func TestOpenHoldsBaseAgainstCap(t *testing.T) {
	for _, row := range []struct {
		base, cap int
		good      bool
	}{
		{99, 100, true}, {100, 100, true}, {101, 100, false}, {1, 1, true}, {2, 1, false},
		{60000, 60000, true}, {60000, 59999, false}, {60001, 60001, false}, {0, 0, false}, {-1, -1, false},
	} {
		c := example()
		c.Base, c.Cap = row.base, row.cap
		if row.good {
			expectOpens(t, c)
		} else {
			expectErrConfig(t, c)
		}
	}
}

func TestOpenHoldsLeastAgainstWindow(t *testing.T) {
	for _, row := range []struct {
		least, window int
		good          bool
	}{
		{3, 4, true}, {4, 4, true}, {5, 4, false}, {1, 1, true}, {2, 1, false},
		{64, 64, true}, {64, 63, false}, {65, 65, false}, {0, 0, false}, {-1, -1, false},
	} {
		c := example()
		c.Least, c.Window = row.least, row.window
		if row.good {
			expectOpens(t, c)
		} else {
			expectErrConfig(t, c)
		}
	}
}

func TestOpenAtTheBoundsOfThreshold(t *testing.T) {
	for _, threshold := range []float64{math.SmallestNonzeroFloat64, 0.5, math.Nextafter(1, 0), 1} {
		c := example()
		c.Threshold = threshold
		expectOpens(t, c)
	}
	for _, threshold := range []float64{
		0, math.Copysign(0, -1), -math.SmallestNonzeroFloat64, -0.5, -1, math.Nextafter(1, 2), 2, math.MaxFloat64,
		math.Inf(1), math.Inf(-1), math.NaN(), math.Copysign(math.NaN(), -1),
	} {
		c := example()
		c.Threshold = threshold
		expectErrConfig(t, c)
	}
}

func TestOpenAtTheBoundsOfTenants(t *testing.T) {
	for n := 1; n <= 8; n++ {
		c := example()
		c.Quanta = tenants(n)
		expectOpens(t, c)
	}
	for _, quanta := range []map[string]int{nil, {}, tenants(9), tenants(200)} {
		c := example()
		c.Quanta = quanta
		expectErrConfig(t, c)
	}
}

// A wrong tenant is tried alone and among right ones, many times, since the
// order in which a map is gone through must not decide.
func TestOpenAtTheBoundsOfNamesAndQuanta(t *testing.T) {
	for _, row := range []struct {
		name    string
		quantum int
		good    bool
	}{
		{"", 64, false},
		{"z", 64, true},
		{strings.Repeat("z", 15), 64, true},
		{strings.Repeat("z", 16), 64, true},
		{strings.Repeat("z", 17), 64, false},
		{strings.Repeat("z", 100000), 64, false},
		{"\x00", 64, true},
		{"\xff\xfe", 64, true},
		{strings.Repeat("\u00e9", 8), 64, true},
		{strings.Repeat("\u00e9", 9), 64, false},
		{"z", 65, true},
		{"z", 999, true},
		{"z", 1000, true},
		{"z", 1001, false},
		{"z", 63, false},
		{"z", 0, false},
		{"z", -64, false},
		{"z", math.MinInt, false},
		{"z", math.MaxInt, false},
	} {
		for others := range 8 {
			for range 5 {
				c := example()
				c.Quanta = tenants(others)
				c.Quanta[row.name] = row.quantum
				if row.good {
					expectOpens(t, c)
				} else {
					expectErrConfig(t, c)
				}
			}
		}
	}
}

func TestOpenNamesErrConfigAheadOfTheLog(t *testing.T) {
	for _, log := range []string{"x", "\x00", strings.Repeat("no log", 1000)} {
		if a, err := conduit.Open(api.Config{}, log); a != nil || err != api.ErrConfig {
			t.Errorf("P3: Open({}, %.10q) = agent %t, %v; want nil, ErrConfig", log, a != nil, err)
		}
	}
}

func TestOpenOfOtherTexts(t *testing.T) {
	for _, log := range []string{"x", "\x00", "\xff", " ", "\n", strings.Repeat("no log", 1000)} {
		a, err := conduit.Open(example(), log)
		if (a == nil) != (err == api.ErrLog) || a != nil && err != nil {
			t.Errorf("P10: Open(c, %.10q) = agent %t, %v; want nil, ErrLog or an agent, nil", log, a != nil, err)
		}
	}
}

func TestOpenOfItsOwnLog(t *testing.T) {
	a, _ := conduit.Open(example(), "")
	if b, err := conduit.Open(example(), a.Log()); b == nil || err != nil {
		t.Errorf("P10: Open of a new agent's log = agent %t, %v; want an agent, nil", b != nil, err)
	}
}

func TestOpenLeavesTheMapAsItWas(t *testing.T) {
	for _, quanta := range []map[string]int{nil, {}, {"a": 64}, {"": 64, "b": 7}, tenants(8), tenants(9)} {
		c := example()
		c.Quanta = quanta
		was := maps.Clone(quanta)
		conduit.Open(c, "")
		if (quanta == nil) != (was == nil) || !maps.Equal(quanta, was) {
			t.Errorf("P2: Open left %v of the map %v", quanta, was)
		}
	}
}

func TestOpenHangsOnItsArgumentsAlone(t *testing.T) {
	c := example()
	first, _ := conduit.Open(c, "")
	clear(c.Quanta)
	expectErrConfig(t, c)
	c.Quanta["z"] = 64
	second, err := conduit.Open(c, "")
	if second == nil || err != nil || first == second {
		t.Errorf("P2: a second Open = agent %t (the first one: %t), %v", second != nil, first == second, err)
	}
}

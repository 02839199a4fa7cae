package conduit

import "conduit/api"

// bounded is a number together with the bounds that it has to keep.
type bounded struct {
	value, least, most int
}

func (b bounded) holds() bool {
	return b.least <= b.value && b.value <= b.most
}

// isConfig says whether c is a configuration (DOC.md, 'Words').
func isConfig(c api.Config) bool {
	return areNumbers(c) && areQuanta(c.Quanta) && isThreshold(c.Threshold)
}

func areNumbers(c api.Config) bool {
	for _, b := range []bounded{
		{c.Destinations, 1, api.MaxDestinations},
		{c.Quota, 1, api.MaxIDs},
		{c.Attempts, 1, api.MaxAttempts},
		{c.Cap, 1, api.MaxTime},
		{c.Base, 1, c.Cap},
		{c.Timeout, 1, api.MaxTime},
		{c.Open, 1, api.MaxTime},
		{c.Window, 1, api.MaxWindow},
		{c.Least, 1, c.Window},
	} {
		if !b.holds() {
			return false
		}
	}
	return true
}

func areQuanta(quanta map[string]int) bool {
	tenants := bounded{len(quanta), 1, api.MaxTenants}
	if !tenants.holds() {
		return false
	}
	for name, quantum := range quanta {
		length := bounded{len(name), 1, api.MaxName}
		share := bounded{quantum, api.LeastQuantum, api.MaxQuantum}
		if !length.holds() || !share.holds() {
			return false
		}
	}
	return true
}

// isThreshold asks for what has to hold, not for what must not: every
// comparison with what is no number is false.
func isThreshold(t float64) bool {
	return t > 0 && t <= 1
}

package conduit

import "conduit/api"

// breaker watches the results of the sends to one destination.
type breaker struct {
	// trips says whether so many failures among so many results are too many.
	trips func(failures, results int) bool
}

func newBreakers(c api.Config) []breaker {
	all := make([]breaker, c.Destinations)
	for i := range all {
		all[i].trips = judge(c.Least, c.Threshold)
	}
	return all
}

// judge makes what a breaker thinks of its results. Least is asked first, so
// nothing is divided by 0.
func judge(least int, threshold float64) func(failures, results int) bool {
	return func(failures, results int) bool {
		return results >= least && float64(failures)/float64(results) >= threshold
	}
}

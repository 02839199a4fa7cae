package conduit

import "conduit/api"

// none is the place of what there is not.
const none = -1

// outlet is what an agent knows of one destination. It does not last.
type outlet struct {
	breaker
	rota
	sends   int // since Open
	sending int // the place in taken of what is under way, or none
	began   int // when that send began
}

func newOutlets(c api.Config) []outlet {
	all := make([]outlet, c.Destinations)
	for i := range all {
		all[i] = outlet{
			breaker: newBreaker(c),
			rota:    rota{credits: make([]int, len(c.Quanta))},
			sending: none,
		}
	}
	return all
}

func (o *outlet) isBusy() bool {
	return o.sending != none
}

// isUnderWay says whether the send under way is the one with this Try.
func (o *outlet) isUnderWay(try int) bool {
	return o.isBusy() && o.sends == try
}

func (o *outlet) begin(place, now int) {
	o.sends++
	o.sending, o.began = place, now
}

// finish tells what was under way.
func (o *outlet) finish() int {
	place := o.sending
	o.sending = none
	return place
}

package conduit

// rota says whose turn it is at one destination (P8). Tenants go by their place
// among the names.
type rota struct {
	turn    int
	credits []int // of each tenant
}

// pick names the tenant whose batch goes now, or none. Of each tenant, sizes
// has the size of the batch that may go, and 0 if it may not go: no size is 0.
// It ends within one round, as no quantum is below the greatest size.
func (r *rota) pick(sizes, quanta []int) int {
	if !hasAny(sizes) {
		return none
	}
	for !r.allows(sizes[r.turn]) {
		r.pass(sizes[r.turn], quanta)
	}
	r.credits[r.turn] -= sizes[r.turn]
	return r.turn
}

func hasAny(sizes []int) bool {
	for _, size := range sizes {
		if size > 0 {
			return true
		}
	}
	return false
}

// allows says whether the tenant whose turn it is may go and can pay for it.
func (r *rota) allows(size int) bool {
	return size > 0 && r.credits[r.turn] >= size
}

// pass gives the turn to the next tenant. Only who may go keeps the credit.
func (r *rota) pass(size int, quanta []int) {
	if size == 0 {
		r.credits[r.turn] = 0
	}
	r.turn = (r.turn + 1) % len(r.credits)
	r.credits[r.turn] += quanta[r.turn]
}

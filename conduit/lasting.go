package conduit

import "conduit/api"

// lane is where a batch goes and whose it is: each lane has a queue.
type lane struct {
	destination int
	tenant      string
}

// batch is what was taken, and what has become of it.
type batch struct {
	api.Batch
	api.Status
}

// lasting is what outlives a crash, apart from what an agent begins anew.
type lasting struct {
	taken  []batch        // in the order in which they were taken
	queues map[lane][]int // places in taken of what is pending, the head first
}

func newLasting() lasting {
	return lasting{queues: make(map[lane][]int)}
}

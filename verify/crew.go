package verify

import (
	"sync"

	"keystone/api"
)

// dealt tells why each method is refused, if it is, found by so many goroutines: each is dealt methods on a channel of its own, and writes down what it finds of those alone.
func dealt(l []site, crew int) []api.Errno {
	told := make([]api.Errno, len(l))
	hands := make([]chan int, crew)
	var all sync.WaitGroup
	for c := range hands {
		// With room for all that comes nobody waits till one that has much to do is ready.
		hand := make(chan int, len(l)/crew+1)
		hands[c] = hand
		all.Add(1)
		go func() {
			defer all.Done()
			for n := range hand {
				told[n] = l[n].wrong()
			}
		}()
	}
	for n := range l {
		hands[n%crew] <- n
	}
	for _, hand := range hands {
		close(hand)
	}
	all.Wait()
	return told
}

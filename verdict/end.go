package verdict

import (
	"slices"

	"scarab/api"
	"scarab/step"
)

// ended is what a run's last state shows: who failed; and, if nothing goes on, who is left behind.
func ended(p api.Prog, s api.State) []api.Found {
	var l []api.Found
	for _, it := range s.Gos {
		if it.Status == api.GoFailed {
			l = append(l, failure(it))
		}
	}
	return append(l, stuck(p, s)...)
}

// failure is what a goroutine that failed shows.
func failure(it api.Go) api.Found {
	if it.Why == api.WhyAssert {
		return api.Found{Kind: api.KindAssert, A: place(it)}
	}
	return api.Found{Kind: api.KindFault, A: place(it), Why: it.Why}
}

// stuck is what a state shows in which nothing can go on: a deadlock, if main is live, else those that it left behind.
func stuck(p api.Prog, s api.State) []api.Found {
	// one that is spun might go on with more fuel: nobody can say then that the others wait in vain.
	ready, _ := step.Ready(p, s)
	if len(ready) > 0 || slices.ContainsFunc(s.Gos[:], spun) {
		return nil
	}
	if live(s.Gos[0]) {
		return []api.Found{{Kind: api.KindDeadlock, A: place(s.Gos[0])}}
	}
	var l []api.Found
	for _, it := range s.Gos {
		if live(it) {
			l = append(l, api.Found{Kind: api.KindLeak, A: place(it)})
		}
	}
	return l
}

// live tells whether a goroutine has not ended.
func live(it api.Go) bool { return it.Status == api.GoLive || it.Status == api.GoWait }

// spun tells whether a goroutine's fuel ended.
func spun(it api.Go) bool { return it.Status == api.GoSpun }

// place is where a goroutine stands.
func place(it api.Go) api.Spot { return api.Spot{Func: it.Func, PC: it.PC} }

package linear

import "scarab/api"

// places is a set of places of a history's operations.
type places [MaxCalls]bool

// has tells whether all members of another set are members.
func (s places) has(other places) bool {
	for i, is := range other {
		if is && !s[i] {
			return false
		}
	}
	return true
}

// lasting are the places of the operations that are not pending.
func lasting(h []api.Call) places {
	var s places
	for i, x := range h {
		s[i] = !pending(x)
	}
	return s
}

// isOrder tells whether a list is an order of a history.
func isOrder(h []api.Call, order []int) bool {
	var seen places
	for _, i := range order {
		if i < 0 || i >= len(h) || seen[i] {
			return false
		}
		seen[i] = true
	}
	return seen.has(lasting(h))
}

// keeps tells whether no two operations stand in an order the other way round than a relation asks for.
func keeps(h []api.Call, order []int, ahead func(x, y api.Call) bool) bool {
	for n, i := range order {
		for _, j := range order[:n] {
			if ahead(h[i], h[j]) {
				return false
			}
		}
	}
	return true
}

// tried is where a search was: what may come behind hangs on that alone.
type tried struct {
	done places
	in   content
}

// search looks for the first order of a history that fits.
type search struct {
	thing thing
	calls []api.Call
	must  places           // what has to be done
	ahead [MaxCalls]places // what has to be done ahead of each
	tried map[tried]struct{}
	order []int
}

// find is the first order of a history that fits and keeps a relation, and whether there is one. What the relation puts
// ahead of another operation is not pending: so it is in every order.
func find(kind int, h []api.Call, ahead func(x, y api.Call) bool) ([]int, bool, api.Errno) {
	k, e := look(kind, h)
	if e != api.OK {
		return nil, false, e
	}
	s := search{thing: k, calls: h, must: lasting(h), tried: map[tried]struct{}{}}
	for i, x := range h {
		for j, y := range h {
			s.ahead[i][j] = ahead(y, x)
		}
	}
	if !s.goOn(places{}, k.first) {
		return nil, false, api.OK
	}
	return s.order, true, api.OK
}

// goOn tells whether what is done can be made an order that fits, and makes it: the first such one, since an order ends as
// soon as it may, and its next place is the least that leads to one.
func (s *search) goOn(done places, in content) bool {
	if done.has(s.must) {
		return true
	}
	here := tried{done, in}
	if _, was := s.tried[here]; was {
		return false
	}
	s.tried[here] = struct{}{}
	for i, x := range s.calls {
		if done[i] || !done.has(s.ahead[i]) {
			continue
		}
		then, fits := s.thing.done(in, x)
		if !fits {
			continue
		}
		next := done
		next[i] = true
		s.order = append(s.order, i)
		if s.goOn(next, then) {
			return true
		}
		s.order = s.order[:len(s.order)-1]
	}
	return false
}

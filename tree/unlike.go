package tree

// unlike are things, each once, in the order in which they came first.
type unlike[T comparable] struct {
	list []T
	seen map[T]struct{}
}

// add puts a thing behind the others, unless it is among them.
func (u *unlike[T]) add(x T) {
	if _, there := u.seen[x]; there {
		return
	}
	if u.seen == nil {
		u.seen = map[T]struct{}{}
	}
	u.seen[x] = struct{}{}
	u.list = append(u.list, x)
}

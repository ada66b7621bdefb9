package step

import (
	"cmp"
	"slices"

	"scarab/api"
)

// touched is what the goroutine's next step touches, by kind, then by number, each object once.
func (t *turn) touched() []api.Access {
	l := append(t.others(), written(api.ObGo, t.g))
	// a written one ahead of a read one of the same object: it is the one that stays.
	slices.SortFunc(l, func(a, b api.Access) int {
		return cmp.Or(cmp.Compare(a.Kind, b.Kind), cmp.Compare(a.Num, b.Num), cmp.Compare(rank(a), rank(b)))
	})
	return slices.CompactFunc(l, func(a, b api.Access) bool { return a.Kind == b.Kind && a.Num == b.Num })
}

// rank is 0 of what is written, 1 of what is read.
func rank(a api.Access) int {
	if a.Write {
		return 0
	}
	return 1
}

// written is an object that is written.
func written(kind, num int) api.Access { return api.Access{Kind: kind, Num: num, Write: true} }

// read is an object that is read.
func read(kind, num int) api.Access { return api.Access{Kind: kind, Num: num} }

// others are the accesses of the goroutine's next step beside the one to itself.
func (t *turn) others() []api.Access {
	in := t.in
	switch t.op {
	case api.OpLoad:
		return []api.Access{read(api.ObVar, in.B)}
	case api.OpAwait:
		return []api.Access{read(api.ObVar, in.A)}
	case api.OpStore:
		return []api.Access{written(api.ObVar, in.A)}
	case api.OpBump, api.OpCas:
		return []api.Access{written(api.ObVar, in.B)}
	case api.OpLock, api.OpUnlock:
		return []api.Access{written(api.ObLock, in.A)}
	case api.OpTry:
		return []api.Access{written(api.ObLock, in.B)}
	case api.OpSend, api.OpClose, api.OpTaken:
		return []api.Access{written(api.ObChan, in.A)}
	case api.OpRecv:
		return []api.Access{written(api.ObChan, in.B)}
	case api.OpNote:
		return []api.Access{written(api.ObNotes, 0)}
	case api.OpSelect:
		return t.channels()
	case api.OpSpawn:
		l := []api.Access{written(api.ObGos, 0)}
		if t.s.Count < api.MaxGos {
			l = append(l, written(api.ObGo, t.s.Count))
		}
		return l
	case api.OpJoin:
		l := []api.Access{read(api.ObGos, 0)}
		if k, there := t.joined(); there {
			l = append(l, read(api.ObGo, k))
		}
		return l
	}
	return nil
}

// channels are those of all cases of a select, written.
func (t *turn) channels() []api.Access {
	var l []api.Access
	for _, c := range t.choice().Cases {
		l = append(l, written(api.ObChan, c.Chan))
	}
	return l
}

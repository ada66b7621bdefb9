package verdict

import (
	"slices"

	"scarab/api"
)

// report gathers findings: of each thing that is found the one that came first.
type report struct {
	list []api.Finding
	seen map[api.Found]struct{}
}

// add puts things that were found behind the others, but for those that are there, each with picks in memory of its own.
func (r *report) add(picks []api.Pick, found ...api.Found) {
	if r.seen == nil {
		r.seen = map[api.Found]struct{}{}
	}
	for _, f := range found {
		if _, there := r.seen[f]; there {
			continue
		}
		r.seen[f] = struct{}{}
		r.list = append(r.list, api.Finding{Found: f, Picks: slices.Clone(picks)})
	}
}

// sorted are the findings, in the order of what was found: no two of them are the same there.
func (r *report) sorted() []api.Finding {
	slices.SortFunc(r.list, func(a, b api.Finding) int { return Compare(a.Found, b.Found) })
	return r.list
}

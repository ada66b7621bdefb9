package desk

import (
	"testing"

	"scarab/api"
)

// 28.1: of a report's findings the first 4096. (A program that has more of them takes too long to be gone through here.)
func TestFirst(t *testing.T) {
	var l []api.Finding
	for n := range 5000 {
		l = append(l, api.Finding{Found: api.Found{Kind: api.KindRace, Num: n}})
	}
	for _, n := range []int{0, 1, 4095, 4096, 4097, 5000} {
		some := first(l[:n])
		if len(some) != min(n, 4096) {
			t.Errorf("of %d findings %d", n, len(some))
		}
		for i, f := range some {
			if f.Found.Num != i {
				t.Fatalf("of %d findings %v at %d", n, f, i)
			}
		}
	}
}

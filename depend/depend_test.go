package depend_test

import (
	"maps"
	"math"
	"slices"
	"testing"

	"scarab/api"
	"scarab/depend"
	"scarab/sample"
)

// clash asks whether two lists clash, either way round.
func clash(t *testing.T, a, b []api.Access, want bool) {
	t.Helper()
	if depend.Clash(a, b) != want || depend.Clash(b, a) != want {
		t.Errorf("%v and %v: not %v", a, b, want)
	}
}

// 10.1: the chapter's example 1, and other accesses, of any kind.
func TestClash(t *testing.T) {
	list := func(l ...api.Access) []api.Access { return l }
	clash(t, list(r(1, 0)), list(r(1, 0)), false)
	clash(t, list(r(1, 0)), list(w(1, 0)), true)
	clash(t, list(w(1, 0)), list(w(1, 0)), true)
	clash(t, list(w(1, 0)), list(w(2, 0)), false)
	clash(t, list(w(1, 0)), list(w(1, 1)), false)
	clash(t, list(w(1, 2)), list(w(2, 1)), false)
	clash(t, nil, nil, false)
	clash(t, nil, list(), false)
	clash(t, list(w(1, 0)), nil, false)
	clash(t, list(r(1, 0), r(1, 1), w(1, 2)), list(r(1, 0), r(1, 1), r(1, 2)), true)
	clash(t, list(r(1, 0), r(1, 1), w(1, 3)), list(r(1, 0), r(1, 1), r(1, 2)), false)
	clash(t, list(r(5, 5), r(1, 0), r(1, 0)), list(r(1, 0), w(1, 0)), true)
	clash(t, list(w(0, 0)), list(r(0, 0)), true)
	clash(t, list(w(-1, math.MinInt)), list(r(-1, math.MinInt)), true)
	clash(t, list(w(math.MaxInt, 900)), list(w(math.MaxInt, 900)), true)
	clash(t, list(w(math.MaxInt, 900)), list(w(math.MinInt, 900)), false)
}

// accesses are n of them, among some objects; one in many writes.
func accesses(seed uint64, n, objects, many int) []api.Access {
	numbers := sample.Choices(seed, 2*n)
	l := make([]api.Access, n)
	for i := range l {
		x := numbers[2*i] & math.MaxInt % objects
		l[i] = api.Access{Kind: x % 3, Num: x / 3, Write: numbers[2*i+1]&math.MaxInt%many == 0}
	}
	return l
}

// 10.1: lists of any length, each against each, with few objects and with many.
func TestClashLengths(t *testing.T) {
	told := [2]int{}
	for seed := range uint64(60) {
		objects, many := 1+int(seed*seed*7), 1+int(seed)
		for _, n := range []int{1, 3, 23, 24, 25, 60} {
			for _, m := range []int{1, 24, 25, 70} {
				a, b := accesses(seed, n, objects, many), accesses(seed+1000, m, objects, many)
				want := clashing(a, b)
				told[map[bool]int{true: 1}[want]]++
				clash(t, a, b, want)
			}
		}
	}
	if told[0] < 100 || told[1] < 100 {
		t.Errorf("%d clash, %d do not", told[1], told[0])
	}
}

// 10.1: no list is too long.
func TestClashLong(t *testing.T) {
	const n = 1 << 18
	a, b := make([]api.Access, n), make([]api.Access, n)
	for i := range n {
		a[i], b[i] = r(1, i), r(1, n-1-i)
	}
	clash(t, a, b, false)
	b[n/3].Write = true
	clash(t, a, b, true)
	b[n/3] = w(2, n)
	clash(t, a, b, false)
	clash(t, a, []api.Access{w(1, n-1)}, true)
	for i := range a {
		a[i].Write = true
	}
	clash(t, a, b, true)
	for i := range b {
		b[i].Num += n
	}
	clash(t, a, b, false)
}

// dependent asks whether two events depend on each other, either way round.
func dependent(t *testing.T, what string, a, b api.Event, want bool) {
	t.Helper()
	if depend.Dependent(a, b) != want || depend.Dependent(b, a) != want {
		t.Errorf("%s: not %v", what, want)
	}
}

// 10.1: events touch their first accesses, as many as they say, if there are so many.
func TestDependentTouches(t *testing.T) {
	full := api.Event{Touch: [6]api.Access{r(1, 1), r(1, 2), r(1, 3), r(1, 4), r(1, 5), w(1, 6)}}
	last := api.Event{Touch: [6]api.Access{w(1, 6)}, Touches: 1}
	for _, n := range []int{6, 7, 1000, math.MaxInt} {
		full.Touches = n
		dependent(t, "all touched", full, last, true)
		dependent(t, "all touched, itself", full, full, true)
	}
	for _, n := range []int{5, 1, 0, -1, math.MinInt} {
		full.Touches = n
		dependent(t, "the last one not touched", full, last, false)
		dependent(t, "reads alone, itself", full, full, false)
	}
	third := api.Event{Touch: [6]api.Access{w(1, 3)}, Touches: 1}
	for n := range 7 {
		full.Touches = n
		dependent(t, "the third one", full, third, n >= 3)
	}
	for _, n := range []int{0, -1, math.MinInt} {
		dependent(t, "none", api.Event{Touch: last.Touch, Touches: n}, last, false)
	}
	dependent(t, "nothing", api.Event{}, api.Event{}, false)
	dependent(t, "zero accesses", api.Event{Touches: 6}, api.Event{Touches: 6}, false)
}

// 10.1, 10.5: it hangs on what both touch alone, and is the same both ways.
func TestDependentAlone(t *testing.T) {
	told := [2]int{}
	for seed := range uint64(60) {
		l := sample.Trace(seed, 25)
		for i, a := range l {
			for j, b := range l {
				want := clashing(touched(a), touched(b))
				dependent(t, "sampled", a, b, want)
				told[map[bool]int{true: 1}[want]]++
				if a.Go == b.Go && !want {
					t.Errorf("%d, %d: two of one goroutine do not depend", i, j)
				}
				bare := api.Event{Touch: a.Touch, Touches: a.Touches, Go: -5}
				other := b
				other.Go, other.Func, other.PC, other.Op, other.Alt, other.Val, other.Tag = 9, 8, -7, 6, 5, 4, 3
				dependent(t, "other fields", bare, other, want)
			}
		}
	}
	if told[0] < 1000 || told[1] < 1000 {
		t.Errorf("%d depend, %d do not", told[1], told[0])
	}
}

// 10.2: Table.
func TestTable(t *testing.T) {
	for _, l := range traces(t, 60) {
		table, e := depend.Table(l)
		if e != api.OK || len(table) != len(l) {
			t.Fatalf("%v: %d rows of %d", e, len(table), len(l))
		}
		for i, row := range table {
			if len(row) != len(l) {
				t.Fatalf("%d of %d on the row %d", len(row), len(l), i)
			}
			for j, is := range row {
				if is != clashing(touched(l[i]), touched(l[j])) {
					t.Errorf("%d and %d: %v", i, j, is)
				}
			}
			if !row[i] {
				t.Errorf("%d does not depend on itself", i)
			}
		}
	}
}

// 10.2: Table of events that were written out.
func TestTableWritten(t *testing.T) {
	l := []api.Event{event(0, r(1, 0)), event(1, r(1, 0)), event(2, w(1, 0)), event(1, w(2, 0)), event(0, w(3, 1))}
	table, e := depend.Table(l)
	want := [][]bool{
		{true, false, true, false, true},
		{false, true, true, true, false},
		{true, true, true, false, false},
		{false, true, false, true, false},
		{true, false, false, false, true},
	}
	if e != api.OK || !slices.EqualFunc(table, want, slices.Equal) {
		t.Errorf("%v %v, not %v", table, e, want)
	}
}

// 10.2: Objects of events that were written out: by kind, then by number, once, written if one writes.
func TestObjects(t *testing.T) {
	objects := func(want []api.Access, l ...api.Event) {
		t.Helper()
		if got, e := depend.Objects(l); e != api.OK || !slices.Equal(got, want) {
			t.Errorf("%v: %v %v, not %v", l, got, e, want)
		}
	}
	objects(nil)
	objects([]api.Access{w(5, 2)}, event(2), event(2))
	objects([]api.Access{r(1, 3), w(5, 0)}, event(0, r(1, 3)), event(0, r(1, 3)))
	objects([]api.Access{w(1, 3), w(5, 0), w(5, 1)}, event(0, r(1, 3)), event(1, w(1, 3)))
	objects([]api.Access{w(1, 3), w(5, 0), w(5, 1)}, event(0, w(1, 3)), event(1, r(1, 3)))
	objects([]api.Access{r(1, 0), w(1, 7), w(2, 3), w(3, 0), w(3, 1), w(4, 0), w(5, 0), w(5, 3)},
		event(3, w(3, 0), w(3, 1)), event(0, w(2, 3)), event(3, w(1, 7)), event(0, r(1, 0)), event(3, w(4, 0)), event(0, r(4, 0)))
	joins := api.Event{Go: 1, Touches: 3, Touch: [6]api.Access{r(4, 0), r(5, 0), w(5, 1)}}
	objects([]api.Access{r(4, 0), r(5, 0), w(5, 1)}, joins)
	objects([]api.Access{r(4, 0), w(5, 0), w(5, 1), w(6, 0)}, joins, api.Event{Touches: 2, Touch: [6]api.Access{w(5, 0), w(6, 0)}})
}

// 10.2: Objects and Users of sampled traces, object by object, and of what is no object.
func TestObjectsUsers(t *testing.T) {
	for _, l := range traces(t, 60) {
		writes := map[[2]int]int{}
		users := map[[2]int][]int{}
		for i, x := range l {
			for _, a := range touched(x) {
				k := [2]int{a.Kind, a.Num}
				writes[k] += map[bool]int{true: 1}[a.Write]
				users[k] = append(users[k], i)
			}
		}
		var want []api.Access
		for _, k := range slices.SortedFunc(maps.Keys(writes), func(a, b [2]int) int { return slices.Compare(a[:], b[:]) }) {
			want = append(want, api.Access{Kind: k[0], Num: k[1], Write: writes[k] > 0})
		}
		if got, e := depend.Objects(l); e != api.OK || !slices.Equal(got, want) {
			t.Errorf("%v %v, not %v", got, e, want)
		}
		for kind := -1; kind < 8; kind++ {
			for num := -1; num < 9; num++ {
				if got, e := depend.Users(l, kind, num); e != api.OK || !slices.Equal(got, users[[2]int{kind, num}]) {
					t.Errorf("%d %d: %v %v, not %v", kind, num, got, e, users[[2]int{kind, num}])
				}
			}
		}
		for _, n := range far {
			if got, e := depend.Users(l, n, 0); e != api.OK || len(got) > 0 {
				t.Errorf("the kind %d: %v %v", n, got, e)
			}
			if got, e := depend.Users(l, api.ObVar, n); e != api.OK || len(got) > 0 {
				t.Errorf("the number %d: %v %v", n, got, e)
			}
		}
	}
}

// 10.2: zero accesses behind an event's last one are touched by nobody.
func TestUsersZero(t *testing.T) {
	if l, e := depend.Users([]api.Event{event(0), event(1)}, 0, 0); e != api.OK || len(l) != 0 {
		t.Errorf("%v %v", l, e)
	}
	if l, e := depend.Users([]api.Event{event(0), event(1), event(0)}, api.ObGo, 0); e != api.OK || !slices.Equal(l, []int{0, 2}) {
		t.Errorf("%v %v", l, e)
	}
}

package links

import (
	"math"
	"math/rand"
	"slices"
	"testing"

	"handpost/api"
)

// far is the number Far, short enough to stand in rows.
const far = api.Far

// lk is a link.
func lk(a, b, cost int) api.Link {
	return api.Link{A: a, B: b, Cost: cost}
}

// with makes Links that have these links.
func with(t *testing.T, list ...api.Link) *Links {
	t.Helper()
	l := New()
	for _, x := range list {
		wantCode(t, x, l.Set(x.A, x.B, x.Cost), 0)
	}
	return l
}

// wantCode holds a code, or a number, against the one that the chapter asks for.
func wantCode(t *testing.T, what any, got, want int) {
	t.Helper()
	if got != want {
		t.Errorf("%v: %d, want %d", what, got, want)
	}
}

// wantNumbers holds a list of numbers against the one that the chapter asks for.
func wantNumbers(t *testing.T, what any, got []int, want ...int) {
	t.Helper()
	if !slices.Equal(got, want) {
		t.Errorf("%v: %v, want %v", what, got, want)
	}
}

// wantList holds all links against these.
func wantList(t *testing.T, l *Links, want ...api.Link) {
	t.Helper()
	if got := l.List(); !slices.Equal(got, want) {
		t.Errorf("List: %v, want %v", got, want)
	}
}

// ends are two nodes, the lower one first.
type ends struct{ a, b int }

// wantAll holds all that Links tell against costs by their ends, in the
// chapter's words.
func wantAll(t *testing.T, l *Links, costs map[ends]int) {
	t.Helper()
	var list []api.Link
	of := map[int][]int{}
	for a := range api.MaxNodes {
		for b := range api.MaxNodes {
			cost := costs[ends{min(a, b), max(a, b)}]
			wantCode(t, []int{a, b}, l.Cost(a, b), cost)
			if cost != 0 {
				of[a] = append(of[a], b)
			}
			if cost != 0 && a < b {
				list = append(list, lk(a, b, cost))
			}
		}
	}
	wantList(t, l, list...)
	for a := range api.MaxNodes {
		wantNumbers(t, a, l.Of(a), of[a]...)
		wantNumbers(t, a, l.Far(a), farByWords(costs, a)...)
	}
}

// farByWords tells of all nodes the least sum of costs: it goes every way that
// is at no node twice.
func farByWords(costs map[ends]int, from int) []int {
	least := nowhere()
	var walk func(at, sum int, been []int)
	walk = func(at, sum int, been []int) {
		least[at] = min(least[at], sum)
		for next := range api.MaxNodes {
			cost := costs[ends{min(at, next), max(at, next)}]
			if cost != 0 && !slices.Contains(been, next) {
				walk(next, sum+cost, append(slices.Clone(been), next))
			}
		}
	}
	walk(from, 0, []int{from})
	return least
}

// nowhere is what Far tells where no way leads to any node.
func nowhere() []int {
	return slices.Repeat([]int{far}, api.MaxNodes)
}

// noNodes are numbers of which there is no node: on either side, just outside
// and far beyond, such as are nodes by their lowest bits among them.
func noNodes() []int {
	return []int{
		-1, -2, -api.MaxNodes, -255, -1 << 32, math.MinInt, math.MinInt + 1, math.MinInt + 3,
		api.MaxNodes, api.MaxNodes + 1, 2 * api.MaxNodes, 255, 256, 1 << 16, 1 << 32, 1<<32 + 1, math.MaxInt - 1, math.MaxInt,
	}
}

// noCosts are what no link costs.
func noCosts() []int {
	return []int{
		-1, -2, -api.MaxCost, -256, -1<<32 + 1, math.MinInt, math.MinInt + 1,
		api.MaxCost + 1, api.MaxCost + 2, far, 256, 257, 1<<32 + 1, math.MaxInt - 1, math.MaxInt,
	}
}

func TestNode(t *testing.T) {
	for n := -20; n <= 20; n++ {
		if got, want := Node(n), n >= 0 && n < api.MaxNodes; got != want {
			t.Errorf("Node(%d): %v, want %v", n, got, want)
		}
	}
	for _, n := range noNodes() {
		if Node(n) {
			t.Errorf("Node(%d): true", n)
		}
	}
}

func TestNoLinks(t *testing.T) {
	l := New()
	if l == nil {
		t.Fatal("New: nil")
	}
	wantAll(t, l, nil)
	wantList(t, l)
	wantNumbers(t, "Of", l.Of(3))
	wantNumbers(t, "Far", l.Far(3), far, far, far, 0, far, far)
}

// Each two nodes, from either end, for each cost: they are linked, no others
// are, and not any more for 0.
func TestOneLink(t *testing.T) {
	for a := range api.MaxNodes {
		for b := range api.MaxNodes {
			if a == b {
				continue
			}
			for cost := 1; cost <= api.MaxCost; cost++ {
				l := with(t, lk(a, b, cost))
				wantCode(t, "from one end", l.Cost(a, b), cost)
				wantCode(t, "from the other end", l.Cost(b, a), cost)
				wantList(t, l, lk(min(a, b), max(a, b), cost))
				wantAll(t, l, map[ends]int{{min(a, b), max(a, b)}: cost})
				wantCode(t, "Set", l.Set(a, b, 0), 0)
				wantAll(t, l, nil)
			}
		}
	}
}

func TestCostsAtTheEdges(t *testing.T) {
	l := with(t, lk(0, 1, 1), lk(4, 5, api.MaxCost))
	wantCode(t, "least", l.Cost(1, 0), 1)
	wantCode(t, "greatest", l.Cost(5, 4), 15)
	wantNumbers(t, "Far", l.Far(1), 1, 0, far, far, far, far)
	wantNumbers(t, "Far", l.Far(4), far, far, far, far, 0, 15)
}

// A link that is set again, from either end, costs what was set last, and is
// one link.
func TestSetAgain(t *testing.T) {
	l := with(t, lk(1, 4, 3), lk(1, 4, 3))
	wantList(t, l, lk(1, 4, 3))
	wantCode(t, "again", l.Set(1, 4, 9), 0)
	wantAll(t, l, map[ends]int{{1, 4}: 9})
	wantCode(t, "the other way round", l.Set(4, 1, 2), 0)
	wantAll(t, l, map[ends]int{{1, 4}: 2})
	wantNumbers(t, "Of", l.Of(1), 4)
	wantNumbers(t, "Of", l.Of(4), 1)
	wantNumbers(t, "Far", l.Far(4), far, 2, far, far, 0, far)
}

// A link that is taken away, from either end, twice, and where there was none;
// others stay, and it can be set anew.
func TestTakeAway(t *testing.T) {
	for _, x := range []api.Link{lk(1, 4, 0), lk(4, 1, 0)} {
		l := with(t, lk(1, 4, 3), lk(4, 5, 6), lk(0, 1, 7))
		for range 2 {
			wantCode(t, x, l.Set(x.A, x.B, x.Cost), 0)
			wantAll(t, l, map[ends]int{{4, 5}: 6, {0, 1}: 7})
		}
		wantCode(t, "anew", l.Set(x.A, x.B, 8), 0)
		wantAll(t, l, map[ends]int{{4, 5}: 6, {0, 1}: 7, {1, 4}: 8})
	}
	l := New()
	wantCode(t, "none", l.Set(2, 3, 0), 0)
	wantAll(t, l, nil)
}

// What can't be set: ErrRange, and nothing is changed.
func TestSetFaults(t *testing.T) {
	costs := map[ends]int{}
	l := New()
	for a := range api.MaxNodes {
		for b := range a {
			costs[ends{b, a}] = 1 + (3*a+b)%api.MaxCost
			wantCode(t, "Set", l.Set(a, b, costs[ends{b, a}]), 0)
		}
	}
	refuse := func(a, b, cost int) {
		t.Helper()
		wantCode(t, lk(a, b, cost), l.Set(a, b, cost), api.ErrRange)
	}
	someCosts := append(noCosts(), 0, 1, 7, api.MaxCost)
	for _, cost := range someCosts {
		for n := range api.MaxNodes {
			refuse(n, n, cost)
			for _, none := range noNodes() {
				refuse(n, none, cost)
				refuse(none, n, cost)
			}
		}
		for _, one := range noNodes() {
			for _, other := range noNodes() {
				refuse(one, other, cost)
			}
		}
	}
	for _, cost := range noCosts() {
		for a := range api.MaxNodes {
			for b := range api.MaxNodes {
				refuse(a, b, cost)
			}
		}
	}
	wantAll(t, l, costs)
	l = New()
	refuse(0, 0, 1)
	refuse(0, api.MaxNodes, 1)
	refuse(-1, 0, 1)
	refuse(0, 1, -1)
	refuse(0, 1, api.MaxCost+1)
	wantAll(t, l, nil)
}

// Of no such node: Cost 0, none in Of, the number Far of all nodes in Far,
// whatever links there are.
func TestNoSuchNode(t *testing.T) {
	every := New()
	for a := range api.MaxNodes {
		for b := range a {
			wantCode(t, "Set", every.Set(a, b, 1), 0)
		}
	}
	for _, l := range []*Links{New(), with(t, lk(0, 5, 1)), every} {
		for _, none := range noNodes() {
			for n := range api.MaxNodes {
				wantCode(t, []int{n, none}, l.Cost(n, none), 0)
				wantCode(t, []int{none, n}, l.Cost(none, n), 0)
			}
			for _, other := range noNodes() {
				wantCode(t, []int{none, other}, l.Cost(none, other), 0)
			}
			wantNumbers(t, none, l.Of(none))
			wantNumbers(t, none, l.Far(none), far, far, far, far, far, far)
		}
	}
}

// A node is not linked with itself, and is as far as nothing from itself.
func TestItself(t *testing.T) {
	l := with(t, lk(0, 1, 5), lk(1, 2, 5))
	for n := range api.MaxNodes {
		wantCode(t, "Set", l.Set(n, n, 1), api.ErrRange)
		wantCode(t, "Set", l.Set(n, n, 0), api.ErrRange)
		wantCode(t, n, l.Cost(n, n), 0)
		wantCode(t, n, l.Far(n)[n], 0)
		if slices.Contains(l.Of(n), n) {
			t.Errorf("Of(%d): %v", n, l.Of(n))
		}
	}
	wantList(t, l, lk(0, 1, 5), lk(1, 2, 5))
}

// All nodes linked with all, set from the last to the first with their ends the
// other way round: Of and List stand in order all the same.
func TestAllWithAll(t *testing.T) {
	l, costs := New(), map[ends]int{}
	for a := api.MaxNodes - 1; a >= 0; a-- {
		for b := a - 1; b >= 0; b-- {
			costs[ends{b, a}] = api.MaxCost
			wantCode(t, "Set", l.Set(a, b, api.MaxCost), 0)
		}
	}
	wantNumbers(t, "Of", l.Of(0), 1, 2, 3, 4, 5)
	wantNumbers(t, "Of", l.Of(3), 0, 1, 2, 4, 5)
	wantNumbers(t, "Of", l.Of(5), 0, 1, 2, 3, 4)
	wantNumbers(t, "Far", l.Far(3), 15, 15, 15, 0, 15, 15)
	wantList(t, l,
		lk(0, 1, 15), lk(0, 2, 15), lk(0, 3, 15), lk(0, 4, 15), lk(0, 5, 15),
		lk(1, 2, 15), lk(1, 3, 15), lk(1, 4, 15), lk(1, 5, 15),
		lk(2, 3, 15), lk(2, 4, 15), lk(2, 5, 15),
		lk(3, 4, 15), lk(3, 5, 15),
		lk(4, 5, 15))
	wantAll(t, l, costs)
}

// By A first, though the B of one that stands behind is lower.
func TestListOrder(t *testing.T) {
	l := with(t, lk(5, 4, 1), lk(2, 1, 2), lk(5, 0, 3), lk(3, 1, 4), lk(2, 0, 5))
	wantList(t, l, lk(0, 2, 5), lk(0, 5, 3), lk(1, 2, 2), lk(1, 3, 4), lk(4, 5, 1))
	wantNumbers(t, "Of", l.Of(5), 0, 4)
	wantNumbers(t, "Of", l.Of(1), 2, 3)
}

func TestFarInARow(t *testing.T) {
	l := with(t, lk(0, 1, 15), lk(1, 2, 15), lk(2, 3, 15), lk(3, 4, 15), lk(4, 5, 15))
	wantNumbers(t, "Far", l.Far(0), 0, 15, 30, 45, 60, 75)
	wantNumbers(t, "Far", l.Far(5), 75, 60, 45, 30, 15, 0)
	wantNumbers(t, "Far", l.Far(2), 30, 15, 0, 15, 30, 45)
}

// In a row of any order, so that no order in which links are gone through finds
// the whole way at once.
func TestFarInEveryRow(t *testing.T) {
	eachRow(nil, func(row []int) {
		l := New()
		for i := 1; i < len(row); i++ {
			wantCode(t, row, l.Set(row[i-1], row[i], api.MaxCost), 0)
		}
		for i, from := range row {
			dists := l.Far(from)
			for j, to := range row {
				wantCode(t, row, dists[to], api.MaxCost*max(i-j, j-i))
			}
		}
	})
}

// eachRow hands over all nodes in every order, behind those of a row.
func eachRow(row []int, take func([]int)) {
	if len(row) == api.MaxNodes {
		take(row)
		return
	}
	for n := range api.MaxNodes {
		if !slices.Contains(row, n) {
			eachRow(append(slices.Clone(row), n), take)
		}
	}
}

// A straight link that costs more than the way round by others, as much, and
// less.
func TestFarRound(t *testing.T) {
	around := []api.Link{lk(0, 3, 2), lk(3, 4, 2), lk(4, 1, 2)}
	for cost, want := range map[int]int{15: 6, 7: 6, 6: 6, 5: 5, 1: 1} {
		l := with(t, append(slices.Clone(around), lk(0, 1, cost))...)
		wantCode(t, cost, l.Far(0)[1], want)
		wantCode(t, cost, l.Far(1)[0], want)
		wantCode(t, cost, l.Cost(0, 1), cost)
	}
	l := with(t, lk(0, 5, 15), lk(0, 1, 1), lk(1, 2, 1), lk(2, 3, 1), lk(3, 4, 1), lk(4, 5, 1))
	wantNumbers(t, "Far", l.Far(0), 0, 1, 2, 3, 4, 5)
	wantNumbers(t, "Far", l.Far(5), 5, 4, 3, 2, 1, 0)
	wantCode(t, "broken", l.Set(2, 3, 0), 0)
	wantNumbers(t, "Far", l.Far(0), 0, 1, 2, 17, 16, 15)
}

// A part of the nodes to which no way leads, until it is linked.
func TestFarApart(t *testing.T) {
	l := with(t, lk(0, 2, 4), lk(2, 4, 5), lk(1, 3, 6))
	wantNumbers(t, "Far", l.Far(0), 0, far, 4, far, 9, far)
	wantNumbers(t, "Far", l.Far(3), far, 6, far, 0, far, far)
	wantNumbers(t, "Far", l.Far(5), far, far, far, far, far, 0)
	wantCode(t, "Set", l.Set(4, 1, 15), 0)
	wantNumbers(t, "Far", l.Far(0), 0, 24, 4, 30, 9, far)
	wantNumbers(t, "Far", l.Far(5), far, far, far, far, far, 0)
	wantCode(t, "Set", l.Set(2, 4, 0), 0)
	wantNumbers(t, "Far", l.Far(0), 0, far, 4, far, far, far)
}

// randomSet is a link that can mostly be set; many are taken away, so that parts
// of the nodes stay apart.
func randomSet(r *rand.Rand) api.Link {
	x := lk(r.Intn(api.MaxNodes), r.Intn(api.MaxNodes), r.Intn(api.MaxCost+1))
	switch r.Intn(20) {
	case 0:
		x.A = noNodes()[r.Intn(len(noNodes()))]
	case 1:
		x.B = noNodes()[r.Intn(len(noNodes()))]
	case 2:
		x.Cost = noCosts()[r.Intn(len(noCosts()))]
	case 3, 4, 5, 6, 7, 8:
		x.Cost = 0
	}
	return x
}

// setByWords sets a link among costs by their ends, and tells the code.
func setByWords(costs map[ends]int, x api.Link) int {
	nodes := []int{0, 1, 2, 3, 4, 5}
	if !slices.Contains(nodes, x.A) || !slices.Contains(nodes, x.B) || x.A == x.B || x.Cost < 0 || x.Cost > 15 {
		return api.ErrRange
	}
	costs[ends{min(x.A, x.B), max(x.A, x.B)}] = x.Cost
	return 0
}

func TestRandomLinks(t *testing.T) {
	r := rand.New(rand.NewSource(5))
	for range 40 {
		l, costs := New(), map[ends]int{}
		for range 60 {
			x := randomSet(r)
			wantCode(t, x, l.Set(x.A, x.B, x.Cost), setByWords(costs, x))
			wantAll(t, l, costs)
		}
	}
}

// Two Links know nothing of each other, and what is asked changes nothing.
func TestLinksStayApart(t *testing.T) {
	one, other := with(t, lk(0, 1, 2), lk(1, 2, 3)), New()
	wantAll(t, other, nil)
	wantCode(t, "Set", other.Set(4, 5, 6), 0)
	wantCode(t, "Set", other.Set(0, 1, 9), 0)
	for range 2 {
		wantAll(t, one, map[ends]int{{0, 1}: 2, {1, 2}: 3})
		wantAll(t, other, map[ends]int{{4, 5}: 6, {0, 1}: 9})
	}
}

// Lists that were answered ahead stay as they were, whatever is asked later.
func TestListsStay(t *testing.T) {
	l := with(t, lk(0, 1, 2), lk(1, 2, 3), lk(1, 5, 4))
	list, of, dists, none := l.List(), l.Of(1), l.Far(1), l.Far(-1)
	wantCode(t, "Set", l.Set(0, 1, 0), 0)
	wantCode(t, "Set", l.Set(1, 2, 9), 0)
	wantCode(t, "Set", l.Set(3, 1, 1), 0)
	wantNumbers(t, "Of now", l.Of(1), 2, 3, 5)
	wantNumbers(t, "Far now", l.Far(1), far, 0, 9, 1, far, 4)
	wantNumbers(t, "Far of another one", l.Far(4), far, far, far, far, 0, far)
	wantList(t, l, lk(1, 2, 9), lk(1, 3, 1), lk(1, 5, 4))
	wantNumbers(t, "Of ahead", of, 0, 2, 5)
	wantNumbers(t, "Far ahead", dists, 2, 0, 3, far, far, 4)
	wantNumbers(t, "Far of none ahead", none, nowhere()...)
	if want := []api.Link{lk(0, 1, 2), lk(1, 2, 3), lk(1, 5, 4)}; !slices.Equal(list, want) {
		t.Errorf("List ahead: %v, want %v", list, want)
	}
}

// Who writes into lists that were answered, or behind their ends, changes
// neither Links nor other lists.
func TestListsAreNew(t *testing.T) {
	costs := map[ends]int{{0, 1}: 2, {1, 2}: 3, {1, 5}: 4}
	l := with(t, lk(0, 1, 2), lk(1, 2, 3), lk(1, 5, 4))
	list, of, dists, none := l.List(), l.Of(1), l.Far(1), l.Far(api.MaxNodes)
	for _, x := range [][]api.Link{l.List(), l.List()[:0]} {
		x = append(x, lk(7, 7, 7))
		spoil(x, lk(8, 8, 8))
	}
	for _, x := range [][]int{l.Of(1), l.Of(1)[:0], l.Far(1), l.Far(1)[:0], l.Far(api.MaxNodes), l.Of(3)} {
		x = append(x, 77)
		spoil(x, 88)
	}
	wantAll(t, l, costs)
	wantNumbers(t, "Far of none", l.Far(api.MaxNodes), nowhere()...)
	wantNumbers(t, "Of", of, 0, 2, 5)
	wantNumbers(t, "Far", dists, 2, 0, 3, far, far, 4)
	wantNumbers(t, "Far of none", none, nowhere()...)
	if want := []api.Link{lk(0, 1, 2), lk(1, 2, 3), lk(1, 5, 4)}; !slices.Equal(list, want) {
		t.Errorf("List: %v, want %v", list, want)
	}
}

// spoil writes into a list wherever it has memory.
func spoil[E any](list []E, x E) {
	list = list[:cap(list)]
	for i := range list {
		list[i] = x
	}
}

// Of a nil nothing is promised, but no call panics: it is asked as Links
// without links, and nothing can be set there.
func TestNil(t *testing.T) {
	var l *Links
	wantAll(t, l, nil)
	wantNumbers(t, "Far", l.Far(-1), nowhere()...)
	wantCode(t, "Set", l.Set(0, 1, 2), api.ErrNone)
	wantCode(t, "Set", l.Set(0, 1, 0), api.ErrNone)
	wantCode(t, "no node", l.Set(0, 6, 2), api.ErrRange)
	wantAll(t, l, nil)
}

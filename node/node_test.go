package node

import (
	"cmp"
	"fmt"
	"math"
	"math/rand"
	"slices"
	"testing"

	"handpost/api"
)

// far is the number Far, short enough to stand in rows.
const far = api.Far

// none is a way that leads nowhere, of an age.
func none(seq int) api.Way {
	return api.Way{Seq: seq, Dist: far, Hop: api.Drop}
}

// way is one that leads to a neighbour.
func way(seq, dist, hop int) api.Way {
	return api.Way{Seq: seq, Dist: dist, Hop: hop}
}

// news are what one says of a node.
func news(from, to, seq, dist int) api.News {
	return api.News{From: from, To: to, Seq: seq, Dist: dist}
}

// wantCode holds a code, or a number, against the one that the chapter asks for.
func wantCode(t *testing.T, what any, got, want int) {
	t.Helper()
	if got != want {
		t.Errorf("%v: %d, want %d", what, got, want)
	}
}

// wantWay holds the way to a node against this one.
func wantWay(t *testing.T, what any, n *Node, to int, want api.Way) {
	t.Helper()
	if got := n.Way(to); got != want {
		t.Errorf("%v: the way to %d: %v, want %v", what, to, got, want)
	}
}

// wantBest holds the best of a node against this one.
func wantBest(t *testing.T, what any, n *Node, to, seq, dist int) {
	t.Helper()
	if s, d := n.Best(to); s != seq || d != dist {
		t.Errorf("%v: the best of %d: %d %d, want %d %d", what, to, s, d, seq, dist)
	}
}

// linked makes a node whose links cost so much, by the numbers of the others; 0:
// it is not linked.
func linked(t *testing.T, me int, costs ...int) *Node {
	t.Helper()
	n := New(me)
	if n == nil {
		t.Fatalf("New(%d): nil", me)
	}
	for who, cost := range costs {
		if cost != 0 {
			wantCode(t, "Link", n.Link(who, cost), 0)
		}
	}
	return n
}

// hear lets a node hear all these, which have no fault.
func hear(t *testing.T, n *Node, list ...api.News) {
	t.Helper()
	for _, x := range list {
		wantCode(t, x, n.Hear(x), 0)
	}
}

// noNodes are numbers of which there is no node: on either side, just outside
// and far beyond, such as are nodes by their lowest bits among them.
func noNodes() []int {
	return []int{
		-1, -2, -api.MaxNodes, -255, -1 << 32, math.MinInt, math.MinInt + 1, math.MinInt + 3,
		api.MaxNodes, api.MaxNodes + 1, 2 * api.MaxNodes, 255, 256, 1 << 16, 1 << 32, 1<<32 + 1, math.MaxInt - 1, math.MaxInt,
	}
}

// noCosts are what no link costs.
func noCosts() []int {
	return []int{
		-1, -2, -api.MaxCost, -256, -1<<32 + 1, math.MinInt, math.MinInt + 1,
		api.MaxCost + 1, api.MaxCost + 2, far, 256, 257, 1<<32 + 1, math.MaxInt - 1, math.MaxInt,
	}
}

// noSeqs are what is no age.
func noSeqs() []int {
	return []int{-1, -2, -256, -1<<32 + 1, math.MinInt, math.MinInt + 1}
}

// noDists are what is no length.
func noDists() []int {
	return []int{
		-1, -2, -far, -256, -1<<32 + 1, math.MinInt, math.MinInt + 1,
		far + 1, far + 2, 256, 257, 1 << 32, 1<<32 + 1, math.MaxInt - api.MaxCost, math.MaxInt - 1, math.MaxInt,
	}
}

// age is the age and the length of a way.
type age struct{ seq, dist int }

// pair is one who says something, and of whom.
type pair struct{ who, to int }

// model knows what a node knows, in the chapter's words: of each node it has all
// ways that ever were, so that the best is looked for among them.
type model struct {
	me, ticks int
	costs     map[int]int
	said      map[pair]age
	were      map[int][]api.Way
}

func newModel(me int) *model {
	m := &model{me: me, costs: map[int]int{}, said: map[pair]age{}, were: map[int][]api.Way{}}
	for to := range api.MaxNodes {
		m.were[to] = []api.Way{none(0)}
	}
	return m
}

// way tells the way to a node.
func (m *model) way(to int) api.Way {
	if to == m.me {
		return way(m.ticks, 0, m.me)
	}
	return m.were[to][len(m.were[to])-1]
}

// best tells the best of all ways to a node that ever were.
func (m *model) best(to int) age {
	if to == m.me {
		return age{m.ticks, 0}
	}
	x := slices.MinFunc(m.were[to], func(a, b api.Way) int {
		return cmp.Or(cmp.Compare(b.Seq, a.Seq), cmp.Compare(a.Dist, b.Dist))
	})
	return age{x.Seq, x.Dist}
}

// choose chooses all ways anew.
func (m *model) choose() {
	for to := range api.MaxNodes {
		var list []api.Way
		best := m.best(to)
		for p, x := range m.said {
			cost := m.costs[p.who]
			younger, shorter := x.seq > best.seq, x.seq == best.seq && x.dist < best.dist
			if p.to == to && cost > 0 && x.dist+cost < far && (younger || shorter) {
				list = append(list, way(x.seq, x.dist+cost, p.who))
			}
		}
		slices.SortFunc(list, func(a, b api.Way) int {
			return cmp.Or(cmp.Compare(b.Seq, a.Seq), cmp.Compare(a.Dist, b.Dist), cmp.Compare(a.Hop, b.Hop))
		})
		list = append(list, none(best.seq))
		m.were[to] = append(m.were[to], list[0])
	}
}

func (m *model) node(x int) bool {
	return slices.Contains([]int{0, 1, 2, 3, 4, 5}, x)
}

// link links the model, and tells the code.
func (m *model) link(who, cost int) int {
	if !m.node(who) || who == m.me || cost < 0 || cost > 15 {
		return api.ErrRange
	}
	m.costs[who] = cost
	for p := range m.said {
		if p.who == who && cost == 0 {
			delete(m.said, p)
		}
	}
	m.choose()
	return 0
}

// hear lets the model hear news, and tells the code.
func (m *model) hear(x api.News) int {
	switch {
	case !m.node(x.From), !m.node(x.To), x.From == m.me, x.Seq < 0, x.Dist < 0, x.Dist > 200:
		return api.ErrRange
	case m.costs[x.From] == 0:
		return api.ErrNone
	}
	m.said[pair{x.From, x.To}] = age{x.Seq, x.Dist}
	m.choose()
	return 0
}

// tell tells what the node tells.
func (m *model) tell(who int) []api.News {
	var list []api.News
	for to := range api.MaxNodes {
		x := m.way(to)
		list = append(list, api.News{From: m.me, For: who, To: to, Seq: x.Seq, Dist: x.Dist})
	}
	return list
}

// wantAll holds all that a node tells against a model.
func wantAll(t *testing.T, what any, n *Node, m *model) {
	t.Helper()
	for to := range api.MaxNodes {
		wantWay(t, what, n, to, m.way(to))
		wantBest(t, what, n, to, m.best(to).seq, m.best(to).dist)
	}
	for _, who := range []int{0, m.me, 5} {
		wantNews(t, what, n.Tell(who), m.tell(who))
	}
}

// wantNews holds what was told against these.
func wantNews(t *testing.T, what any, got, want []api.News) {
	t.Helper()
	if !slices.Equal(got, want) {
		t.Errorf("%v: told %v, want %v", what, got, want)
	}
}

// known tells all that can be asked of a node.
func known(n *Node) string {
	var list []any
	for to := -1; to <= api.MaxNodes; to++ {
		seq, dist := n.Best(to)
		list = append(list, n.Way(to), seq, dist)
	}
	return fmt.Sprint(list, n.Tell(0))
}

// wantKnown holds all that can be asked of a node against what it was ahead.
func wantKnown(t *testing.T, what any, n *Node, want string) {
	t.Helper()
	if got := known(n); got != want {
		t.Errorf("%v: %s, want %s", what, got, want)
	}
}

func TestBetter(t *testing.T) {
	for _, x := range []struct {
		seq, dist, seq2, dist2 int
		want                   bool
	}{
		{1, 9, 1, 9, false},
		{1, 8, 1, 9, true},
		{1, 9, 1, 8, false},
		{2, 9, 1, 1, true},
		{1, 1, 2, 9, false},
		{2, 1, 1, 9, true},
		{1, 9, 2, 1, false},
		{0, 0, 0, 0, false},
		{0, 199, 0, 200, true},
		{-1, 5, 0, 5, false},
		{0, 5, -1, 5, true},
		{-1, -6, -1, -5, true},
		{math.MaxInt, math.MaxInt, math.MinInt, math.MinInt, true},
		{math.MinInt, math.MinInt, math.MaxInt, math.MaxInt, false},
		{math.MaxInt, math.MinInt, math.MaxInt, math.MaxInt, true},
		{math.MaxInt, math.MaxInt, math.MaxInt, math.MinInt, false},
		{math.MinInt, math.MinInt, math.MinInt, math.MaxInt, true},
		{math.MinInt, math.MaxInt, math.MinInt, math.MinInt, false},
		{math.MaxInt, 7, math.MaxInt, 7, false},
		{1 << 32, 7, 0, 7, true},
		{0, 7, 0, 1 << 32, true},
	} {
		if got := Better(x.seq, x.dist, x.seq2, x.dist2); got != x.want {
			t.Errorf("%v: %v", x, got)
		}
	}
}

// Of any two that are not the same just one is better than the other one.
func TestBetterOfTwo(t *testing.T) {
	for _, a := range numbers() {
		for _, b := range numbers() {
			for _, c := range numbers() {
				for _, d := range numbers() {
					want := cmp.Or(cmp.Compare(a, c), cmp.Compare(d, b)) > 0
					if got := Better(a, b, c, d); got != want {
						t.Errorf("%d %d, %d %d: %v, want %v", a, b, c, d, got, want)
					}
				}
			}
		}
	}
}

// numbers are some of every size.
func numbers() []int {
	return []int{math.MinInt, math.MinInt + 1, -1 << 32, -1, 0, 1, 2, far - 1, far, 1 << 32, math.MaxInt - 1, math.MaxInt}
}

func TestNew(t *testing.T) {
	for me := range api.MaxNodes {
		n := linked(t, me)
		for to := range api.MaxNodes {
			if to == me {
				wantWay(t, me, n, to, way(0, 0, me))
				wantBest(t, me, n, to, 0, 0)
				continue
			}
			wantWay(t, me, n, to, none(0))
			wantBest(t, me, n, to, 0, far)
			// No links: nobody can be heard.
			wantCode(t, me, n.Hear(news(to, me, 1, 1)), api.ErrNone)
		}
		wantAll(t, me, n, newModel(me))
	}
}

func TestNewOfNoNode(t *testing.T) {
	for _, me := range noNodes() {
		if n := New(me); n != nil {
			t.Errorf("New(%d): %v", me, n)
		}
	}
}

// Every other node for every cost: what it says has the cost added, and nobody
// else can be heard.
func TestLinkEachCost(t *testing.T) {
	for me := range api.MaxNodes {
		for who := range api.MaxNodes {
			for cost := 1; cost <= api.MaxCost && who != me; cost++ {
				n, to := New(me), (me+1)%api.MaxNodes
				before := known(n)
				wantCode(t, "Link", n.Link(who, cost), 0)
				wantKnown(t, "a link alone is no way", n, before)
				for other := range api.MaxNodes {
					if other != me && other != who {
						wantCode(t, "Hear", n.Hear(news(other, to, 1, 1)), api.ErrNone)
					}
				}
				hear(t, n, news(who, to, 0, 7))
				wantWay(t, cost, n, to, way(0, 7+cost, who))
				wantBest(t, cost, n, to, 0, 7+cost)
			}
		}
	}
}

// busy makes a node that has links, ways, and bests that are not its ways.
func busy(t *testing.T) *Node {
	t.Helper()
	n := linked(t, 1, 4, 0, 1, 15)
	hear(t, n,
		news(0, 0, 3, 0), news(0, 4, 2, 30), news(0, 5, 7, 20), news(0, 2, 1, 1),
		news(2, 0, 3, 2), news(2, 4, 2, 50), news(2, 5, 7, 19), news(2, 2, 8, 0),
		news(3, 5, 7, 18), news(3, 3, 9, 0),
		news(2, 5, 7, 60))
	n.Tick()
	wantWay(t, "busy", n, 0, way(3, 3, 2))
	wantWay(t, "busy", n, 2, way(8, 1, 2))
	wantWay(t, "busy", n, 3, way(9, 15, 3))
	wantWay(t, "busy", n, 4, way(2, 34, 0))
	wantWay(t, "busy", n, 5, way(7, 33, 3))
	wantBest(t, "busy", n, 5, 7, 20)
	return n
}

// What can't be linked: ErrRange, and nothing is changed.
func TestLinkFaults(t *testing.T) {
	for _, n := range []*Node{New(1), busy(t)} {
		before := known(n)
		refuse := func(who, cost int) {
			t.Helper()
			wantCode(t, []int{who, cost}, n.Link(who, cost), api.ErrRange)
		}
		for _, cost := range append(noCosts(), 0, 1, 7, api.MaxCost) {
			refuse(1, cost)
			for _, who := range noNodes() {
				refuse(who, cost)
			}
		}
		for _, cost := range noCosts() {
			for who := range api.MaxNodes {
				refuse(who, cost)
			}
		}
		wantKnown(t, "refused", n, before)
	}
}

// Links that were refused are none, and those that were there cost what they
// did.
func TestLinkFaultsLinkNobody(t *testing.T) {
	for _, cost := range noCosts() {
		n := linked(t, 1, 4)
		wantCode(t, cost, n.Link(0, cost), api.ErrRange)
		wantCode(t, cost, n.Link(2, cost), api.ErrRange)
		wantCode(t, cost, n.Hear(news(2, 5, 1, 1)), api.ErrNone)
		hear(t, n, news(0, 5, 1, 1))
		wantWay(t, cost, n, 5, way(1, 5, 0))
	}
}

// What can't be heard by its numbers: ErrRange, whether there is a link or not;
// nothing is changed.
func TestHearFaults(t *testing.T) {
	for _, n := range []*Node{New(1), busy(t)} {
		before := known(n)
		refuse := func(x api.News) {
			t.Helper()
			for _, who := range []int{0, 1, 3, -1, api.MaxNodes, math.MinInt, math.MaxInt} {
				x.For = who
				wantCode(t, x, n.Hear(x), api.ErrRange)
			}
		}
		for _, bad := range noNodes() {
			for to := range api.MaxNodes {
				refuse(news(bad, to, 20, 0))
			}
			for from := range api.MaxNodes {
				refuse(news(from, bad, 20, 0))
			}
			refuse(news(bad, bad, 20, 0))
			refuse(news(bad, bad, bad, far+1))
		}
		for other := range api.MaxNodes {
			refuse(news(1, other, 20, 0))
			for from := range api.MaxNodes {
				for _, seq := range noSeqs() {
					refuse(news(from, other, seq, 0))
					refuse(news(from, other, seq, far+1))
				}
				for _, dist := range noDists() {
					refuse(news(from, other, 20, dist))
					refuse(news(from, other, math.MaxInt, dist))
				}
			}
		}
		wantKnown(t, "refused", n, before)
	}
}

// From one who has no link: ErrNone, and it is not heard later either.
func TestHearNoLink(t *testing.T) {
	n := busy(t)
	before := known(n)
	for _, from := range []int{4, 5} {
		for to := range api.MaxNodes {
			for _, x := range []api.News{news(from, to, 0, 0), news(from, to, 20, 0), news(from, to, math.MaxInt, far)} {
				wantCode(t, x, n.Hear(x), api.ErrNone)
			}
		}
		wantKnown(t, from, n, before)
		wantCode(t, "Link", n.Link(from, 1), 0)
		wantKnown(t, "linked, but what it said was not heard", n, before)
	}
}

// Which code is told where several are so: ErrRange ahead of ErrNone.
func TestHearFirstCode(t *testing.T) {
	n := New(1)
	for _, x := range []api.News{
		news(2, 6, 0, 0), news(2, -1, 0, 0), news(2, 3, -1, 0), news(2, 3, 0, -1), news(2, 3, 0, far+1),
		news(1, 3, 0, 0), news(1, 1, 0, 0), news(6, 3, 0, 0), news(-1, 3, 0, 0),
		news(2, 3, math.MinInt, 0), news(2, 3, 0, math.MinInt), news(2, 3, 0, math.MaxInt),
	} {
		wantCode(t, x, n.Hear(x), api.ErrRange)
	}
	for _, x := range []api.News{
		news(2, 3, 0, 0), news(2, 1, 0, 0), news(2, 2, 0, 0), news(2, 3, math.MaxInt, far), news(0, 5, 0, far),
	} {
		wantCode(t, x, n.Hear(x), api.ErrNone)
	}
}

// For is who is to hear it: what it is changes nothing.
func TestHearWhateverFor(t *testing.T) {
	for _, who := range append(noNodes(), 0, 1, 2, 3, 4, 5) {
		n := linked(t, 1, 4)
		x := news(0, 3, 1, 6)
		x.For = who
		hear(t, n, x)
		wantWay(t, who, n, 3, way(1, 10, 0))
	}
}

// Seq and Dist at the edges of what may be said.
func TestHearEdges(t *testing.T) {
	for _, x := range []struct {
		seq, dist int
		want      api.Way
	}{
		{0, 0, way(0, 1, 3)},
		{0, 1, way(0, 2, 3)},
		{0, far - 2, way(0, far-1, 3)},
		{0, far - 1, none(0)},
		{0, far, none(0)},
		{1, 0, way(1, 1, 3)},
		{1, far, none(0)},
		{math.MaxInt, 0, way(math.MaxInt, 1, 3)},
		{math.MaxInt, far - 2, way(math.MaxInt, far-1, 3)},
		{math.MaxInt, far - 1, none(0)},
		{math.MaxInt, far, none(0)},
	} {
		n := linked(t, 2, 0, 0, 0, 1)
		hear(t, n, news(3, 5, x.seq, x.dist))
		wantWay(t, x, n, 5, x.want)
		wantBest(t, x, n, 5, x.want.Seq, x.want.Dist)
	}
}

// Of the greatest age, too, only shorter ones may be gone.
func TestGreatestAge(t *testing.T) {
	n := linked(t, 2, 0, 0, 0, 1)
	hear(t, n, news(3, 5, math.MaxInt, 9))
	hear(t, n, news(3, 5, math.MaxInt, 10))
	wantWay(t, "as long as the best", n, 5, none(math.MaxInt))
	wantBest(t, "as long as the best", n, 5, math.MaxInt, 10)
	hear(t, n, news(3, 5, 0, 0))
	wantWay(t, "old", n, 5, none(math.MaxInt))
	hear(t, n, news(3, 5, math.MaxInt, 8))
	wantWay(t, "shorter", n, 5, way(math.MaxInt, 9, 3))
	wantBest(t, "shorter", n, 5, math.MaxInt, 9)
}

// What comes to Far or more with the cost may not be gone, for any cost, though
// it is younger.
func TestFarWithTheCost(t *testing.T) {
	for cost := 1; cost <= api.MaxCost; cost++ {
		for dist := far - 20; dist <= far; dist++ {
			for _, seq := range []int{0, 1, math.MaxInt} {
				n := linked(t, 2, 0, cost)
				hear(t, n, news(1, 4, seq, dist))
				want := none(0)
				if dist+cost < far {
					want = way(seq, dist+cost, 1)
				}
				wantWay(t, cost, n, 4, want)
				wantBest(t, cost, n, 4, want.Seq, want.Dist)
			}
		}
	}
}

// A link that grows dearer can make its way too long, and a cheaper one makes it
// one again; nothing was forgotten.
func TestFarByTheLink(t *testing.T) {
	n := linked(t, 2, 0, 15)
	hear(t, n, news(1, 4, 3, 190))
	wantWay(t, "too long", n, 4, none(0))
	wantBest(t, "too long", n, 4, 0, far)
	wantCode(t, "Link", n.Link(1, 10), 0)
	wantWay(t, "just too long", n, 4, none(0))
	wantCode(t, "Link", n.Link(1, 9), 0)
	wantWay(t, "cheaper", n, 4, way(3, 199, 1))
	wantBest(t, "cheaper", n, 4, 3, 199)
	wantCode(t, "Link", n.Link(1, 10), 0)
	wantWay(t, "dearer", n, 4, none(3))
	wantBest(t, "dearer", n, 4, 3, 199)
	wantCode(t, "Link", n.Link(1, 1), 0)
	wantWay(t, "cheaper again", n, 4, way(3, 191, 1))
	wantBest(t, "cheaper again", n, 4, 3, 191)
}

// One that is younger and too long hides none that is older.
func TestFarHidesNone(t *testing.T) {
	n := linked(t, 2, 1, 15)
	hear(t, n, news(1, 4, 9, 190), news(0, 4, 3, 20))
	wantWay(t, "the older one", n, 4, way(3, 21, 0))
	wantBest(t, "the older one", n, 4, 3, 21)
	hear(t, n, news(1, 4, 9, far))
	wantWay(t, "the older one", n, 4, way(3, 21, 0))
}

// As old and as long as the best: it may not be gone. Shorter by one it may;
// younger by one it may, however long it is.
func TestHeldAgainstTheBest(t *testing.T) {
	for _, x := range []struct {
		seq, dist int
		want      api.Way
	}{
		{5, 11, none(5)},
		{5, 12, none(5)},
		{5, 198, none(5)},
		{5, 10, way(5, 11, 0)},
		{5, 0, way(5, 1, 0)},
		{6, 11, way(6, 12, 0)},
		{6, 198, way(6, 199, 0)},
		{6, 199, none(5)},
		{4, 0, none(5)},
		{0, 0, none(5)},
	} {
		n := linked(t, 1, 1, 0, 4)
		hear(t, n, news(2, 3, 5, 7))
		wantBest(t, "the best", n, 3, 5, 11)
		hear(t, n, news(2, 3, 5, far))
		wantWay(t, "gone", n, 3, none(5))
		wantBest(t, "gone", n, 3, 5, 11)
		hear(t, n, news(0, 3, x.seq, x.dist))
		wantWay(t, x, n, 3, x.want)
	}
}

// What was said is held against the best without the link's cost: it may be
// gone, though the way is longer than the best.
func TestHeldWithoutTheCost(t *testing.T) {
	n := linked(t, 1, 15, 0, 4)
	hear(t, n, news(2, 3, 5, 7), news(2, 3, 5, far), news(0, 3, 5, 10))
	wantWay(t, "longer than the best", n, 3, way(5, 25, 0))
	wantBest(t, "longer than the best", n, 3, 5, 11)
	hear(t, n, news(0, 3, 5, 11))
	wantWay(t, "as long as the best", n, 3, none(5))
}

// A best that never was a way is Far long: whatever leads anywhere is better.
func TestFirstOfAgeNothing(t *testing.T) {
	n := linked(t, 1, 1)
	hear(t, n, news(0, 3, 0, 198))
	wantWay(t, "of the age 0", n, 3, way(0, 199, 0))
	wantBest(t, "of the age 0", n, 3, 0, 199)
	hear(t, n, news(0, 3, 0, 199))
	wantWay(t, "of the age 0", n, 3, none(0))
}

// The youngest, though it is the longest and the highest neighbour's.
func TestYoungest(t *testing.T) {
	n := linked(t, 5, 1, 1, 1, 15)
	hear(t, n, news(0, 4, 7, 3), news(1, 4, 8, 2), news(2, 4, 7, 1), news(3, 4, 9, 150))
	wantWay(t, "youngest", n, 4, way(9, 165, 3))
	wantBest(t, "youngest", n, 4, 9, 165)
	// What is older than the best may not be gone any more.
	hear(t, n, news(3, 4, 9, far))
	wantWay(t, "youngest lost", n, 4, none(9))
}

// Several that may be gone at once: heard by a node whose links are too dear, so
// that none of them was the best, and then one link after another is cheaper.
func TestYoungestOfSeveral(t *testing.T) {
	n := linked(t, 5, 0, 0, 15, 15)
	hear(t, n, news(2, 4, 2, 185), news(3, 4, 1, 185))
	wantWay(t, "none", n, 4, none(0))
	wantCode(t, "Link", n.Link(3, 1), 0)
	wantWay(t, "one", n, 4, way(1, 186, 3))
	wantCode(t, "Link", n.Link(2, 14), 0)
	wantWay(t, "the younger one", n, 4, way(2, 199, 2))
	wantBest(t, "the younger one", n, 4, 2, 199)
}

// Of those that are as young the shortest with the link's cost, in either order
// of their neighbours; what they said counts for nothing there.
func TestShortestWithTheCost(t *testing.T) {
	for _, low := range []int{0, 3} {
		high := 3 - low
		n := New(5)
		wantCode(t, "Link", n.Link(low, 9), 0)
		wantCode(t, "Link", n.Link(high, 2), 0)
		hear(t, n, news(low, 4, 3, 20), news(high, 4, 3, 26))
		wantWay(t, "shorter by one", n, 4, way(3, 28, high))
		wantBest(t, "shorter by one", n, 4, 3, 28)
		wantCode(t, "Link", n.Link(low, 7), 0)
		wantWay(t, "shorter by the other one", n, 4, way(3, 27, low))
		wantBest(t, "shorter by the other one", n, 4, 3, 27)
		wantCode(t, "Link", n.Link(low, 9), 0)
		wantWay(t, "dearer", n, 4, way(3, 28, high))
		wantBest(t, "dearer", n, 4, 3, 27)
	}
}

// Of those that are as young and as short that of the lowest neighbour, in
// whatever order they were heard.
func TestLowestNeighbour(t *testing.T) {
	for _, order := range [][]int{{0, 2, 4}, {4, 2, 0}, {2, 4, 0}, {4, 0, 2}} {
		n := linked(t, 1, 4, 0, 6, 0, 2)
		said := map[int]int{0: 22, 2: 20, 4: 24}
		for _, who := range order {
			hear(t, n, news(who, 5, 3, said[who]))
		}
		wantWay(t, order, n, 5, way(3, 26, 0))
		wantCode(t, "Link", n.Link(0, 5), 0)
		wantWay(t, order, n, 5, way(3, 26, 2))
		wantCode(t, "Link", n.Link(2, 0), 0)
		wantWay(t, order, n, 5, way(3, 26, 4))
		wantBest(t, order, n, 5, 3, 26)
	}
}

// The lowest neighbour's is not taken where it may not be gone itself.
func TestLowestThatMayBeGone(t *testing.T) {
	n := linked(t, 5, 1, 9)
	hear(t, n, news(1, 4, 3, 11), news(1, 4, 3, 19))
	wantBest(t, "the best", n, 4, 3, 20)
	hear(t, n, news(0, 4, 3, 20))
	wantWay(t, "as long as the best", n, 4, way(3, 28, 1))
	hear(t, n, news(1, 4, 3, 20))
	wantWay(t, "both as long as the best", n, 4, none(3))
}

// A neighbour itself, by its own news, and by another one's.
func TestWayToANeighbour(t *testing.T) {
	n := linked(t, 1, 15, 0, 1)
	hear(t, n, news(0, 0, 0, 0))
	wantWay(t, "straight", n, 0, way(0, 15, 0))
	hear(t, n, news(2, 0, 0, 2))
	wantWay(t, "by another one", n, 0, way(0, 3, 2))
	wantWay(t, "who said nothing of itself", n, 2, none(0))
	hear(t, n, news(2, 2, 4, 5))
	wantWay(t, "as it says", n, 2, way(4, 6, 2))
}

// The best is never worse: what comes later is the best if it is better, and
// where none may be gone the way has its age.
func TestTheBestStays(t *testing.T) {
	n := linked(t, 1, 4)
	for _, x := range []struct {
		heard api.News
		way   api.Way
		best  age
	}{
		{news(0, 3, 2, 10), way(2, 14, 0), age{2, 14}},
		{news(0, 3, 2, 13), way(2, 17, 0), age{2, 14}},
		{news(0, 3, 2, 14), none(2), age{2, 14}},
		{news(0, 3, 1, 1), none(2), age{2, 14}},
		{news(0, 3, 2, 9), way(2, 13, 0), age{2, 13}},
		{news(0, 3, 2, far), none(2), age{2, 13}},
		{news(0, 3, 3, 100), way(3, 104, 0), age{3, 104}},
		{news(0, 3, 2, 0), none(3), age{3, 104}},
		{news(0, 3, 9, 196), none(3), age{3, 104}},
		{news(0, 3, 9, 195), way(9, 199, 0), age{9, 199}},
		{news(0, 3, 0, far), none(9), age{9, 199}},
	} {
		hear(t, n, x.heard)
		wantWay(t, x, n, 3, x.way)
		wantBest(t, x, n, 3, x.best.seq, x.best.dist)
	}
	wantCode(t, "Link", n.Link(0, 0), 0)
	wantWay(t, "broken", n, 3, none(9))
	wantBest(t, "broken", n, 3, 9, 199)
}

// A link of the cost 0 forgets what that one said, of all nodes, and no more:
// what others said stays. A link of another cost forgets nothing.
func TestForget(t *testing.T) {
	n := linked(t, 1, 2, 0, 3)
	for _, to := range []int{0, 2, 3, 4, 5} {
		hear(t, n, news(0, to, 1, 10), news(2, to, 1, 11))
		wantWay(t, to, n, to, way(1, 12, 0))
	}
	wantCode(t, "dearer", n.Link(0, 9), 0)
	for _, to := range []int{0, 2, 3, 4, 5} {
		wantWay(t, "dearer", n, to, way(1, 14, 2))
	}
	wantCode(t, "cheaper", n.Link(0, 1), 0)
	for _, to := range []int{0, 2, 3, 4, 5} {
		wantWay(t, "cheaper", n, to, way(1, 11, 0))
		wantBest(t, "cheaper", n, to, 1, 11)
	}
	wantCode(t, "the same", n.Link(0, 1), 0)
	wantWay(t, "the same", n, 5, way(1, 11, 0))
	wantCode(t, "broken", n.Link(0, 0), 0)
	wantCode(t, "broken", n.Hear(news(0, 5, 1, 0)), api.ErrNone)
	wantCode(t, "linked anew", n.Link(0, 1), 0)
	for _, to := range []int{0, 2, 3, 4, 5} {
		wantWay(t, "linked anew", n, to, none(1))
		wantBest(t, "linked anew", n, to, 1, 11)
	}
	hear(t, n, news(2, 5, 1, 10), news(0, 4, 1, 10))
	wantWay(t, "heard anew", n, 5, way(1, 13, 2))
	wantWay(t, "heard anew", n, 4, way(1, 11, 0))
}

// What another one said stays when one is forgotten.
func TestForgetOneAlone(t *testing.T) {
	n := linked(t, 1, 2, 0, 3)
	hear(t, n, news(0, 5, 1, 10), news(2, 5, 1, 11), news(2, 4, 6, 1))
	wantCode(t, "broken", n.Link(0, 0), 0)
	wantWay(t, "the other one's", n, 5, way(1, 14, 2))
	wantBest(t, "the other one's", n, 5, 1, 12)
	wantWay(t, "the other one's", n, 4, way(6, 4, 2))
}

// A link that is none already may be broken again: nothing is changed.
func TestBreakNone(t *testing.T) {
	n := busy(t)
	before := known(n)
	for _, who := range []int{4, 5, 4} {
		wantCode(t, who, n.Link(who, 0), 0)
		wantCode(t, who, n.Hear(news(who, 0, 99, 0)), api.ErrNone)
	}
	wantKnown(t, "broken", n, before)
}

// What is said last counts: it stands in place of what was said ahead.
func TestSaidLast(t *testing.T) {
	n := linked(t, 1, 1, 0, 1)
	hear(t, n, news(0, 3, 5, 50), news(2, 3, 5, 45))
	wantWay(t, "the shorter one", n, 3, way(5, 46, 2))
	hear(t, n, news(2, 3, 4, 1))
	wantWay(t, "an older one in its place", n, 3, none(5))
	hear(t, n, news(0, 3, 5, 40))
	wantWay(t, "shorter than it was", n, 3, way(5, 41, 0))
}

// News of itself are taken, whatever they are, and change neither way nor best.
func TestNewsOfItself(t *testing.T) {
	for me := range api.MaxNodes {
		n := New(me)
		n.Tick()
		for who := range api.MaxNodes {
			if who == me {
				continue
			}
			wantCode(t, "Link", n.Link(who, 1), 0)
			for _, x := range []age{{0, 0}, {1, 0}, {2, 0}, {9, 30}, {math.MaxInt, 0}, {math.MaxInt, far}, {0, far}} {
				before := known(n)
				hear(t, n, news(who, me, x.seq, x.dist))
				wantKnown(t, x, n, before)
				wantWay(t, x, n, me, way(1, 0, me))
				wantBest(t, x, n, me, 1, 0)
			}
			wantCode(t, "Link", n.Link(who, 0), 0)
			wantWay(t, "broken", n, me, way(1, 0, me))
		}
	}
}

// Tick: of the way to itself alone, whose best it always is.
func TestTick(t *testing.T) {
	n := busy(t)
	for ticks := 1; ticks <= 5; ticks++ {
		wantWay(t, ticks, n, 1, way(ticks, 0, 1))
		wantBest(t, ticks, n, 1, ticks, 0)
		wantWay(t, ticks, n, 0, way(3, 3, 2))
		wantWay(t, ticks, n, 2, way(8, 1, 2))
		wantWay(t, ticks, n, 3, way(9, 15, 3))
		wantWay(t, ticks, n, 4, way(2, 34, 0))
		wantWay(t, ticks, n, 5, way(7, 33, 3))
		wantBest(t, ticks, n, 0, 3, 3)
		wantBest(t, ticks, n, 5, 7, 20)
		wantCode(t, ticks, n.Tell(0)[1].Seq, ticks)
		n.Tick()
	}
}

// Links and news leave the way to itself as Tick made it.
func TestTickStays(t *testing.T) {
	n := New(4)
	n.Tick()
	n.Tick()
	wantCode(t, "Link", n.Link(0, 1), 0)
	hear(t, n, news(0, 4, 77, 1), news(0, 3, 77, 1))
	wantCode(t, "Link", n.Link(0, 0), 0)
	wantWay(t, "twice", n, 4, way(2, 0, 4))
	wantBest(t, "twice", n, 4, 2, 0)
	wantWay(t, "of another one", n, 3, none(77))
}

func TestTell(t *testing.T) {
	n := busy(t)
	want := []api.News{
		{From: 1, For: 3, To: 0, Seq: 3, Dist: 3},
		{From: 1, For: 3, To: 1, Seq: 1, Dist: 0},
		{From: 1, For: 3, To: 2, Seq: 8, Dist: 1},
		{From: 1, For: 3, To: 3, Seq: 9, Dist: 15},
		{From: 1, For: 3, To: 4, Seq: 2, Dist: 34},
		{From: 1, For: 3, To: 5, Seq: 7, Dist: 33},
	}
	wantNews(t, "Tell", n.Tell(3), want)
	wantCode(t, "Link", n.Link(3, 0), 0)
	// One with whom there is no link is told all the same; a way that is none has
	// the age of the best.
	want[3].Dist, want[5].Dist = far, far
	wantNews(t, "Tell", n.Tell(3), want)
}

func TestTellOfANewOne(t *testing.T) {
	for me := range api.MaxNodes {
		for who := range api.MaxNodes {
			list := New(me).Tell(who)
			wantCode(t, "how many", len(list), api.MaxNodes)
			for to, x := range list {
				want := api.News{From: me, For: who, To: to, Dist: far}
				if to == me {
					want.Dist = 0
				}
				if x != want {
					t.Errorf("%v, want %v", x, want)
				}
			}
		}
	}
}

// Whoever is told, itself or no node at all: For is that number.
func TestTellWhomever(t *testing.T) {
	n := busy(t)
	want := n.Tell(0)
	for _, who := range append(noNodes(), 0, 1, 2, 3, 4, 5) {
		for i := range want {
			want[i].For = who
		}
		wantNews(t, who, n.Tell(who), want)
	}
}

// What one node tells another one can hear as it is.
func TestTellAndHear(t *testing.T) {
	one, other := linked(t, 0, 0, 3), linked(t, 1, 3, 0, 5)
	other.Tick()
	hear(t, other, news(2, 2, 6, 0), news(2, 5, 2, 40))
	hear(t, one, other.Tell(0)...)
	wantWay(t, "the other one", one, 1, way(1, 3, 1))
	wantWay(t, "behind it", one, 2, way(6, 8, 1))
	wantWay(t, "behind it", one, 5, way(2, 48, 1))
	wantWay(t, "nobody knows", one, 3, none(0))
	hear(t, other, one.Tell(1)...)
	wantWay(t, "not back by whom it tells", other, 2, way(6, 5, 2))
	wantCode(t, "broken", other.Link(2, 0), 0)
	wantWay(t, "not round", other, 2, none(6))
	wantWay(t, "not round", other, 5, none(2))
}

func TestNoSuchNode(t *testing.T) {
	for _, n := range []*Node{New(0), New(5), busy(t)} {
		for _, to := range noNodes() {
			wantWay(t, "no node", n, to, none(0))
			wantBest(t, "no node", n, to, 0, far)
		}
	}
}

// randomNumber is mostly one below so many, and now and then one of the others.
func randomNumber(r *rand.Rand, below int, others []int) int {
	if r.Intn(25) == 0 {
		return others[r.Intn(len(others))]
	}
	return r.Intn(below)
}

// randomDist is a length: mostly so small that many are alike, or about Far.
func randomDist(r *rand.Rand) int {
	if r.Intn(4) == 0 {
		return far - randomNumber(r, 20, []int{0, 1, 2})
	}
	return randomNumber(r, 12, append(noDists(), far))
}

// randomCost is mostly cheap, so that sums are alike, and often 0.
func randomCost(r *rand.Rand) int {
	if r.Intn(3) == 0 {
		return randomNumber(r, api.MaxCost+1, noCosts())
	}
	return randomNumber(r, 4, noCosts())
}

// Whatever is asked in whatever order: a node knows what the chapter says.
func TestRandomNodes(t *testing.T) {
	r := rand.New(rand.NewSource(6))
	for range 150 {
		me, ages := r.Intn(api.MaxNodes), 1+r.Intn(4)
		n, m := New(me), newModel(me)
		for range 60 {
			switch r.Intn(6) {
			case 0:
				n.Tick()
				m.ticks++
			case 1, 2:
				who, cost := randomNumber(r, api.MaxNodes, noNodes()), randomCost(r)
				wantCode(t, []int{who, cost}, n.Link(who, cost), m.link(who, cost))
			default:
				x := news(randomNumber(r, api.MaxNodes, noNodes()), randomNumber(r, api.MaxNodes, noNodes()),
					randomNumber(r, ages, append(noSeqs(), 2, 3)), randomDist(r))
				wantCode(t, x, n.Hear(x), m.hear(x))
			}
			wantAll(t, me, n, m)
			if t.Failed() {
				return
			}
		}
	}
}

// The best never grows worse, whatever is asked.
func TestRandomBest(t *testing.T) {
	r := rand.New(rand.NewSource(7))
	for range 60 {
		n := New(2)
		var bests [api.MaxNodes]age
		for to := range bests {
			bests[to].seq, bests[to].dist = n.Best(to)
		}
		for range 100 {
			if r.Intn(3) == 0 {
				n.Link(r.Intn(api.MaxNodes), randomCost(r))
			} else {
				n.Hear(news(r.Intn(api.MaxNodes), r.Intn(api.MaxNodes), r.Intn(5), randomDist(r)))
			}
			for to, old := range bests {
				seq, dist := n.Best(to)
				if Better(old.seq, old.dist, seq, dist) {
					t.Fatalf("the best of %d: %d %d behind %v", to, seq, dist, old)
				}
				if x := n.Way(to); Better(x.Seq, x.Dist, seq, dist) {
					t.Fatalf("the way to %d is %v, better than the best %d %d", to, x, seq, dist)
				}
				bests[to] = age{seq, dist}
			}
		}
	}
}

// What was told ahead stays as it was, whatever is asked later.
func TestToldStays(t *testing.T) {
	n := busy(t)
	told := n.Tell(3)
	want := slices.Clone(told)
	n.Tick()
	hear(t, n, news(0, 4, 50, 1), news(2, 0, 50, 1))
	wantCode(t, "Link", n.Link(0, 0), 0)
	wantCode(t, "Link", n.Link(3, 2), 0)
	other := n.Tell(2)
	if slices.Equal(other, want) {
		t.Error("nothing was changed")
	}
	wantNews(t, "told ahead", told, want)
}

// Who writes into a list that was told, or behind its end, changes neither the
// node nor another list.
func TestToldIsNew(t *testing.T) {
	n := busy(t)
	before, want, other := known(n), slices.Clone(n.Tell(3)), n.Tell(3)
	for _, list := range [][]api.News{n.Tell(3), n.Tell(3)[:0], n.Tell(-1)} {
		list = append(list, news(7, 7, 7, 7))
		list = list[:cap(list)]
		for i := range list {
			list[i] = news(8, 8, 8, 8)
		}
	}
	wantKnown(t, "written", n, before)
	wantNews(t, "told ahead", other, want)
	wantNews(t, "told behind", n.Tell(3), want)
	hear(t, n, news(3, 5, 7, 18))
	wantKnown(t, "heard as ahead", n, before)
}

// Two nodes know nothing of each other, though they have the same number, and
// asking changes nothing.
func TestNodesStayApart(t *testing.T) {
	one, other := busy(t), New(1)
	before := known(one)
	wantAll(t, "new", other, newModel(1))
	other.Tick()
	wantCode(t, "Link", other.Link(3, 9), 0)
	hear(t, other, news(3, 5, 99, 9))
	for range 2 {
		wantKnown(t, "one", one, before)
		wantWay(t, "other", other, 5, way(99, 18, 3))
		wantWay(t, "other", other, 0, none(0))
	}
}

// Of a nil nothing is promised, but no call panics: it is asked as a node that
// knows none, and nothing can be linked or heard there.
func TestNil(t *testing.T) {
	var n *Node
	n.Tick()
	for to := -1; to <= api.MaxNodes; to++ {
		wantWay(t, "nil", n, to, none(0))
		wantBest(t, "nil", n, to, 0, far)
		wantCode(t, "nil", len(n.Tell(to)), 0)
	}
	wantCode(t, "Link", n.Link(0, 1), api.ErrNone)
	wantCode(t, "Link", n.Link(6, 1), api.ErrRange)
	wantCode(t, "Hear", n.Hear(news(0, 1, 0, 0)), api.ErrNone)
	wantCode(t, "Hear", n.Hear(news(0, 6, 0, 0)), api.ErrRange)
}

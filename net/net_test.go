package net

import (
	"fmt"
	"math"
	"math/rand"
	"slices"
	"testing"

	"handpost/api"
	"handpost/links"
	"handpost/node"
)

// far is the number Far, short enough to stand in rows.
const far = api.Far

// none is a way that leads nowhere, of an age.
func none(seq int) api.Way {
	return api.Way{Seq: seq, Dist: far, Hop: api.Drop}
}

// way is one that leads to a neighbour.
func way(seq, dist, hop int) api.Way {
	return api.Way{Seq: seq, Dist: dist, Hop: hop}
}

func link(a, b, cost int) api.Step {
	return api.Step{Kind: api.SLink, A: a, B: b, N: cost}
}

func tick(a int) api.Step {
	return api.Step{Kind: api.STick, A: a}
}

func tell(a, b int) api.Step {
	return api.Step{Kind: api.STell, A: a, B: b}
}

func hear(place int) api.Step {
	return api.Step{Kind: api.SHear, N: place}
}

func lose(place int) api.Step {
	return api.Step{Kind: api.SLose, N: place}
}

func double(place int) api.Step {
	return api.Step{Kind: api.SDouble, N: place}
}

// do does steps that have no fault.
func do(t *testing.T, n *Net, steps ...api.Step) {
	t.Helper()
	for _, x := range steps {
		wantCode(t, x, n.Do(x), 0)
	}
}

// with makes a Net by steps that have no fault.
func with(t *testing.T, steps ...api.Step) *Net {
	t.Helper()
	n := New()
	if n == nil {
		t.Fatal("New: nil")
	}
	do(t, n, steps...)
	return n
}

// hearAll lets all news come in that are on their way, in their order.
func hearAll(t *testing.T, n *Net) {
	t.Helper()
	for range n.News() {
		do(t, n, hear(0))
	}
	wantCode(t, "news behind all that were heard", len(n.News()), 0)
}

// filled makes a Net with so many news on their way, all from 0 to 1; 2 is
// linked with 0, too, and 3 with 2.
func filled(t *testing.T, count int) *Net {
	t.Helper()
	n := with(t, link(0, 1, 2), link(2, 0, 3), link(2, 3, 4))
	do(t, n, tell(0, 1))
	for range count - api.MaxNodes {
		do(t, n, double(0))
	}
	for range api.MaxNodes - count {
		do(t, n, lose(0))
	}
	wantCode(t, "filled", len(n.News()), count)
	return n
}

// wantCode holds a code, or a number, against the one that the chapter asks for.
func wantCode(t *testing.T, what any, got, want int) {
	t.Helper()
	if got != want {
		t.Errorf("%v: %d, want %d", what, got, want)
	}
}

// wantWay holds the way from a node to a node against this one.
func wantWay(t *testing.T, what any, n *Net, from, to int, want api.Way) {
	t.Helper()
	if got := n.Way(from, to); got != want {
		t.Errorf("%v: the way from %d to %d: %v, want %v", what, from, to, got, want)
	}
}

// wantBest holds the best of a node against this one.
func wantBest(t *testing.T, what any, n *Net, from, to, seq, dist int) {
	t.Helper()
	if s, d := n.Best(from, to); s != seq || d != dist {
		t.Errorf("%v: the best from %d to %d: %d %d, want %d %d", what, from, to, s, d, seq, dist)
	}
}

// wantPath holds the path from a node to a node against this one; right: it does
// not come to a node a second time, but to the node to.
func wantPath(t *testing.T, n *Net, from, to int, right bool, want ...int) {
	t.Helper()
	if got, ok := n.Path(from, to); !slices.Equal(got, want) || ok != right {
		t.Errorf("Path(%d, %d): %v %v, want %v %v", from, to, got, ok, want, right)
	}
}

// wantNews holds news against these.
func wantNews(t *testing.T, what any, got, want []api.News) {
	t.Helper()
	if !slices.Equal(got, want) {
		t.Errorf("%v: news %v, want %v", what, got, want)
	}
}

// known tells all that can be asked of a Net.
func known(n *Net) string {
	list := []any{n.News(), n.List()}
	for from := -1; from <= api.MaxNodes; from++ {
		list = append(list, n.Of(from), n.Far(from))
		for to := -1; to <= api.MaxNodes; to++ {
			seq, dist := n.Best(from, to)
			path, ok := n.Path(from, to)
			list = append(list, n.Way(from, to), seq, dist, path, ok, n.Cost(from, to))
		}
	}
	return fmt.Sprint(list)
}

// wantKnown holds all that can be asked of a Net against what it was ahead.
func wantKnown(t *testing.T, what any, n *Net, want string) {
	t.Helper()
	if got := known(n); got != want {
		t.Errorf("%v: %s, want %s", what, got, want)
	}
}

// refuse does a step that has this code, and changes nothing.
func refuse(t *testing.T, n *Net, code int, steps ...api.Step) {
	t.Helper()
	before := known(n)
	for _, x := range steps {
		wantCode(t, x, n.Do(x), code)
	}
	wantKnown(t, "refused", n, before)
}

// noNodes are numbers of which there is no node: on either side, just outside
// and far beyond, such as are nodes by their lowest bits among them.
func noNodes() []int {
	return []int{
		-1, -2, -api.MaxNodes, -255, -1 << 32, math.MinInt, math.MinInt + 1, math.MinInt + 3,
		api.MaxNodes, api.MaxNodes + 1, 2 * api.MaxNodes, 255, 256, 1 << 16, 1 << 32, 1<<32 + 1, math.MaxInt - 1, math.MaxInt,
	}
}

// noCosts are what no link costs.
func noCosts() []int {
	return []int{
		-1, -2, -api.MaxCost, -256, -1<<32 + 1, math.MinInt, math.MinInt + 1,
		api.MaxCost + 1, api.MaxCost + 2, far, 256, 257, 1<<32 + 1, math.MaxInt - 1, math.MaxInt,
	}
}

// noPlaces are such as have no news where so many are on their way.
func noPlaces(count int) []int {
	return []int{
		-1, -2, -count - 1, -1 << 32, math.MinInt, math.MinInt + 1,
		count, count + 1, 1 << 32, 1<<32 + 1, math.MaxInt - 1, math.MaxInt,
	}
}

// noKinds are no kinds of a Net's steps.
func noKinds() []int {
	return []int{0, -1, -2, api.SOwn, 8, 9, 256 + api.SLink, 1<<32 + api.STick, math.MinInt, math.MinInt + api.SLink, math.MaxInt}
}

// model is a Net in the chapter's words: what it asks of nodes, they are asked;
// links and news it has itself.
type model struct {
	costs map[[2]int]int
	nodes []*node.Node
	news  []api.News
}

func newModel() *model {
	m := &model{costs: map[[2]int]int{}}
	for me := range 6 {
		m.nodes = append(m.nodes, node.New(me))
	}
	return m
}

func (m *model) node(x int) bool {
	return slices.Contains([]int{0, 1, 2, 3, 4, 5}, x)
}

func (m *model) linked(a, b int) bool {
	return m.costs[[2]int{a, b}] != 0
}

// do does a step, and tells its code.
func (m *model) do(x api.Step) int {
	switch x.Kind {
	case api.SLink:
		if !m.node(x.A) || !m.node(x.B) || x.A == x.B || x.N < 0 || x.N > 15 {
			return api.ErrRange
		}
		m.costs[[2]int{x.A, x.B}], m.costs[[2]int{x.B, x.A}] = x.N, x.N
		return max(m.nodes[x.A].Link(x.B, x.N), m.nodes[x.B].Link(x.A, x.N))
	case api.STell:
		return m.tell(x.A, x.B)
	case api.STick:
		return m.tick(x.A)
	case api.SHear, api.SLose, api.SDouble:
		return m.onTheWay(x.Kind, x.N)
	}
	return api.ErrKind
}

func (m *model) tell(a, b int) int {
	switch {
	case !m.node(a), !m.node(b):
		return api.ErrRange
	case !m.linked(a, b):
		return api.ErrNone
	case len(m.news) > 34:
		return api.ErrFull
	}
	m.news = append(m.news, m.nodes[a].Tell(b)...)
	return 0
}

func (m *model) tick(a int) int {
	if !m.node(a) {
		return api.ErrRange
	}
	m.nodes[a].Tick()
	for b := range 6 {
		if m.linked(a, b) {
			if code := m.tell(a, b); code != 0 {
				return code
			}
		}
	}
	return 0
}

// onTheWay does what is done to the news in a place.
func (m *model) onTheWay(kind, place int) int {
	if place < 0 || place >= len(m.news) {
		return api.ErrNone
	}
	x := m.news[place]
	if kind == api.SDouble {
		if len(m.news) == 40 {
			return api.ErrFull
		}
		m.news = append(m.news, x)
		return 0
	}
	m.news = append(slices.Clone(m.news[:place]), m.news[place+1:]...)
	if kind == api.SHear {
		return m.nodes[x.For].Hear(x)
	}
	return 0
}

// settle goes all rounds, though nothing may be changed any more.
func (m *model) settle(rounds int) {
	m.news = nil
	for _, x := range m.nodes {
		x.Tick()
	}
	for range max(rounds, 0) {
		for a := range 6 {
			for b := range 6 {
				for to := 0; to < 6 && m.linked(a, b); to++ {
					m.nodes[b].Hear(m.nodes[a].Tell(b)[to])
				}
			}
		}
	}
}

// path goes where ways go, to where it was already or to no node: false only where
// it was already, if that is not the node to.
func (m *model) path(from, to int) ([]int, bool) {
	var path []int
	been := map[int]int{}
	for at := from; m.node(at); at = m.nodes[at].Way(to).Hop {
		if been[at]++; been[at] > 1 {
			return path, at == to
		}
		path = append(path, at)
	}
	return path, true
}

// wantAll holds all that a Net tells against a model.
func wantAll(t *testing.T, what any, n *Net, m *model) {
	t.Helper()
	wantNews(t, what, n.News(), m.news)
	for from := range 6 {
		for to := range 6 {
			seq, dist := m.nodes[from].Best(to)
			path, right := m.path(from, to)
			wantWay(t, what, n, from, to, m.nodes[from].Way(to))
			wantBest(t, what, n, from, to, seq, dist)
			wantPath(t, n, from, to, right, path...)
			wantCode(t, what, n.Cost(from, to), m.costs[[2]int{from, to}])
		}
	}
}

func TestNew(t *testing.T) {
	n := with(t)
	wantAll(t, "New", n, newModel())
	wantCode(t, "news", len(n.News()), 0)
	wantCode(t, "links", len(n.List()), 0)
	for from := range api.MaxNodes {
		for to := range api.MaxNodes {
			if from == to {
				wantWay(t, "New", n, from, to, way(0, 0, from))
				wantBest(t, "New", n, from, to, 0, 0)
				wantPath(t, n, from, to, true, from)
				continue
			}
			wantWay(t, "New", n, from, to, none(0))
			wantBest(t, "New", n, from, to, 0, far)
			wantPath(t, n, from, to, true, from)
			wantCode(t, "no links", n.Do(tell(from, to)), api.ErrNone)
		}
	}
}

// What Links tell, a Net tells of those that Do set.
func TestLinksOfANet(t *testing.T) {
	n := with(t, link(4, 1, 3), link(1, 2, 15), link(2, 4, 1), link(0, 5, 7), link(5, 0, 0))
	l := links.New()
	for _, x := range []api.Link{{A: 1, B: 4, Cost: 3}, {A: 1, B: 2, Cost: 15}, {A: 2, B: 4, Cost: 1}} {
		wantCode(t, x, l.Set(x.A, x.B, x.Cost), 0)
	}
	if !slices.Equal(n.List(), l.List()) || !slices.Equal(n.Links.List(), l.List()) {
		t.Errorf("List: %v, want %v", n.List(), l.List())
	}
	for a := -1; a <= api.MaxNodes; a++ {
		if !slices.Equal(n.Of(a), l.Of(a)) || !slices.Equal(n.Far(a), l.Far(a)) {
			t.Errorf("%d: %v %v, want %v %v", a, n.Of(a), n.Far(a), l.Of(a), l.Far(a))
		}
		for b := -1; b <= api.MaxNodes; b++ {
			wantCode(t, []int{a, b}, n.Cost(a, b), l.Cost(a, b))
		}
	}
}

// Each two nodes for each cost: each of them hears the other one, for that cost,
// and no third one can be told.
func TestLinkBothKnow(t *testing.T) {
	for a := range api.MaxNodes {
		for b := range api.MaxNodes {
			for cost := 1; cost <= api.MaxCost && a != b; cost++ {
				n := with(t, link(a, b, cost), tell(a, b), tell(b, a))
				hearAll(t, n)
				wantWay(t, cost, n, a, b, way(0, cost, b))
				wantWay(t, cost, n, b, a, way(0, cost, a))
				wantBest(t, cost, n, a, b, 0, cost)
				wantCode(t, cost, n.Cost(a, b), cost)
				wantCode(t, cost, n.Cost(b, a), cost)
				third := slices.IndexFunc([]int{0, 1, 2}, func(x int) bool { return x != a && x != b })
				refuse(t, n, api.ErrNone, tell(a, third), tell(third, b))
			}
		}
	}
}

// A link that costs something else, set from either end: both ways are as long.
func TestLinkCostChanges(t *testing.T) {
	for _, x := range []api.Step{link(1, 4, 9), link(4, 1, 9)} {
		n := with(t, link(1, 4, 3), tell(1, 4), tell(4, 1))
		hearAll(t, n)
		do(t, n, x)
		wantWay(t, x, n, 1, 4, way(0, 9, 4))
		wantWay(t, x, n, 4, 1, way(0, 9, 1))
		wantBest(t, x, n, 1, 4, 0, 3)
		wantBest(t, x, n, 4, 1, 0, 3)
	}
}

// A link that breaks, from either end: both forget what was said, and it is not
// known when they are linked anew.
func TestLinkBreaks(t *testing.T) {
	for _, x := range []api.Step{link(1, 4, 0), link(4, 1, 0)} {
		n := with(t, link(1, 4, 3), tell(1, 4), tell(4, 1))
		hearAll(t, n)
		do(t, n, x, x)
		refuse(t, n, api.ErrNone, tell(1, 4), tell(4, 1))
		for _, y := range []api.Step{x, link(1, 4, 1)} {
			do(t, n, y)
			wantWay(t, x, n, 1, 4, none(0))
			wantWay(t, x, n, 4, 1, none(0))
			wantBest(t, x, n, 1, 4, 0, 3)
			wantBest(t, x, n, 4, 1, 0, 3)
		}
		wantCode(t, "anew", n.Cost(4, 1), 1)
	}
}

// busy makes a Net with links, ways, bests that are not ways, and news on their
// way, one of which comes by a link that broke.
func busy(t *testing.T) *Net {
	t.Helper()
	n := with(t, link(0, 1, 2), link(1, 2, 2), link(2, 3, 5), link(0, 3, 15), tick(0))
	hearAll(t, n)
	do(t, n, tick(1), hear(4), hear(8), tick(3))
	hearAll(t, n)
	do(t, n, link(1, 2, 0), tell(0, 1), tell(0, 3), double(2), link(0, 3, 0))
	wantCode(t, "busy", len(n.News()), 13)
	wantWay(t, "busy", n, 1, 0, way(1, 2, 0))
	wantWay(t, "busy", n, 0, 3, none(1))
	return n
}

// What can't be linked: ErrRange, and nothing is changed.
func TestLinkFaults(t *testing.T) {
	for _, n := range []*Net{New(), busy(t)} {
		var steps []api.Step
		for _, cost := range append(noCosts(), 0, 1, api.MaxCost) {
			for a := range api.MaxNodes {
				steps = append(steps, link(a, a, cost))
				for _, bad := range noNodes() {
					steps = append(steps, link(a, bad, cost), link(bad, a, cost), link(bad, bad, cost))
				}
			}
		}
		for _, cost := range noCosts() {
			for a := range api.MaxNodes {
				for b := range api.MaxNodes {
					steps = append(steps, link(a, b, cost))
				}
			}
		}
		refuse(t, n, api.ErrRange, steps...)
	}
}

// A link that was refused is known to neither end.
func TestLinkFaultsAreNotKnown(t *testing.T) {
	n := with(t, link(0, 1, 4), tell(0, 1), tell(1, 0))
	hearAll(t, n)
	for _, cost := range noCosts() {
		refuse(t, n, api.ErrRange, link(0, 1, cost), link(1, 0, cost), link(2, 1, cost))
	}
	refuse(t, n, api.ErrNone, tell(1, 2), tell(2, 1))
	do(t, n, tick(0))
	hearAll(t, n)
	wantWay(t, "as ahead", n, 1, 0, way(1, 4, 0))
}

// What is told comes behind the others, as the node tells it.
func TestTell(t *testing.T) {
	n := with(t, link(0, 1, 2), link(2, 1, 3), tell(0, 1))
	want := []api.News{
		{From: 0, For: 1, To: 0},
		{From: 0, For: 1, To: 1, Dist: far}, {From: 0, For: 1, To: 2, Dist: far}, {From: 0, For: 1, To: 3, Dist: far},
		{From: 0, For: 1, To: 4, Dist: far}, {From: 0, For: 1, To: 5, Dist: far},
	}
	wantNews(t, "told", n.News(), want)
	do(t, n, hear(0), tell(1, 2))
	want = append(want[1:],
		api.News{From: 1, For: 2, To: 0, Dist: 2}, api.News{From: 1, For: 2, To: 1},
		api.News{From: 1, For: 2, To: 2, Dist: far}, api.News{From: 1, For: 2, To: 3, Dist: far},
		api.News{From: 1, For: 2, To: 4, Dist: far}, api.News{From: 1, For: 2, To: 5, Dist: far})
	wantNews(t, "told behind", n.News(), want)
	wantWay(t, "heard by none yet", n, 2, 0, none(0))
	hearAll(t, n)
	wantWay(t, "heard", n, 2, 0, way(0, 5, 1))
	wantWay(t, "heard", n, 2, 1, way(0, 3, 1))
}

// No such nodes: ErrRange, though there is no link and no room. Not linked, as
// one is not with itself: ErrNone, though there is no room.
func TestTellFaults(t *testing.T) {
	for _, n := range []*Net{New(), busy(t), filled(t, api.MaxNews)} {
		for _, bad := range noNodes() {
			for a := range api.MaxNodes {
				refuse(t, n, api.ErrRange, tell(a, bad), tell(bad, a), tell(bad, bad))
			}
			for _, other := range noNodes() {
				refuse(t, n, api.ErrRange, tell(bad, other))
			}
		}
		for a := range api.MaxNodes {
			refuse(t, n, api.ErrNone, tell(a, a))
			for b := range api.MaxNodes {
				if n.Cost(a, b) == 0 {
					refuse(t, n, api.ErrNone, tell(a, b))
				}
			}
		}
	}
}

// The next six come just to MaxNews; to one more: none of them comes.
func TestTellRoom(t *testing.T) {
	for count := range api.MaxNews + 1 {
		n := filled(t, count)
		before := n.News()
		if count > 34 {
			refuse(t, n, api.ErrFull, tell(0, 2), tell(0, 1), tell(2, 3))
			continue
		}
		do(t, n, tell(2, 3))
		wantCode(t, count, len(n.News()), count+6)
		wantNews(t, count, n.News()[:count], before)
		wantCode(t, count, n.News()[count].From, 2)
	}
}

func TestTick(t *testing.T) {
	n := with(t, link(3, 5, 2), link(3, 0, 1), link(4, 3, 9), link(1, 2, 1), tell(1, 2))
	do(t, n, tick(3))
	list := n.News()
	wantCode(t, "three are told", len(list), 4*api.MaxNodes)
	for i, x := range list {
		who := []int{2, 0, 4, 5}[i/api.MaxNodes]
		wantCode(t, "For", x.For, who)
		wantCode(t, "From", x.From, []int{1, 3, 3, 3}[i/api.MaxNodes])
		wantCode(t, "To", x.To, i%api.MaxNodes)
		if x.From == 3 && x.To == 3 {
			wantCode(t, "younger by then", x.Seq, 1)
		}
	}
	wantWay(t, "itself", n, 3, 3, way(1, 0, 3))
	wantBest(t, "itself", n, 3, 3, 1, 0)
	wantWay(t, "another one", n, 1, 1, way(0, 0, 1))
}

// A node without links: it is younger, and nobody is told.
func TestTickOfOneAlone(t *testing.T) {
	for a := range api.MaxNodes {
		n := with(t, link(a, (a+1)%6, 1), link(a, (a+1)%6, 0), tick(a), tick(a))
		wantCode(t, "news", len(n.News()), 0)
		wantWay(t, "twice", n, a, a, way(2, 0, a))
	}
}

func TestTickFaults(t *testing.T) {
	for _, n := range []*Net{New(), busy(t), filled(t, api.MaxNews)} {
		for _, bad := range noNodes() {
			refuse(t, n, api.ErrRange, tick(bad))
		}
	}
}

// The room ends at the second neighbour: what was told to the first stays, and
// the Tick, too. It ends at the first, or not at all.
func TestTickRoom(t *testing.T) {
	for count := range api.MaxNews + 1 {
		n := filled(t, count)
		before := n.News()
		code, more := 0, 12
		switch {
		case count > 34:
			code, more = api.ErrFull, 0
		case count > 28:
			code, more = api.ErrFull, 6
		}
		wantCode(t, count, n.Do(tick(0)), code)
		wantWay(t, count, n, 0, 0, way(1, 0, 0))
		wantCode(t, count, len(n.News()), count+more)
		wantNews(t, count, n.News()[:count], before)
		for i, x := range n.News()[count:] {
			wantCode(t, count, x.For, []int{1, 2}[i/6])
		}
	}
}

// Where the second neighbour can't be told those behind it are not told either.
func TestTickStopsAtTheFirst(t *testing.T) {
	n := filled(t, 30)
	do(t, n, link(0, 4, 1), link(0, 5, 1))
	wantCode(t, "the second", n.Do(tick(0)), api.ErrFull)
	wantCode(t, "the first alone", len(n.News()), 36)
	wantCode(t, "and again", n.Do(tick(0)), api.ErrFull)
	wantCode(t, "none", len(n.News()), 36)
	wantWay(t, "twice", n, 0, 0, way(2, 0, 0))
}

// The news in a place: heard, lost and doubled from everywhere, the others in
// their order.
func TestPlaces(t *testing.T) {
	steps := []api.Step{link(0, 1, 2), link(1, 2, 3), tick(1), tell(0, 1), double(13), lose(3)}
	list := with(t, steps...).News()
	wantCode(t, "news", len(list), 18)
	for place, x := range list {
		rest := slices.Delete(slices.Clone(list), place, place+1)
		n := with(t, append(steps, hear(place))...)
		wantNews(t, "heard", n.News(), rest)
		if x.Dist != far {
			wantWay(t, "heard", n, x.For, x.To, way(x.Seq, x.Dist+n.Cost(x.From, x.For), x.From))
		}
		n = with(t, append(steps, lose(place))...)
		wantNews(t, "lost", n.News(), rest)
		wantWay(t, "lost", n, x.For, x.To, with(t, steps...).Way(x.For, x.To))
		n = with(t, append(steps, double(place))...)
		wantNews(t, "doubled", n.News(), append(slices.Clone(list), x))
		wantWay(t, "doubled", n, x.For, x.To, with(t, steps...).Way(x.For, x.To))
	}
}

// No news in that place: ErrNone, and nothing is changed; the last one has some.
func TestPlaceFaults(t *testing.T) {
	for _, count := range []int{0, 1, 6, 7, api.MaxNews - 1, api.MaxNews} {
		n := filled(t, count)
		for _, place := range noPlaces(count) {
			refuse(t, n, api.ErrNone, hear(place), lose(place), double(place))
		}
		if count > 0 && count < api.MaxNews {
			do(t, n, double(count-1), lose(count), hear(count-1))
			wantCode(t, count, len(n.News()), count-1)
		}
	}
}

// Doubled at MaxNews: ErrFull from every place, but ErrNone where there are none.
func TestDoubleRoom(t *testing.T) {
	n := filled(t, api.MaxNews-1)
	last := n.News()[api.MaxNews-2]
	do(t, n, double(api.MaxNews-2))
	wantCode(t, "full", len(n.News()), api.MaxNews)
	wantNews(t, "behind all", n.News()[api.MaxNews-1:], []api.News{last})
	for place := range api.MaxNews {
		refuse(t, n, api.ErrFull, double(place))
	}
	refuse(t, n, api.ErrNone, double(-1), double(api.MaxNews), double(math.MinInt), double(math.MaxInt))
	do(t, n, lose(0), double(0))
	refuse(t, n, api.ErrFull, double(0))
}

// News whose link broke on the way: the node's code, and they are on their way
// no longer. By a link that was set anew they come in.
func TestHearBroken(t *testing.T) {
	n := with(t, link(0, 1, 2), link(1, 2, 2), tick(0), tell(2, 1), link(0, 1, 0))
	rest := n.News()
	for i := range api.MaxNodes - 1 {
		wantCode(t, i, n.Do(hear(0)), api.ErrNone)
		rest = rest[1:]
		wantNews(t, i, n.News(), rest)
		wantWay(t, i, n, 1, 0, none(0))
	}
	do(t, n, double(0), link(0, 1, 7))
	do(t, n, hear(0))
	wantWay(t, "of another one", n, 1, 0, none(0))
	n = with(t, link(0, 1, 2), tick(0), link(0, 1, 0), link(1, 0, 7))
	hearAll(t, n)
	wantWay(t, "anew", n, 1, 0, way(1, 7, 0))
}

// Twice, late and in another order: what comes in last counts.
func TestHearInAnotherOrder(t *testing.T) {
	n := with(t, link(0, 1, 2), tick(0), tick(0))
	do(t, n, double(0), hear(6))
	wantWay(t, "the younger one", n, 1, 0, way(2, 2, 0))
	do(t, n, hear(0))
	wantWay(t, "the older one behind it", n, 1, 0, none(2))
	wantBest(t, "the older one behind it", n, 1, 0, 2, 2)
	do(t, n, hear(10))
	wantWay(t, "the older one again", n, 1, 0, none(2))
	do(t, n, tick(0), hear(10))
	wantWay(t, "a younger one", n, 1, 0, way(3, 2, 0))
}

// No such kind, the one of a layer behind this one among them: ErrKind, whatever
// else is in the step.
func TestKinds(t *testing.T) {
	for _, n := range []*Net{New(), busy(t), filled(t, api.MaxNews)} {
		for _, kind := range noKinds() {
			refuse(t, n, api.ErrKind,
				api.Step{Kind: kind}, api.Step{Kind: kind, A: 0, B: 1, N: 1},
				api.Step{Kind: kind, A: -1, B: 6, N: -1}, api.Step{Kind: kind, A: math.MinInt, B: math.MaxInt, N: math.MaxInt},
				api.Step{Kind: kind, A: 1, N: 1, P: api.Prefix{Len: 2, Bits: 1}})
		}
	}
}

// What a step of that kind has no use for changes nothing.
func TestOtherNumbersOfAStep(t *testing.T) {
	p := api.Prefix{Len: -1, Bits: math.MaxInt}
	for _, odd := range []int{math.MinInt, -1, 1, 3, api.MaxNodes, math.MaxInt} {
		n, other := busy(t), busy(t)
		for _, x := range []api.Step{link(4, 0, 3), tick(0), tell(0, 4), hear(2), lose(1), double(1)} {
			y := x
			y.P = p
			switch x.Kind {
			case api.STick:
				y.B, y.N = odd, odd
			case api.STell:
				y.N = odd
			case api.SHear, api.SLose, api.SDouble:
				y.A, y.B = odd, odd
			}
			wantCode(t, y, n.Do(y), other.Do(x))
			wantKnown(t, y, n, known(other))
		}
	}
}

func TestNoSuchNode(t *testing.T) {
	for _, n := range []*Net{New(), busy(t)} {
		for _, bad := range noNodes() {
			for a := range api.MaxNodes {
				wantWay(t, "from", n, bad, a, none(0))
				wantWay(t, "to", n, a, bad, none(0))
				wantBest(t, "from", n, bad, a, 0, far)
				wantBest(t, "to", n, a, bad, 0, far)
				wantPath(t, n, bad, a, true)
				wantPath(t, n, a, bad, true, a)
			}
			for _, other := range noNodes() {
				wantWay(t, "neither", n, bad, other, none(0))
				wantBest(t, "neither", n, bad, other, 0, far)
				wantPath(t, n, bad, other, true)
			}
		}
	}
}

// row makes a Net whose nodes are linked in a row.
func row(t *testing.T, cost int) *Net {
	t.Helper()
	return with(t, link(0, 1, cost), link(1, 2, cost), link(2, 3, cost), link(3, 4, cost), link(4, 5, cost))
}

func TestPath(t *testing.T) {
	n := row(t, 15)
	n.Settle(14)
	wantPath(t, n, 0, 5, true, 0, 1, 2, 3, 4, 5)
	wantPath(t, n, 5, 0, true, 5, 4, 3, 2, 1, 0)
	wantPath(t, n, 2, 4, true, 2, 3, 4)
	wantWay(t, "row", n, 0, 5, way(1, 75, 1))
	for a := range api.MaxNodes {
		wantPath(t, n, a, a, true, a)
	}
	do(t, n, link(2, 3, 0))
	// The others do not know yet, and the path ends at the one that does: it comes
	// to no node, and so to none a second time.
	wantPath(t, n, 0, 5, true, 0, 1, 2)
	wantPath(t, n, 2, 5, true, 2)
	wantPath(t, n, 3, 5, true, 3, 4, 5)
}

// A way that leads to no node tells true, wherever it ends: at once, for nothing
// was heard yet or there is no such node, or behind others.
func TestPathToNoNode(t *testing.T) {
	n := with(t, link(0, 1, 3), tell(0, 1))
	hearAll(t, n)
	wantPath(t, n, 1, 0, true, 1, 0)
	wantPath(t, n, 0, 1, true, 0)
	wantPath(t, n, 1, 2, true, 1)
	do(t, n, link(1, 2, 4), tell(1, 2))
	hearAll(t, n)
	wantPath(t, n, 2, 0, true, 2, 1, 0)
	do(t, n, link(0, 1, 0))
	wantPath(t, n, 2, 0, true, 2, 1)
	wantPath(t, n, 1, 0, true, 1)
	wantPath(t, n, 2, api.MaxNodes, true, 2)
	wantPath(t, n, api.Drop, 0, true)
	wantPath(t, n, api.Drop, api.Drop, true)
	wantPath(t, n, api.MaxNodes, api.MaxNodes, true)
}

// Ways that go round can't be made by steps. Where nodes were lied to a path ends
// all the same, at the first node that comes again, and tells false, for that is
// not the node to; a way to one of those nodes itself is none that goes round.
func TestPathOfLies(t *testing.T) {
	n := with(t, link(0, 1, 1), link(2, 0, 1))
	for _, x := range []api.News{
		{From: 1, For: 0, To: 5, Seq: 1, Dist: 1}, {From: 0, For: 1, To: 5, Seq: 1, Dist: 1}, {From: 0, For: 2, To: 5, Seq: 1, Dist: 1},
	} {
		wantCode(t, x, n.nodes[x.For].Hear(x), 0)
	}
	wantPath(t, n, 0, 5, false, 0, 1)
	wantPath(t, n, 1, 5, false, 1, 0)
	wantPath(t, n, 2, 5, false, 2, 0, 1)
	wantPath(t, n, 0, 0, true, 0)
	wantPath(t, n, 0, 1, true, 0)
	wantPath(t, n, 5, 5, true, 5)
	do(t, n, link(0, 1, 0))
	wantPath(t, n, 2, 5, true, 2, 0)
	wantPath(t, n, 0, 5, true, 0)
}

// Of 0 rounds, and of fewer: the news are lost and all are younger, but nobody is
// told.
func TestSettleOfNoRounds(t *testing.T) {
	for _, rounds := range []int{0, -1, -14, -1 << 32, math.MinInt, math.MinInt + 1} {
		n, old := busy(t), busy(t)
		n.Settle(rounds)
		wantCode(t, rounds, len(n.News()), 0)
		for a := range api.MaxNodes {
			for b := range api.MaxNodes {
				want := old.Way(a, b)
				seq, dist := old.Best(a, b)
				if a == b {
					want.Seq, seq = want.Seq+1, seq+1
				}
				wantWay(t, rounds, n, a, b, want)
				wantBest(t, rounds, n, a, b, seq, dist)
			}
		}
		refuse(t, n, api.ErrNone, hear(0), lose(0), double(0))
	}
}

// Of 1 round: by their numbers, and heard at once, so that what a lower one tells
// goes on with what the next tells, and what a higher one tells does not.
func TestSettleOfOneRound(t *testing.T) {
	n := row(t, 2)
	n.Settle(1)
	for a := range api.MaxNodes {
		for b := range api.MaxNodes {
			switch {
			case a == b:
				wantWay(t, "itself", n, a, b, way(1, 0, a))
			case a > b:
				wantWay(t, "from below", n, a, b, way(1, 2*(a-b), a-1))
			case a == b-1:
				wantWay(t, "from the next above", n, a, b, way(1, 2, b))
			default:
				wantWay(t, "from above", n, a, b, none(0))
			}
		}
	}
	for rounds := 2; rounds <= 5; rounds++ {
		n := row(t, 2)
		n.Settle(rounds)
		wantWay(t, rounds, n, 5-rounds, 5, way(1, 2*rounds, 6-rounds))
		if rounds < 5 {
			wantWay(t, rounds, n, 4-rounds, 5, none(0))
		}
	}
}

// Without links nobody is told, however many rounds there are.
func TestSettleWithoutLinks(t *testing.T) {
	n, m := New(), newModel()
	for _, rounds := range []int{1, 14, math.MaxInt} {
		n.Settle(rounds)
		m.settle(1)
		wantAll(t, rounds, n, m)
	}
	wantWay(t, "three times", n, 5, 5, way(3, 0, 5))
}

// wantSettled holds all ways against what Far says of the links.
func wantSettled(t *testing.T, what any, n *Net) {
	t.Helper()
	wantCode(t, what, len(n.News()), 0)
	for from := range api.MaxNodes {
		for to, dist := range n.Far(from) {
			x := n.Way(from, to)
			wantCode(t, what, x.Dist, dist)
			path, right := n.Path(from, to)
			comes := len(path) > 0 && path[len(path)-1] == to
			if !right || comes != (dist < far) || (x.Hop == api.Drop) != (dist == far) {
				t.Errorf("%v: from %d to %d: %v, %v %v", what, from, to, x, path, right)
			}
			sum := 0
			for i := 1; comes && i < len(path); i++ {
				sum += n.Cost(path[i-1], path[i])
			}
			if comes {
				wantCode(t, path, sum, dist)
			}
		}
	}
}

// A link breaks, others cost more: behind Settle all ways are as short as can be,
// and there is none to those that can't be reached.
func TestSettle(t *testing.T) {
	n := with(t, link(0, 1, 1), link(1, 2, 1), link(2, 3, 1), link(3, 4, 1), link(0, 4, 15))
	n.Settle(14)
	wantSettled(t, "first", n)
	wantWay(t, "first", n, 0, 4, way(1, 4, 1))
	wantWay(t, "nobody", n, 0, 5, none(0))
	do(t, n, link(3, 4, 0))
	n.Settle(14)
	wantSettled(t, "broken", n)
	wantWay(t, "longer than it ever was", n, 0, 4, way(2, 15, 4))
	wantWay(t, "longer than it ever was", n, 3, 4, way(2, 18, 2))
	do(t, n, link(0, 4, 0))
	n.Settle(14)
	wantSettled(t, "apart", n)
	wantWay(t, "apart", n, 3, 4, none(2))
	wantBest(t, "apart", n, 3, 4, 2, 18)
	wantPath(t, n, 3, 4, true, 3)
	do(t, n, link(4, 5, 6), link(5, 2, 7))
	n.Settle(14)
	wantSettled(t, "by another one", n)
	wantPath(t, n, 0, 4, true, 0, 1, 2, 5, 4)
}

// Any number of rounds ends, and does what so many rounds do.
func TestSettleOfMany(t *testing.T) {
	r := rand.New(rand.NewSource(72))
	for _, rounds := range []int{14, 15, 60, 1 << 31, 1 << 40, math.MaxInt - 1, math.MaxInt} {
		for range 10 {
			n, m := New(), newModel()
			for range 150 {
				x := randomStep(r, len(m.news))
				wantCode(t, x, n.Do(x), m.do(x))
			}
			n.Settle(rounds)
			m.settle(min(rounds, 60))
			wantAll(t, rounds, n, m)
			wantSettled(t, rounds, n)
			n.Settle(rounds)
			m.settle(min(rounds, 60))
			wantAll(t, rounds, n, m)
			wantSettled(t, rounds, n)
		}
	}
}

// oddNumber is any one of those that are no node, no cost or no place.
func oddNumber(r *rand.Rand) int {
	list := slices.Concat(noNodes(), noCosts(), noPlaces(api.MaxNews))
	return list[r.Intn(len(list))]
}

// randomStep is one that can mostly be done where so many news are on their way;
// more of them come in than are lost.
func randomStep(r *rand.Rand, count int) api.Step {
	a, b := r.Intn(api.MaxNodes), r.Intn(api.MaxNodes)
	place := r.Intn(max(count, 1))
	var x api.Step
	switch r.Intn(16) {
	case 0, 1:
		x = link(a, b, 1+r.Intn(api.MaxCost))
	case 2:
		x = link(a, b, 1+r.Intn(3))
	case 3:
		x = link(a, b, 0)
	case 4:
		x = tick(a)
	case 5, 6:
		x = tell(a, b)
	case 7:
		x = lose(place)
	case 8:
		x = double(place)
	default:
		x = hear(place)
	}
	switch r.Intn(60) {
	case 0:
		x.A = oddNumber(r)
	case 1:
		x.B = oddNumber(r)
	case 2:
		x.N = oddNumber(r)
	case 3:
		x.Kind = noKinds()[r.Intn(len(noKinds()))]
	}
	return x
}

// Whatever is done in whatever order, and settled for so many rounds now and
// then: a Net tells what the chapter says.
func TestRandomNets(t *testing.T) {
	r := rand.New(rand.NewSource(7))
	for range 60 {
		n, m := New(), newModel()
		for range 200 {
			if r.Intn(40) == 0 {
				rounds := r.Intn(18) - 2
				n.Settle(rounds)
				m.settle(rounds)
				wantAll(t, rounds, n, m)
			}
			x := randomStep(r, len(m.news))
			wantCode(t, x, n.Do(x), m.do(x))
			wantAll(t, x, n, m)
			if t.Failed() {
				return
			}
		}
	}
}

// wantNotRound goes all ways from node to node: none comes to a node a second
// time, each goes by a link, and along it the best becomes better.
func wantNotRound(t *testing.T, n *Net) {
	t.Helper()
	for from := range api.MaxNodes {
		for to := range api.MaxNodes {
			at, been := from, []int{from}
			for at != to {
				next := n.Way(at, to).Hop
				if next == api.Drop {
					break
				}
				seq, dist := n.Best(at, to)
				seq2, dist2 := n.Best(next, to)
				if slices.Contains(been, next) {
					t.Fatalf("from %d to %d it goes round: %v %d", from, to, been, next)
				}
				if n.Cost(at, next) == 0 {
					t.Fatalf("from %d to %d: no link from %d to %d", from, to, at, next)
				}
				if !node.Better(seq2, dist2, seq, dist) {
					t.Fatalf("from %d to %d: the best is %d %d of %d, and %d %d of %d", from, to, seq, dist, at, seq2, dist2, next)
				}
				at, been = next, append(been, next)
			}
			wantPath(t, n, from, to, true, been...)
		}
	}
}

// No way goes round, at no time.
func TestNoWayGoesRound(t *testing.T) {
	r := rand.New(rand.NewSource(71))
	long := 0
	for range 300 {
		n := New()
		for range 300 {
			if r.Intn(100) == 0 {
				n.Settle(r.Intn(4))
				wantNotRound(t, n)
			}
			n.Do(randomStep(r, len(n.News())))
			wantNotRound(t, n)
		}
		for from := range api.MaxNodes {
			if path, _ := n.Path(from, (from+1)%api.MaxNodes); len(path) > 3 {
				long++
			}
		}
	}
	if long < 20 {
		t.Errorf("%d paths of more than 3 nodes alone: the scripts try too little", long)
	}
}

// A net that was settled, whose links break and change, and whose news are late.
func TestNoWayGoesRoundWhenLinksBreak(t *testing.T) {
	r := rand.New(rand.NewSource(73))
	for range 200 {
		n := New()
		for a := range api.MaxNodes {
			for b := range a {
				if r.Intn(3) > 0 {
					do(t, n, link(a, b, 1+r.Intn(api.MaxCost)))
				}
			}
		}
		n.Settle(14)
		for range 150 {
			x := randomStep(r, len(n.News()))
			if r.Intn(4) == 0 {
				x = link(r.Intn(api.MaxNodes), r.Intn(api.MaxNodes), r.Intn(2)*api.MaxCost)
			}
			n.Do(x)
			wantNotRound(t, n)
		}
		n.Settle(14)
		wantNotRound(t, n)
		wantSettled(t, "behind it", n)
	}
}

// It settles, behind whatever was done.
func TestItSettles(t *testing.T) {
	r := rand.New(rand.NewSource(74))
	for range 400 {
		n := New()
		for range 1 + r.Intn(3) {
			for range r.Intn(120) {
				n.Do(randomStep(r, len(n.News())))
			}
			n.Settle(14 + r.Intn(3))
			wantSettled(t, "settled", n)
		}
		if t.Failed() {
			return
		}
	}
}

// The same is told of the same steps.
func TestNothingElseCounts(t *testing.T) {
	var scripts [2]string
	for i := range scripts {
		r := rand.New(rand.NewSource(75))
		n := New()
		for range 300 {
			x := randomStep(r, len(n.News()))
			scripts[i] += fmt.Sprint(x, n.Do(x))
		}
		n.Settle(3)
		scripts[i] += known(n)
	}
	if scripts[0] != scripts[1] {
		t.Errorf("%s, and %s", scripts[0], scripts[1])
	}
}

// Lists that were told ahead stay as they were, whatever is asked later.
func TestListsStay(t *testing.T) {
	n := busy(t)
	do(t, n, link(4, 1, 3), tell(0, 1))
	list, of, all, dists := n.News(), n.Of(1), n.List(), n.Far(1)
	path, _ := n.Path(1, 0)
	want := fmt.Sprint(list, of, all, dists, path)
	for _, x := range []api.Step{lose(0), hear(3), double(2), lose(5), tell(4, 1), tick(0), link(0, 1, 9), link(1, 4, 0), double(0)} {
		do(t, n, x)
		if got := fmt.Sprint(list, of, all, dists, path); got != want {
			t.Fatalf("%v: %s, want %s", x, got, want)
		}
	}
	n.Settle(3)
	do(t, n, tick(0), tick(1))
	if got := fmt.Sprint(list, of, all, dists, path); got != want {
		t.Errorf("settled: %s, want %s", got, want)
	}
}

// spoil writes into a list, and behind its end, wherever it has memory.
func spoil[E any](list []E, x E) {
	list = append(list, x)
	list = list[:cap(list)]
	for i := range list {
		list[i] = x
	}
}

// Who writes into lists that were told, or behind their ends, changes neither the
// Net nor another list.
func TestListsAreNew(t *testing.T) {
	n, same := busy(t), busy(t)
	before, list := known(n), n.News()
	want := slices.Clone(list)
	for _, x := range [][]api.News{n.News(), n.News()[:0], n.News()[:3]} {
		spoil(x, api.News{From: 3, For: 3, To: 3, Seq: 99, Dist: 3})
	}
	for _, from := range []int{-1, 0, 1, 3} {
		path, _ := n.Path(from, 0)
		spoil(path, 88)
		spoil(n.Of(from), 88)
		spoil(n.Far(from), 88)
	}
	spoil(n.List(), api.Link{A: 88})
	wantKnown(t, "written", n, before)
	wantNews(t, "told ahead", list, want)
	for _, x := range []api.Step{tell(0, 1), double(4), hear(2), lose(0), tick(2), hear(5)} {
		spoil(n.News(), api.News{From: 88})
		wantCode(t, x, n.Do(x), same.Do(x))
		wantKnown(t, x, n, known(same))
	}
}

// Two Nets know nothing of each other, and asking changes nothing.
func TestNetsStayApart(t *testing.T) {
	one, other := busy(t), New()
	before := known(one)
	wantAll(t, "new", other, newModel())
	do(t, other, link(0, 5, 1), tick(5), hear(5), link(0, 1, 9))
	other.Settle(2)
	do(t, other, tick(5))
	after := known(other)
	for range 2 {
		wantKnown(t, "one", one, before)
		wantKnown(t, "other", other, after)
	}
	do(t, one, tick(1), link(2, 3, 0))
	one.Settle(1)
	wantKnown(t, "other", other, after)
}

// Of a nil nothing is promised, but no call panics: it is asked as a Net that has
// no nodes, and nothing can be done there.
func TestNil(t *testing.T) {
	var n *Net
	for _, x := range []api.Step{link(0, 1, 2), tick(0), tell(0, 1), hear(0), lose(0), double(0), {}} {
		wantCode(t, x, n.Do(x), api.ErrNone)
	}
	n.Settle(3)
	wantCode(t, "news", len(n.News()), 0)
	for from := -1; from <= api.MaxNodes; from++ {
		wantWay(t, "nil", n, from, 0, none(0))
		wantBest(t, "nil", n, from, 0, 0, far)
	}
	wantPath(t, n, -1, 0, true)
	wantPath(t, n, 6, 6, true)
	wantPath(t, n, 0, 1, true, 0)
}

package walk

import (
	"fmt"
	"math"
	"math/rand"
	"slices"
	"testing"

	"handpost/api"
	"handpost/fib"
	"handpost/prefix"
	"handpost/table"
)

// of is the prefix that has a text.
func of(s string) api.Prefix {
	p, ok := prefix.Parse(s)
	if !ok {
		panic("no prefix: " + s)
	}
	return p
}

// to is the route of a prefix to a hop.
func to(s string, hop int) api.Route {
	return api.Route{P: of(s), Hop: hop}
}

func own(s string, a int) api.Step {
	return api.Step{Kind: api.SOwn, A: a, N: 1, P: of(s)}
}

func free(s string) api.Step {
	return api.Step{Kind: api.SOwn, P: of(s)}
}

func link(a, b, cost int) api.Step {
	return api.Step{Kind: api.SLink, A: a, B: b, N: cost}
}

func tick(a int) api.Step {
	return api.Step{Kind: api.STick, A: a}
}

func tell(a, b int) api.Step {
	return api.Step{Kind: api.STell, A: a, B: b}
}

func hear(place int) api.Step {
	return api.Step{Kind: api.SHear, N: place}
}

func lose(place int) api.Step {
	return api.Step{Kind: api.SLose, N: place}
}

func double(place int) api.Step {
	return api.Step{Kind: api.SDouble, N: place}
}

// do does steps that have no fault.
func do(t *testing.T, p *fib.Post, steps ...api.Step) {
	t.Helper()
	for _, x := range steps {
		wantNumber(t, x, p.Do(x), 0)
	}
}

// with makes a Post by steps that have no fault.
func with(t *testing.T, steps ...api.Step) *fib.Post {
	t.Helper()
	p := fib.New()
	do(t, p, steps...)
	return p
}

// settled makes a Post by steps that have no fault, and settles it.
func settled(t *testing.T, steps ...api.Step) *fib.Post {
	t.Helper()
	p := with(t, steps...)
	p.Settle(14)
	return p
}

// row makes a settled Post whose nodes are linked in a row, at costs of which no
// two sums are alike; node n owns the addresses from 32n on, and those from 192
// on are nobody's.
func row(t *testing.T) *fib.Post {
	t.Helper()
	return settled(t,
		link(0, 1, 1), link(1, 2, 2), link(2, 3, 4), link(3, 4, 8), link(4, 5, 15),
		own("000*", 0), own("001*", 1), own("010*", 2), own("011*", 3), own("100*", 4), own("101*", 5))
}

// busy makes a Post with owners, links, ways that are not known to all, and news
// on their way, some of which come by a link that broke.
func busy(t *testing.T) *fib.Post {
	t.Helper()
	p := settled(t, link(0, 1, 2), link(1, 2, 2), link(2, 3, 5), link(0, 3, 15))
	do(t, p, own("*", 0), own("01*", 3), own("0110*", 1), own("11111111", 4), own("00*", 2))
	do(t, p, tick(0), hear(3), link(0, 3, 0), double(1), tell(1, 2))
	wantNumber(t, "busy", len(p.News()), 18)
	return p
}

// both are Walks of a Post, by full tables and by small ones.
func both(t *testing.T, p *fib.Post) []*Walk {
	t.Helper()
	list := []*Walk{New(p, false), New(p, true)}
	for _, w := range list {
		if w == nil || w.Post != p {
			t.Fatalf("New: %v, want a Walk on the Post that was handed in", w)
		}
	}
	return list
}

// wantNumber holds a code, or another number, against the one that is asked for.
func wantNumber(t *testing.T, what any, got, want int) {
	t.Helper()
	if got != want {
		t.Errorf("%v: %d, want %d", what, got, want)
	}
}

// wantTrip holds a letter's trip against what is asked for.
func wantTrip(t *testing.T, what any, got, want Trip) {
	t.Helper()
	if !slices.Equal(got.Nodes, want.Nodes) || got.Cost != want.Cost || got.End != want.End {
		t.Errorf("%v: %v, want %v", what, got, want)
	}
}

// wantGo sends a letter by each Walk, and holds its trip against what is asked
// for: End, Cost, and Nodes.
func wantGo(t *testing.T, what any, walks []*Walk, from, a, end, cost int, nodes ...int) {
	t.Helper()
	for i, w := range walks {
		wantTrip(t, fmt.Sprintf("%v, %d: Go(%d, %d)", what, i, from, a), w.Go(from, a), Trip{Nodes: nodes, Cost: cost, End: end})
	}
}

// noNodes are numbers of which there is no node: on either side, just outside
// and far beyond, such as are nodes by their lowest bits among them; Drop and
// None are two of them.
func noNodes() []int {
	return []int{
		api.Drop, api.None, -3, -api.MaxNodes, -255, -1 << 32, math.MinInt, math.MinInt + 1, math.MinInt + 3,
		api.MaxNodes, api.MaxNodes + 1, 2 * api.MaxNodes, 255, 256, 1 << 16, 1 << 32, 1<<32 + 1, math.MaxInt - 1, math.MaxInt,
	}
}

// noAddresses are none, such as are addresses by their lowest bits among them.
func noAddresses() []int {
	return []int{
		-1, -2, -255, -256, -1 << 32, math.MinInt, math.MinInt + 1, math.MinInt + 255,
		256, 257, 511, 512, 1 << 16, 1 << 32, 1<<32 + 1, math.MaxInt - 1, math.MaxInt,
	}
}

// plan is where a letter is to go, told of paths and owners: without a table.
type plan struct {
	nodes []int
	end   int
}

// planOf tells where a letter is to go, as the Post is now.
func planOf(p *fib.Post, from, a int) plan {
	if from < 0 || from > 5 {
		return plan{end: api.Drop}
	}
	who := p.Owner(a)
	if who == api.Drop {
		return plan{[]int{from}, api.Drop}
	}
	nodes, _ := p.Path(from, who)
	if nodes[len(nodes)-1] != who {
		return plan{nodes, api.Drop}
	}
	return plan{nodes, who}
}

// now is the trip of a plan, by what links cost now.
func (x plan) now(p *fib.Post) Trip {
	trip := Trip{Nodes: x.nodes, End: x.end}
	for _, l := range p.List() {
		for i := 1; i < len(x.nodes); i++ {
			a, b := x.nodes[i-1], x.nodes[i]
			if l.A == min(a, b) && l.B == max(a, b) {
				trip.Cost += l.Cost
			}
		}
	}
	return trip
}

// plans are those of all nodes and all addresses, and of some that are none.
func plans(p *fib.Post) map[[2]int]plan {
	all := map[[2]int]plan{}
	for from := -1; from <= 6; from++ {
		for a := -1; a <= 256; a++ {
			all[[2]int{from, a}] = planOf(p, from, a)
		}
	}
	return all
}

// wantPlans holds all letters of a Walk against plans.
func wantPlans(t *testing.T, what any, w *Walk, all map[[2]int]plan) {
	t.Helper()
	for x, want := range all {
		wantTrip(t, fmt.Sprintf("%v: Go%v", what, x), w.Go(x[0], x[1]), want.now(w.Post))
	}
}

// letters tells all letters of a Walk.
func letters(w *Walk) string {
	var list []Trip
	for from := -1; from <= api.MaxNodes; from++ {
		for a := -1; a <= 1<<api.Width; a++ {
			list = append(list, w.Go(from, a))
		}
	}
	return fmt.Sprint(list)
}

// asker is what a Post tells; a Walk tells it, too.
type asker interface {
	News() []api.News
	List() []api.Link
	Of(int) []int
	Far(int) []int
	Cost(int, int) int
	Way(int, int) api.Way
	Best(int, int) (int, int)
	Path(int, int) ([]int, bool)
	Owners() []api.Route
	Owner(int) int
	Full(int) *table.Table
	Small(int) *table.Table
}

// known tells all that can be asked of a Post.
func known(p asker) string {
	list := []any{p.News(), p.List(), p.Owners()}
	for a := -1; a <= 1<<api.Width; a++ {
		list = append(list, p.Owner(a))
	}
	for from := -1; from <= api.MaxNodes; from++ {
		list = append(list, p.Of(from), p.Far(from), p.Full(from).List(), p.Small(from).List())
		for to := -1; to <= api.MaxNodes; to++ {
			seq, dist := p.Best(from, to)
			path, ok := p.Path(from, to)
			list = append(list, p.Way(from, to), seq, dist, path, ok, p.Cost(from, to))
		}
	}
	return fmt.Sprint(list...)
}

// A Post where all is nobody's: no letter comes anywhere.
func TestNewPost(t *testing.T) {
	for _, p := range []*fib.Post{fib.New(), settled(t, link(0, 1, 1), link(1, 2, 15))} {
		walks := both(t, p)
		for from := range api.MaxNodes {
			for a := range 1 << api.Width {
				wantGo(t, "nobody's", walks, from, a, api.Drop, 0, from)
			}
		}
	}
}

// The tables are Small, or Full, of all nodes.
func TestTables(t *testing.T) {
	for _, p := range []*fib.Post{row(t), busy(t), fib.New(), settled(t, link(0, 1, 1), own("0*", 0), own("1*", 0))} {
		full, small := New(p, false), New(p, true)
		for n := range api.MaxNodes {
			if got, want := full.tables[n].List(), p.Full(n).List(); !slices.Equal(got, want) {
				t.Errorf("full, of %d: %v, want %v", n, got, want)
			}
			if got, want := small.tables[n].List(), p.Small(n).List(); !slices.Equal(got, want) {
				t.Errorf("small, of %d: %v, want %v", n, got, want)
			}
		}
	}
}

// A letter to an address of the node itself stays there, with links or without.
func TestToItself(t *testing.T) {
	for n := range api.MaxNodes {
		p := with(t, own("*", n))
		walks := both(t, p)
		p.Settle(14)
		q := row(t)
		for _, a := range []int{0, 1, 127, 128, 255} {
			wantGo(t, "alone", walks, n, a, n, 0, n)
			wantGo(t, "settled", both(t, p), n, a, n, 0, n)
		}
		for a := 32 * n; a < 32*n+32; a++ {
			wantGo(t, "in a row", both(t, q), n, a, n, 0, n)
		}
	}
}

// Over one link, either way, for each cost that there is.
func TestOverOneLink(t *testing.T) {
	for cost := 1; cost <= api.MaxCost; cost++ {
		walks := both(t, settled(t, link(2, 4, cost), own("0*", 2), own("11111111", 4)))
		wantGo(t, cost, walks, 4, 0, 2, cost, 4, 2)
		wantGo(t, cost, walks, 4, 127, 2, cost, 4, 2)
		wantGo(t, cost, walks, 2, 255, 4, cost, 2, 4)
		wantGo(t, cost, walks, 2, 254, api.Drop, 0, 2)
		wantGo(t, cost, walks, 2, 128, api.Drop, 0, 2)
	}
}

// Over several links, from each node to each, either way.
func TestOverSeveralLinks(t *testing.T) {
	walks := both(t, row(t))
	wantGo(t, "the whole row", walks, 0, 191, 5, 30, 0, 1, 2, 3, 4, 5)
	wantGo(t, "the whole row", walks, 5, 0, 0, 30, 5, 4, 3, 2, 1, 0)
	wantGo(t, "up", walks, 1, 100, 3, 6, 1, 2, 3)
	wantGo(t, "down", walks, 4, 63, 1, 14, 4, 3, 2, 1)
	sums := []int{0, 1, 3, 7, 15, 30}
	for from := range api.MaxNodes {
		for who := range api.MaxNodes {
			nodes := []int{from}
			for n := from; n != who; {
				if n < who {
					n++
				} else {
					n--
				}
				nodes = append(nodes, n)
			}
			cost := max(sums[from]-sums[who], sums[who]-sums[from])
			for _, a := range []int{32 * who, 32*who + 31} {
				wantGo(t, "row", walks, from, a, who, cost, nodes...)
			}
		}
	}
}

// The greatest cost that there can be: as many links as can be, each as dear as
// can be.
func TestGreatestCost(t *testing.T) {
	p := settled(t, link(3, 0, 15), link(0, 5, 15), link(5, 1, 15), link(1, 4, 15), link(4, 2, 15), own("*", 2))
	wantGo(t, "dear", both(t, p), 3, 200, 2, 75, 3, 0, 5, 1, 4, 2)
}

// From no node: it was nowhere, and nobody has it, be the address somebody's,
// nobody's or none.
func TestFromNoNode(t *testing.T) {
	for _, p := range []*fib.Post{fib.New(), row(t), busy(t), with(t, own("*", 0))} {
		walks := both(t, p)
		for _, from := range noNodes() {
			for _, a := range append(noAddresses(), 0, 1, 5, 127, 128, 200, 255) {
				wantGo(t, "no node", walks, from, a, api.Drop, 0)
			}
		}
	}
}

// To no address: it goes nowhere, though all addresses are somebody's.
func TestToNoAddress(t *testing.T) {
	for _, p := range []*fib.Post{fib.New(), row(t), busy(t), with(t, own("*", 0)), settled(t, link(0, 1, 3), own("*", 1), own("00000000", 0), own("11111111", 0))} {
		walks := both(t, p)
		for from := range api.MaxNodes {
			for _, a := range noAddresses() {
				wantGo(t, "no address", walks, from, a, api.Drop, 0, from)
			}
		}
	}
}

// To an address that is nobody's: never owned, beside those that are owned; or
// taken since.
func TestToNobodys(t *testing.T) {
	p := row(t)
	for from := range api.MaxNodes {
		for _, a := range []int{192, 193, 224, 255} {
			wantGo(t, "never owned", both(t, p), from, a, api.Drop, 0, from)
		}
	}
	do(t, p, free("010*"))
	for from := range api.MaxNodes {
		wantGo(t, "taken", both(t, p), from, 64, api.Drop, 0, from)
		wantGo(t, "taken", both(t, p), from, 95, api.Drop, 0, from)
	}
	wantGo(t, "not taken", both(t, p), 1, 63, 1, 0, 1)
	wantGo(t, "not taken", both(t, p), 1, 96, 3, 6, 1, 2, 3)
}

// The owner can't be reached: it has no links, or there is no way by links.
func TestToOneThatIsNotReached(t *testing.T) {
	p := settled(t, link(0, 1, 2), link(1, 2, 3), link(3, 4, 1), own("0*", 5), own("10*", 4), own("11*", 0))
	walks := both(t, p)
	for from := range 5 {
		wantGo(t, "no links", walks, from, 0, api.Drop, 0, from)
		wantGo(t, "no links", walks, from, 127, api.Drop, 0, from)
	}
	for from := range 3 {
		wantGo(t, "another part", walks, from, 128, api.Drop, 0, from)
	}
	wantGo(t, "another part", walks, 3, 255, api.Drop, 0, 3)
	wantGo(t, "the same part", walks, 3, 128, 4, 1, 3, 4)
	wantGo(t, "the same part", walks, 2, 255, 0, 5, 2, 1, 0)
	wantGo(t, "at the owner", walks, 5, 0, 5, 0, 5)
}

// A link broke, of which those at its ends know, and the others don't: a letter
// goes so far, and nowhere from there.
func TestHalfOfTheWay(t *testing.T) {
	p := row(t)
	do(t, p, link(2, 3, 0))
	walks := both(t, p)
	wantGo(t, "so far", walks, 0, 191, api.Drop, 3, 0, 1, 2)
	wantGo(t, "so far", walks, 1, 100, api.Drop, 2, 1, 2)
	wantGo(t, "at the end of the link", walks, 2, 100, api.Drop, 0, 2)
	wantGo(t, "from the other side", walks, 5, 0, api.Drop, 23, 5, 4, 3)
	wantGo(t, "this side of it", walks, 0, 64, 2, 3, 0, 1, 2)
	p.Settle(14)
	wantGo(t, "all know", both(t, p), 0, 191, api.Drop, 0, 0)
	wantGo(t, "all know", both(t, p), 5, 0, api.Drop, 0, 5)
}

// Linked, but nobody told anything yet; then as news come in.
func TestAsNewsComeIn(t *testing.T) {
	p := with(t, link(0, 1, 3), link(1, 2, 4), own("*", 0))
	wantGo(t, "linked alone", both(t, p), 1, 9, api.Drop, 0, 1)
	wantGo(t, "the owner", both(t, p), 0, 9, 0, 0, 0)
	do(t, p, tick(0))
	wantGo(t, "on their way", both(t, p), 1, 9, api.Drop, 0, 1)
	do(t, p, hear(0))
	wantGo(t, "heard", both(t, p), 1, 9, 0, 3, 1, 0)
	wantGo(t, "not told", both(t, p), 2, 9, api.Drop, 0, 2)
	do(t, p, tell(1, 2), hear(5))
	wantGo(t, "told", both(t, p), 2, 9, 0, 7, 2, 1, 0)
}

// Of two prefixes that have an address the longest counts, at each node, at the
// owner of the other one, too.
func TestTwoPrefixes(t *testing.T) {
	for _, steps := range [][]api.Step{
		{own("1*", 1), own("11*", 2), own("11110000", 0), own("*", 3)},
		{own("*", 3), own("11110000", 0), own("11*", 2), own("1*", 1)},
	} {
		p := settled(t, link(0, 1, 1), link(1, 2, 2), link(2, 3, 4))
		do(t, p, steps...)
		walks := both(t, p)
		wantGo(t, "by the owner of the shorter one", walks, 0, 200, 2, 3, 0, 1, 2)
		wantGo(t, "from the owner of the shorter one", walks, 1, 255, 2, 2, 1, 2)
		wantGo(t, "by owners of two", walks, 3, 240, 0, 7, 3, 2, 1, 0)
		wantGo(t, "beside it", walks, 3, 241, 2, 4, 3, 2)
		wantGo(t, "beside it", walks, 0, 239, 2, 3, 0, 1, 2)
		wantGo(t, "the shorter one", walks, 3, 128, 1, 6, 3, 2, 1)
		wantGo(t, "the whole", walks, 0, 127, 3, 7, 0, 1, 2, 3)
		do(t, p, free("11*"))
		wantGo(t, "by the next longest", both(t, p), 0, 200, 1, 1, 0, 1)
		wantGo(t, "as it was", walks, 0, 200, 2, 3, 0, 1, 2)
	}
}

// The least and the greatest int, wherever a number is handed in.
func TestGreatNumbers(t *testing.T) {
	great := []int{math.MinInt, math.MinInt + 1, math.MaxInt - 1, math.MaxInt}
	for _, p := range []*fib.Post{fib.New(), row(t), busy(t)} {
		for _, x := range great {
			for _, y := range great {
				wantGo(t, "both", both(t, p), x, y, api.Drop, 0)
			}
			wantGo(t, "from", both(t, p), x, 0, api.Drop, 0)
			wantGo(t, "to", both(t, p), 5, x, api.Drop, 0, 5)
		}
	}
}

// The tables are as they were when New was asked: whatever is done later, a
// letter goes the same way, to the same node.
func TestTablesStay(t *testing.T) {
	p := row(t)
	walks, all := both(t, p), plans(p)
	for _, x := range []api.Step{
		own("101*", 0), own("111*", 2), free("000*"), own("*", 4), link(0, 5, 1), tick(5), hear(5), tell(0, 1), hear(11), own("1010*", 3),
		link(3, 4, 1), link(2, 3, 0), link(0, 1, 0), link(0, 2, 1), lose(0), double(0), tick(2),
	} {
		do(t, p, x)
		for _, w := range walks {
			wantPlans(t, x, w, all)
		}
	}
	for _, rounds := range []int{0, 1, 14} {
		p.Settle(rounds)
		for _, w := range walks {
			wantPlans(t, rounds, w, all)
		}
	}
	wantGo(t, "as it was", walks, 5, 0, 0, 18, 5, 4, 3, 2, 1, 0)
	wantGo(t, "as it is", both(t, p), 5, 0, 4, 15, 5, 4)
	wantGo(t, "as it is", both(t, p), 5, 191, 0, 1, 5, 0)
}

// Costs are those of now: of links that cost more, or less, or broke since, or
// are there anew; the way is the same.
func TestCostsAreOfNow(t *testing.T) {
	p := row(t)
	walks := both(t, p)
	for _, x := range []struct{ a, b, cost, up, down int }{
		{1, 2, 9, 37, 37}, {0, 1, 15, 51, 51}, {4, 5, 1, 37, 37}, {2, 3, 0, 33, 33}, {3, 2, 15, 48, 48}, {1, 2, 0, 39, 39},
		{0, 1, 0, 24, 24}, {2, 3, 0, 9, 9}, {3, 4, 0, 1, 1}, {4, 5, 0, 0, 0}, {2, 1, 2, 2, 2}, {0, 5, 7, 2, 2},
	} {
		do(t, p, link(x.a, x.b, x.cost))
		wantGo(t, x, walks, 0, 191, 5, x.up, 0, 1, 2, 3, 4, 5)
		wantGo(t, x, walks, 5, 0, 0, x.down, 5, 4, 3, 2, 1, 0)
		wantGo(t, x, walks, 3, 127, 3, 0, 3)
		wantGo(t, x, walks, 3, 255, api.Drop, 0, 3)
	}
}

// Costs of now are the Walk's Post's, whoever did the steps.
func TestCostsByTheWalk(t *testing.T) {
	p := row(t)
	walks := both(t, p)
	wantNumber(t, "by one", walks[0].Do(link(0, 1, 11)), 0)
	wantGo(t, "by one", walks, 0, 95, 2, 13, 0, 1, 2)
	wantNumber(t, "by the other", walks[1].Do(link(2, 1, 12)), 0)
	wantGo(t, "by the other", walks, 2, 0, 0, 23, 2, 1, 0)
	wantNumber(t, "by its net", walks[1].Net.Do(link(2, 1, 0)), 0)
	wantGo(t, "by its net", walks, 2, 0, 0, 11, 2, 1, 0)
}

// Two Walks of one Post, made at two times: each has its own tables.
func TestWalksStayApart(t *testing.T) {
	p := row(t)
	early, first := both(t, p), plans(p)
	do(t, p, own("101*", 1), link(0, 5, 1), link(2, 3, 0))
	p.Settle(14)
	late, second := both(t, p), plans(p)
	wantGo(t, "early", early, 0, 191, 5, 26, 0, 1, 2, 3, 4, 5)
	wantGo(t, "late", late, 4, 191, 1, 17, 4, 5, 0, 1)
	for range 2 {
		for i := range early {
			wantPlans(t, "early", early[i], first)
			wantPlans(t, "late", late[i], second)
		}
	}
	for _, w := range late {
		wantNumber(t, "by a late one", w.Do(free("000*")), 0)
		wantNumber(t, "and again", w.Do(own("000*", 3)), 0)
		w.Settle(14)
	}
	for i := range early {
		wantPlans(t, "early, behind steps", early[i], first)
		wantPlans(t, "late, behind steps", late[i], second)
	}
	wantGo(t, "later", both(t, p), 0, 0, 3, 24, 0, 5, 4, 3)
}

// Walks of two Posts know nothing of each other.
func TestPostsStayApart(t *testing.T) {
	one, other := row(t), settled(t, link(0, 5, 3), own("*", 0))
	first, second := both(t, one), both(t, other)
	wantGo(t, "one", first, 5, 0, 0, 30, 5, 4, 3, 2, 1, 0)
	wantGo(t, "other", second, 5, 0, 0, 3, 5, 0)
	do(t, other, link(0, 1, 15), free("*"))
	other.Settle(3)
	wantGo(t, "one", first, 5, 0, 0, 30, 5, 4, 3, 2, 1, 0)
	do(t, one, link(0, 5, 9))
	wantGo(t, "other", second, 5, 0, 0, 3, 5, 0)
}

// Neither New nor Go changes the Post, and asking does not change what is told.
func TestAskingChangesNothing(t *testing.T) {
	for _, p := range []*fib.Post{fib.New(), row(t), busy(t)} {
		before := known(p)
		for _, w := range both(t, p) {
			told := letters(w)
			if again := letters(w); again != told {
				t.Errorf("told again: %s, and ahead %s", again, told)
			}
		}
		if after := known(p); after != before {
			t.Errorf("the Post: %s, was %s", after, before)
		}
	}
}

// Who writes into a list of nodes, or behind its end, changes neither the Walk
// nor a list that was told ahead; nor does what is asked later.
func TestAnswersAreNew(t *testing.T) {
	p := row(t)
	for _, w := range both(t, p) {
		before := letters(w)
		first, second := w.Go(0, 191), w.Go(0, 191)
		short := w.Go(3, 100)
		want := Trip{Nodes: []int{0, 1, 2, 3, 4, 5}, Cost: 30, End: 5}
		spoiled := append(first.Nodes, 7)[:0]
		for _, list := range [][]int{first.Nodes[:cap(first.Nodes)], spoiled[:cap(spoiled)]} {
			for i := range list {
				list[i] = 88
			}
		}
		wantTrip(t, "told ahead", second, want)
		wantTrip(t, "told ahead", short, Trip{Nodes: []int{3}, End: 3})
		if after := letters(w); after != before {
			t.Errorf("behind a list that was written into: %s, was %s", after, before)
		}
		do(t, p, link(0, 1, 9), own("000*", 4))
		p.Settle(14)
		w.Go(5, 0)
		wantTrip(t, "told ahead of steps", second, want)
		do(t, p, link(0, 1, 1), own("000*", 0))
		p.Settle(14)
	}
}

// A table that the Post tells is none of the Walk's: who changes it changes no
// letter.
func TestTablesAreNotThePosts(t *testing.T) {
	p := row(t)
	walks, all := both(t, p), plans(p)
	for n := range api.MaxNodes {
		for _, x := range []*table.Table{p.Full(n), p.Small(n), walks[0].Full(n), walks[1].Small(n)} {
			for _, r := range x.List() {
				x.Set(r.P, api.None)
			}
			x.Set(of("*"), 5)
		}
	}
	for _, w := range walks {
		wantPlans(t, "by tables of its own", w, all)
	}
}

// A Walk is a Post: what is asked of either is told of the same one, as it is
// now, and what either does the other knows.
func TestTheWalkIsAPost(t *testing.T) {
	for i := range 2 {
		p, other := busy(t), busy(t)
		w := both(t, p)[i]
		for _, x := range []api.Step{
			own("1*", 5), own("0*", 6), own("01*", 2), link(4, 5, 3), link(4, 4, 3), tick(4), tell(4, 0), hear(0), lose(0), double(3), free("00*"), free("00*"), {},
		} {
			wantNumber(t, x, w.Do(x), other.Do(x))
			if got, want := known(w), known(other); got != want || got != known(p) {
				t.Fatalf("%v: %s, want %s", x, got, want)
			}
		}
		wantNumber(t, "by the Walk", w.Do(own("1*", 5)), 0)
		wantNumber(t, "by the Walk", p.Owner(200), 5)
		do(t, p, own("1*", 4), link(3, 4, 6))
		wantNumber(t, "by the Post", w.Owner(200), 4)
		wantNumber(t, "by the Post", w.Cost(4, 3), 6)
		w.Settle(14)
		wantNumber(t, "settled", len(p.News()), 0)
		wantNumber(t, "settled", w.Far(0)[4], 15)
		wantNumber(t, "settled", p.Way(0, 4).Dist, 15)
		if path, ok := w.Path(0, 4); !slices.Equal(path, []int{0, 1, 2, 3, 4}) || !ok {
			t.Errorf("Path(0, 4): %v %v", path, ok)
		}
		if got, want := known(w), known(p); got != want {
			t.Errorf("%s, want %s", got, want)
		}
	}
}

// byHand is a Walk by tables that no Post tells, one route of all addresses each.
func byHand(t *testing.T, p *fib.Post, hops [api.MaxNodes]int) []*Walk {
	t.Helper()
	w := &Walk{Post: p}
	for n, hop := range hops {
		x, code := table.Of([]api.Route{to("*", hop)})
		wantNumber(t, "by hand", code, 0)
		w.tables[n] = x
	}
	return []*Walk{w}
}

// By tables that go round, such as no Post tells, a letter ends ahead of the
// first node where it was: that one is not told again, nor does the link to it
// cost anything.
func TestRound(t *testing.T) {
	p := row(t)
	do(t, p, link(0, 5, 9), link(1, 3, 6))
	round := byHand(t, p, [api.MaxNodes]int{1, 2, 3, 4, 5, 0})
	wantGo(t, "by all", round, 0, 7, api.None, 30, 0, 1, 2, 3, 4, 5)
	wantGo(t, "by all", round, 5, 7, api.None, 24, 5, 0, 1, 2, 3, 4)
	wantGo(t, "no address", round, 5, 256, api.Drop, 0, 5)
	wantGo(t, "no node", round, 6, 7, api.Drop, 0)
	inside := byHand(t, p, [api.MaxNodes]int{1, 2, 3, 1, 3, 5})
	wantGo(t, "from outside", inside, 0, 7, api.None, 7, 0, 1, 2, 3)
	wantGo(t, "from outside", inside, 4, 7, api.None, 16, 4, 3, 1, 2)
	wantGo(t, "from inside", inside, 3, 7, api.None, 8, 3, 1, 2)
	wantGo(t, "beside it", inside, 5, 7, 5, 0, 5)
	two := byHand(t, p, [api.MaxNodes]int{1, 0, 1, api.Drop, 3, 4})
	wantGo(t, "to and fro", two, 0, 7, api.None, 1, 0, 1)
	wantGo(t, "to and fro", two, 2, 7, api.None, 3, 2, 1, 0)
	wantGo(t, "nowhere", two, 5, 7, api.Drop, 23, 5, 4, 3)
}

// A link breaks, and news of the time ahead of it, late and twice, say that
// there is a way: a letter does not go there, for it would come back.
func TestLateNews(t *testing.T) {
	p := settled(t, link(0, 1, 1), link(1, 2, 1), link(2, 3, 1), link(3, 1, 1), own("*", 0))
	do(t, p, tell(2, 1), tell(3, 1), tell(2, 3), tell(3, 2), double(0), double(6), link(0, 1, 0))
	wantGo(t, "it broke", both(t, p), 2, 9, api.Drop, 1, 2, 1)
	for len(p.News()) > 0 {
		do(t, p, hear(len(p.News())-1))
		for from := 1; from < 4; from++ {
			for _, w := range both(t, p) {
				wantOnce(t, "late", w.Go(from, 9), from)
				wantNumber(t, "nowhere", w.Go(from, 9).End, api.Drop)
			}
		}
	}
	do(t, p, tell(2, 1), hear(0), link(0, 3, 15))
	p.Settle(14)
	wantGo(t, "there is a way again", both(t, p), 2, 9, 0, 16, 2, 3, 0)
	wantGo(t, "there is a way again", both(t, p), 1, 9, 0, 16, 1, 3, 0)
}

// Two nodes were as far from the owner, and told each other so; then both lost
// their links with it. Neither may send a letter to the other one.
func TestNewsOfTheSameLength(t *testing.T) {
	p := settled(t, link(0, 1, 11), link(0, 2, 11), link(1, 2, 1), own("*", 0))
	do(t, p, tell(1, 2), tell(2, 1), link(0, 1, 0), link(0, 2, 0))
	for len(p.News()) > 0 {
		do(t, p, hear(0))
		wantGo(t, "as old, and not shorter", both(t, p), 1, 9, api.Drop, 0, 1)
		wantGo(t, "as old, and not shorter", both(t, p), 2, 9, api.Drop, 0, 2)
	}
	do(t, p, link(0, 2, 15), tick(0), hear(0))
	wantGo(t, "younger", both(t, p), 2, 9, 0, 15, 2, 0)
	do(t, p, tell(2, 1), hear(5))
	wantGo(t, "younger", both(t, p), 1, 9, 0, 16, 1, 2, 0)
}

// wantOnce holds a trip from a node against what holds of each: it begins there,
// comes to no node twice, and does not end by that.
func wantOnce(t *testing.T, what any, x Trip, from int) {
	t.Helper()
	var times [api.MaxNodes]int
	for _, n := range x.Nodes {
		times[n]++
	}
	if len(x.Nodes) == 0 || x.Nodes[0] != from || slices.Max(times[:]) > 1 || x.End == api.None {
		t.Errorf("%v: from %d: %v", what, from, x)
	}
}

// randomOwn gives a prefix, or takes one, mostly one of those that are there.
func randomOwn(r *rand.Rand, p *fib.Post) api.Step {
	size := r.Intn(api.Width + 1)
	x := api.Step{Kind: api.SOwn, A: r.Intn(api.MaxNodes), N: 1, P: api.Prefix{Len: size, Bits: r.Intn(1 << size)}}
	owners := p.Owners()
	if len(owners) > 0 && r.Intn(3) == 0 {
		x.P = owners[r.Intn(len(owners))].P
		x.N = r.Intn(2)
	}
	return x
}

// randomStep is one that can mostly be done. News come in any order, late, twice,
// or not at all.
func randomStep(r *rand.Rand, p *fib.Post) api.Step {
	a, b := r.Intn(api.MaxNodes), r.Intn(api.MaxNodes)
	place := r.Intn(max(len(p.News()), 1))
	switch r.Intn(24) {
	case 0, 1:
		return link(a, b, 1+r.Intn(api.MaxCost))
	case 2:
		return link(a, b, 0)
	case 3, 4:
		return tick(a)
	case 5, 6, 7, 8:
		return tell(a, b)
	case 9:
		return lose(place)
	case 10:
		return double(place)
	case 11, 12, 13:
		return randomOwn(r, p)
	}
	return hear(place)
}

// places are addresses at which what is owned begins and ends, and some others.
func places(r *rand.Rand, p *fib.Post) []int {
	list := []int{-1, 0, 255, 256, r.Intn(256), r.Intn(256)}
	for _, x := range p.Owners() {
		list = append(list, prefix.First(x.P), prefix.Last(x.P))
	}
	slices.Sort(list)
	return slices.Compact(list)
}

// wantLetters holds letters from all nodes, as a Post is now, against what the
// chapter promises of them at every time.
func wantLetters(t *testing.T, what any, p *fib.Post, addresses []int, ends map[string]int) {
	t.Helper()
	walks := both(t, p)
	for from := range api.MaxNodes {
		for _, a := range addresses {
			full, small := walks[0].Go(from, a), walks[1].Go(from, a)
			wantOnce(t, what, full, from)
			wantTrip(t, fmt.Sprintf("%v: small tables: Go(%d, %d)", what, from, a), small, full)
			wantTrip(t, fmt.Sprintf("%v: Go(%d, %d)", what, from, a), full, planOf(p, from, a).now(p))
			switch {
			case full.End == api.Drop && len(full.Nodes) > 1:
				ends["half of the way"]++
			case full.End == api.Drop:
				ends["nowhere"]++
			case full.End != p.Owner(a) || full.End != full.Nodes[len(full.Nodes)-1]:
				t.Errorf("%v: Go(%d, %d): %v, and the owner is %d", what, from, a, full, p.Owner(a))
			default:
				ends[fmt.Sprintf("over %d links", len(full.Nodes)-1)]++
			}
		}
	}
}

// No letter goes round, at no time, whatever is done in whatever order; by small
// tables it goes as by full ones; where it comes at last it is its owner's.
func TestNoLetterGoesRound(t *testing.T) {
	r := rand.New(rand.NewSource(9))
	ends := map[string]int{}
	for range 40 {
		p := fib.New()
		for range 25 {
			p.Do(link(r.Intn(api.MaxNodes), r.Intn(api.MaxNodes), 1+r.Intn(api.MaxCost)))
			p.Do(randomOwn(r, p))
		}
		for range api.MaxNodes {
			a := r.Intn(api.MaxNodes)
			p.Do(link(a, (a+1+r.Intn(5))%api.MaxNodes, 0))
		}
		if r.Intn(2) == 0 {
			p.Settle(1 + r.Intn(3))
		}
		for range 120 {
			x := randomStep(r, p)
			p.Do(x)
			wantLetters(t, x, p, places(r, p), ends)
			if t.Failed() {
				return
			}
		}
	}
	for _, x := range []string{"nowhere", "half of the way", "over 0 links", "over 1 links", "over 2 links", "over 3 links", "over 4 links"} {
		if ends[x] < 100 {
			t.Errorf("%d letters went %s: the scripts try too little", ends[x], x)
		}
	}
}

// Walks that are kept while steps are done: each goes as things were at its own
// time, at what links cost now.
func TestKeptWalks(t *testing.T) {
	r := rand.New(rand.NewSource(91))
	for range 6 {
		p := row(t)
		var walks [][]*Walk
		var all []map[[2]int]plan
		for range 8 {
			for range 15 {
				p.Do(randomStep(r, p))
			}
			walks, all = append(walks, both(t, p)), append(all, plans(p))
			for i := range walks {
				wantPlans(t, i, walks[i][0], all[i])
				wantPlans(t, i, walks[i][1], all[i])
			}
			if t.Failed() {
				return
			}
		}
	}
}

// When all is settled a letter comes to its owner by the least cost, if there is
// a way; if there is none it stays where it is.
func TestSettled(t *testing.T) {
	r := rand.New(rand.NewSource(92))
	come, lost := 0, 0
	for i := range 40 {
		p := fib.New()
		for range 60 + r.Intn(150) {
			p.Do(randomStep(r, p))
		}
		p.Settle(14 + i%3*r.Intn(20))
		walks := both(t, p)
		for from := range api.MaxNodes {
			far := p.Far(from)
			for a := range 1 << api.Width {
				who := p.Owner(a)
				if who == api.Drop || far[who] == api.Far {
					wantGo(t, "no way", walks, from, a, api.Drop, 0, from)
					lost++
					continue
				}
				come++
				for _, w := range walks {
					x := w.Go(from, a)
					wantOnce(t, "settled", x, from)
					wantNumber(t, fmt.Sprintf("Go(%d, %d).End", from, a), x.End, who)
					wantNumber(t, fmt.Sprintf("Go(%d, %d).Cost", from, a), x.Cost, far[who])
				}
			}
		}
	}
	if come < 1000 || lost < 1000 {
		t.Errorf("%d come, %d don't: the scripts try too little", come, lost)
	}
}

// Where the dearer link is the shorter way in links a settled letter takes the
// cheaper one, however many links that has.
func TestSettledByTheLeastCost(t *testing.T) {
	p := settled(t, link(0, 5, 6), link(0, 1, 1), link(1, 2, 1), link(2, 3, 1), link(3, 4, 1), link(4, 5, 1), own("*", 5))
	wantGo(t, "five links", both(t, p), 0, 0, 5, 5, 0, 1, 2, 3, 4, 5)
	do(t, p, link(0, 5, 4))
	p.Settle(14)
	wantGo(t, "one link", both(t, p), 0, 0, 5, 4, 0, 5)
	wantGo(t, "back first", both(t, p), 1, 0, 5, 4, 1, 2, 3, 4, 5)
	do(t, p, link(3, 4, 0))
	p.Settle(14)
	wantGo(t, "back first", both(t, p), 3, 0, 5, 7, 3, 2, 1, 0, 5)
}

// The same is told of the same steps.
func TestNothingElseCounts(t *testing.T) {
	var scripts [2]string
	for i := range scripts {
		r := rand.New(rand.NewSource(93))
		p := row(t)
		for range 100 {
			p.Do(randomStep(r, p))
		}
		for _, w := range both(t, p) {
			scripts[i] += letters(w)
		}
	}
	if scripts[0] != scripts[1] {
		t.Errorf("%s, and %s", scripts[0], scripts[1])
	}
}

// Of a nil nothing is promised, but no call panics: no letter comes anywhere.
func TestNil(t *testing.T) {
	for _, small := range []bool{false, true} {
		for _, w := range []*Walk{New(nil, small), New(&fib.Post{}, small), {}} {
			for from := range api.MaxNodes {
				wantGo(t, "no Post", []*Walk{w}, from, 9, api.Drop, 0, from)
				wantGo(t, "no Post", []*Walk{w}, from, -1, api.Drop, 0, from)
			}
			wantGo(t, "no Post", []*Walk{w}, 6, 9, api.Drop, 0)
		}
		if got, want := known(New(nil, small)), known(fib.New()); got != want {
			t.Errorf("asked as a Post: %s, want %s", got, want)
		}
	}
	for _, from := range append(noNodes(), 0, 5) {
		wantGo(t, "no Walk", []*Walk{nil}, from, 9, api.Drop, 0)
	}
}

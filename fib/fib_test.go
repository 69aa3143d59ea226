package fib

import (
	"fmt"
	"math"
	"math/rand"
	"slices"
	"testing"

	"handpost/api"
	"handpost/least"
	"handpost/net"
	"handpost/prefix"
	"handpost/table"
)

// whole is the prefix of all addresses.
var whole = api.Prefix{}

// of is the prefix that has a text.
func of(s string) api.Prefix {
	p, ok := prefix.Parse(s)
	if !ok {
		panic("no prefix: " + s)
	}
	return p
}

// single is the prefix of one address.
func single(a int) api.Prefix {
	return api.Prefix{Len: api.Width, Bits: a}
}

// to is the route of a prefix to a hop.
func to(s string, hop int) api.Route {
	return api.Route{P: of(s), Hop: hop}
}

func give(p api.Prefix, a int) api.Step {
	return api.Step{Kind: api.SOwn, A: a, N: 1, P: p}
}

func take(p api.Prefix, a int) api.Step {
	return api.Step{Kind: api.SOwn, A: a, P: p}
}

func own(s string, a int) api.Step {
	return give(of(s), a)
}

func free(s string, a int) api.Step {
	return take(of(s), a)
}

func link(a, b, cost int) api.Step {
	return api.Step{Kind: api.SLink, A: a, B: b, N: cost}
}

func tick(a int) api.Step {
	return api.Step{Kind: api.STick, A: a}
}

func tell(a, b int) api.Step {
	return api.Step{Kind: api.STell, A: a, B: b}
}

func hear(place int) api.Step {
	return api.Step{Kind: api.SHear, N: place}
}

func lose(place int) api.Step {
	return api.Step{Kind: api.SLose, N: place}
}

func double(place int) api.Step {
	return api.Step{Kind: api.SDouble, N: place}
}

// do does steps that have no fault.
func do(t *testing.T, p *Post, steps ...api.Step) {
	t.Helper()
	for _, x := range steps {
		wantCode(t, x, p.Do(x), 0)
	}
}

// with makes a Post by steps that have no fault.
func with(t *testing.T, steps ...api.Step) *Post {
	t.Helper()
	p := New()
	if p == nil || p.Net == nil {
		t.Fatal("New: nil")
	}
	do(t, p, steps...)
	return p
}

// wantCode holds a code, or a number, against the one that the chapter asks for.
func wantCode(t *testing.T, what any, got, want int) {
	t.Helper()
	if got != want {
		t.Errorf("%v: %d, want %d", what, got, want)
	}
}

// wantRoutes holds routes against these.
func wantRoutes(t *testing.T, what any, got []api.Route, want ...api.Route) {
	t.Helper()
	if !slices.Equal(got, want) {
		t.Errorf("%v: routes %v, want %v", what, got, want)
	}
}

// wantFull holds the full table of a node against these routes.
func wantFull(t *testing.T, what any, p *Post, n int, want ...api.Route) {
	t.Helper()
	if p.Full(n) == nil {
		t.Fatalf("%v: Full(%d): nil", what, n)
	}
	wantRoutes(t, fmt.Sprintf("%v: Full(%d)", what, n), p.Full(n).List(), want...)
}

// wantSmall holds the small table of a node against these routes.
func wantSmall(t *testing.T, what any, p *Post, n int, want ...api.Route) {
	t.Helper()
	if p.Small(n) == nil {
		t.Fatalf("%v: Small(%d): nil", what, n)
	}
	wantRoutes(t, fmt.Sprintf("%v: Small(%d)", what, n), p.Small(n).List(), want...)
}

// asker is what a Net tells; a Post tells it, too.
type asker interface {
	News() []api.News
	List() []api.Link
	Of(int) []int
	Far(int) []int
	Cost(int, int) int
	Way(int, int) api.Way
	Best(int, int) (int, int)
	Path(int, int) ([]int, bool)
}

// knownNet tells all that can be asked of a Net.
func knownNet(n asker) string {
	list := []any{n.News(), n.List()}
	for from := -1; from <= api.MaxNodes; from++ {
		list = append(list, n.Of(from), n.Far(from))
		for to := -1; to <= api.MaxNodes; to++ {
			seq, dist := n.Best(from, to)
			path, ok := n.Path(from, to)
			list = append(list, n.Way(from, to), seq, dist, path, ok, n.Cost(from, to))
		}
	}
	return fmt.Sprint(list)
}

// knownPost tells all that can be asked of a Post, but of its net.
func knownPost(p *Post) string {
	list := []any{p.Owners()}
	for a := -1; a <= 1<<api.Width; a++ {
		list = append(list, p.Owner(a))
	}
	for n := -1; n <= api.MaxNodes; n++ {
		if p.Full(n) == nil || p.Small(n) == nil {
			list = append(list, p.Full(n) == nil, p.Small(n) == nil)
			continue
		}
		list = append(list, p.Full(n).List(), p.Small(n).List())
	}
	return fmt.Sprint(list)
}

// known tells all that can be asked of a Post.
func known(p *Post) string {
	return knownNet(p) + knownPost(p)
}

// wantKnown holds all that can be asked of a Post against what it was ahead.
func wantKnown(t *testing.T, what any, p *Post, want string) {
	t.Helper()
	if got := known(p); got != want {
		t.Errorf("%v: %s, want %s", what, got, want)
	}
}

// refuse does steps that have this code, and change nothing.
func refuse(t *testing.T, p *Post, code int, steps ...api.Step) {
	t.Helper()
	before := known(p)
	for _, x := range steps {
		wantCode(t, x, p.Do(x), code)
	}
	wantKnown(t, "refused", p, before)
}

// noNodes are numbers of which there is no node: on either side, just outside
// and far beyond, such as are nodes by their lowest bits among them; Drop and
// None are two of them.
func noNodes() []int {
	return []int{
		api.Drop, api.None, -3, -api.MaxNodes, -255, -1 << 32, math.MinInt, math.MinInt + 1, math.MinInt + 3,
		api.MaxNodes, api.MaxNodes + 1, 2 * api.MaxNodes, 255, 256, 1 << 16, 1 << 32, 1<<32 + 1, math.MaxInt - 1, math.MaxInt,
	}
}

// noPrefixes are none: too many bits, or fewer than none; bits that are too
// great for their number, or below 0.
func noPrefixes() []api.Prefix {
	return []api.Prefix{
		{Len: -1}, {Len: -1, Bits: -1}, {Len: api.Width + 1}, {Len: 64}, {Len: 65, Bits: 1}, {Len: 1 << 32}, {Len: math.MinInt}, {Len: math.MaxInt},
		{Bits: 1}, {Bits: -1}, {Len: 1, Bits: 2}, {Len: 1, Bits: -1}, {Len: 3, Bits: 8}, {Len: 8, Bits: 256}, {Len: 8, Bits: -1},
		{Len: 8, Bits: 1 << 32}, {Len: 8, Bits: math.MaxInt}, {Len: 8, Bits: math.MinInt}, {Len: math.MinInt, Bits: math.MaxInt}, {Len: math.MaxInt, Bits: math.MinInt},
	}
}

// noKinds are no kinds of a Post's steps.
func noKinds() []int {
	return []int{0, -1, -2, -api.SOwn, 8, 9, 256 + api.SOwn, 1<<32 + api.SOwn, 1<<32 + api.SLink, math.MinInt, math.MinInt + api.SOwn, math.MaxInt}
}

// gifts are values of N by which a prefix is given: all but 0.
func gifts() []int {
	return []int{1, 2, 7, -1, -2, api.MaxNodes, 256, 1 << 32, math.MaxInt, math.MinInt, math.MinInt + 1}
}

// many are so many prefixes of single addresses, none beside another one.
func many(count int) []api.Prefix {
	var list []api.Prefix
	for i := range count {
		list = append(list, single(6*i))
	}
	return list
}

// filled makes a Post in which as many prefixes are owned as can be, by nodes in
// turn, with a net whose nodes are linked in a row.
func filled(t *testing.T) *Post {
	t.Helper()
	p := row(t)
	for i, x := range many(api.MaxRoutes) {
		do(t, p, give(x, i%api.MaxNodes))
	}
	wantCode(t, "filled", len(p.Owners()), api.MaxRoutes)
	return p
}

// row makes a Post whose nodes are linked in a row, and settled.
func row(t *testing.T) *Post {
	t.Helper()
	p := with(t, link(0, 1, 2), link(1, 2, 2), link(2, 3, 2), link(3, 4, 2), link(4, 5, 2))
	p.Settle(14)
	return p
}

// busy makes a Post with owners, links, ways that are not known to all, and news
// on their way, some of which come by a link that broke.
func busy(t *testing.T) *Post {
	t.Helper()
	p := with(t, link(0, 1, 2), link(1, 2, 2), link(2, 3, 5), link(0, 3, 15))
	p.Settle(14)
	do(t, p, own("*", 0), own("01*", 3), own("0110*", 1), own("11111111", 4), own("00*", 2))
	do(t, p, tick(0), hear(3), link(0, 3, 0), double(1), tell(1, 2))
	wantCode(t, "busy", len(p.News()), 18)
	return p
}

// model is a Post in the chapter's words: beside a net that is done the same
// steps, whose prefixes are whose.
type model struct {
	net    *net.Net
	owners map[api.Prefix]int
}

func newModel() *model {
	return &model{net: net.New(), owners: map[api.Prefix]int{}}
}

// do does a step, and tells its code.
func (m *model) do(x api.Step) int {
	if x.Kind != 7 {
		return m.net.Do(x)
	}
	_, there := m.owners[x.P]
	switch {
	case x.A < 0 || x.A > 5:
		return api.ErrRange
	case x.P.Len < 0 || x.P.Len > 8 || x.P.Bits < 0 || x.P.Bits >= 1<<x.P.Len:
		return api.ErrRange
	case x.N == 0 && !there:
		return api.ErrNone
	case x.N == 0:
		delete(m.owners, x.P)
	case !there && len(m.owners) == 40:
		return api.ErrFull
	default:
		m.owners[x.P] = x.A
	}
	return 0
}

// owner looks for the owner of an address, from its 8 bits to none.
func (m *model) owner(a int) int {
	for size := 8; size >= 0 && 0 <= a && a < 256; size-- {
		if who, there := m.owners[api.Prefix{Len: size, Bits: a >> (8 - size)}]; there {
			return who
		}
	}
	return api.Drop
}

// hop tells where a node sends what is a node's: along the path to it.
func (m *model) hop(n, who int) int {
	path, _ := m.net.Path(n, who)
	switch {
	case n == who:
		return n
	case len(path) > 1:
		return path[1]
	}
	return api.Drop
}

// routes tells all prefixes that are somebody's, in order, and where they go.
func (m *model) routes(hop func(who int) int) []api.Route {
	var list []api.Route
	for first := range 256 {
		for size := range 9 {
			p := api.Prefix{Len: size, Bits: first >> (8 - size)}
			if who, there := m.owners[p]; there && p.Bits<<(8-size) == first {
				list = append(list, api.Route{P: p, Hop: hop(who)})
			}
		}
	}
	return list
}

// wantAll holds all that a Post tells against a model.
func wantAll(t *testing.T, what any, p *Post, m *model) {
	t.Helper()
	if got, want := knownNet(p), knownNet(m.net); got != want {
		t.Errorf("%v: the net %s, want %s", what, got, want)
	}
	wantRoutes(t, what, p.Owners(), m.routes(func(who int) int { return who })...)
	for a := -1; a <= 256; a++ {
		if p.Owner(a) != m.owner(a) {
			t.Errorf("%v: Owner(%d): %d, want %d", what, a, p.Owner(a), m.owner(a))
		}
	}
	for n := range 6 {
		wantFull(t, what, p, n, m.routes(func(who int) int { return m.hop(n, who) })...)
		wantTables(t, what, p, n)
	}
}

// wantTables holds both tables of a node against what they are to be: by both
// each address goes where the node's way to its owner goes, by the small one with
// as few routes as can be.
func wantTables(t *testing.T, what any, p *Post, n int) {
	t.Helper()
	full, small := p.Full(n), p.Small(n)
	if full == nil || small == nil {
		t.Fatalf("%v: the tables of %d: %v %v", what, n, full, small)
	}
	for a := range 1 << api.Width {
		hop := api.Drop
		if who := p.Owner(a); who != api.Drop {
			hop = p.Way(n, who).Hop
		}
		if full.Look(a) != hop || small.Look(a) != hop {
			t.Errorf("%v: by the tables of %d the address %d goes to %d and %d, want %d", what, n, a, full.Look(a), small.Look(a), hop)
		}
	}
	if len(small.List()) > len(full.List()) {
		t.Errorf("%v: the small table of %d has %d routes, and the full one %d", what, n, len(small.List()), len(full.List()))
	}
	few, ok := least.Of(full)
	if !ok {
		t.Fatalf("%v: least.Of of the full table of %d: false", what, n)
	}
	wantRoutes(t, what, small.List(), few.List()...)
}

func TestNew(t *testing.T) {
	p := with(t)
	wantAll(t, "New", p, newModel())
	wantCode(t, "owners", len(p.Owners()), 0)
	for n := range api.MaxNodes {
		wantFull(t, "New", p, n)
		wantSmall(t, "New", p, n)
		refuse(t, p, api.ErrNone, take(whole, n), take(single(0), n))
	}
	for a := range 1 << api.Width {
		wantCode(t, a, p.Owner(a), api.Drop)
	}
}

// Each prefix that there is, given to each node, and taken again by any.
func TestOwnEachPrefix(t *testing.T) {
	p := with(t)
	for size := range api.Width + 1 {
		for bits := range 1 << size {
			x := api.Prefix{Len: size, Bits: bits}
			n := (size + bits) % api.MaxNodes
			do(t, p, give(x, n))
			wantRoutes(t, x, p.Owners(), api.Route{P: x, Hop: n})
			wantCode(t, x, p.Owner(prefix.First(x)), n)
			wantCode(t, x, p.Owner(prefix.Last(x)), n)
			wantCode(t, x, p.Owner(prefix.First(x)-1), api.Drop)
			wantCode(t, x, p.Owner(prefix.Last(x)+1), api.Drop)
			do(t, p, take(x, bits%api.MaxNodes))
			wantRoutes(t, x, p.Owners())
			wantCode(t, x, p.Owner(prefix.First(x)), api.Drop)
			wantCode(t, x, p.Do(take(x, n)), api.ErrNone)
		}
	}
}

// Prefixes stand in their order, in whatever order they were given.
func TestOwnersInOrder(t *testing.T) {
	want := []api.Route{to("*", 3), to("0*", 1), to("00000000", 5), to("01*", 0), to("010*", 2), to("1*", 1), to("10*", 4), to("11111111", 0)}
	for _, order := range [][]int{{0, 1, 2, 3, 4, 5, 6, 7}, {7, 6, 5, 4, 3, 2, 1, 0}, {3, 7, 0, 4, 1, 6, 2, 5}} {
		p := with(t)
		for _, i := range order {
			do(t, p, give(want[i].P, want[i].Hop))
		}
		wantRoutes(t, order, p.Owners(), want...)
	}
}

// The longest prefix counts, be it given ahead or behind.
func TestOwner(t *testing.T) {
	for _, steps := range [][]api.Step{
		{own("*", 0), own("01*", 1), own("0110*", 2), own("01101111", 3)},
		{own("01101111", 3), own("0110*", 2), own("01*", 1), own("*", 0)},
	} {
		p := with(t, steps...)
		for _, x := range []struct{ a, who int }{
			{0, 0}, {63, 0}, {64, 1}, {95, 1}, {96, 2}, {110, 2}, {111, 3}, {112, 1}, {127, 1}, {128, 0}, {255, 0},
		} {
			wantCode(t, x, p.Owner(x.a), x.who)
		}
		do(t, p, free("0110*", 2))
		wantCode(t, "by the next longest", p.Owner(100), 1)
		wantCode(t, "by the longest still", p.Owner(111), 3)
		do(t, p, free("*", 5))
		wantCode(t, "nobody's", p.Owner(0), api.Drop)
		wantCode(t, "nobody's", p.Owner(255), api.Drop)
		wantCode(t, "not taken", p.Owner(64), 1)
	}
}

// What is no address is nobody's, though all addresses are somebody's.
func TestOwnerOfNoAddress(t *testing.T) {
	for _, p := range []*Post{New(), with(t, own("*", 0)), with(t, own("*", 5), own("00000000", 2), own("11111111", 3)), busy(t), filled(t)} {
		for _, a := range []int{-1, -2, -255, -256, -1 << 32, 256, 257, 511, 512, 1 << 16, 1 << 32, 1<<32 + 1, math.MinInt, math.MinInt + 1, math.MinInt + 255, math.MaxInt, math.MaxInt - 1} {
			wantCode(t, a, p.Owner(a), api.Drop)
		}
	}
}

// N that is not 0 gives; and then as ever: no such node, no prefix, no room.
func TestOwnOfEachN(t *testing.T) {
	for _, n := range gifts() {
		p := with(t, api.Step{Kind: api.SOwn, A: 3, N: n, P: of("01*")})
		wantRoutes(t, n, p.Owners(), to("01*", 3))
		do(t, p, api.Step{Kind: api.SOwn, A: 1, N: n, P: of("01*")})
		wantRoutes(t, n, p.Owners(), to("01*", 1))
		refuse(t, p, api.ErrRange, api.Step{Kind: api.SOwn, A: api.Drop, N: n, P: of("01*")}, api.Step{Kind: api.SOwn, A: 1, N: n, P: api.Prefix{Len: 9}})
		refuse(t, filled(t), api.ErrFull, api.Step{Kind: api.SOwn, A: 1, N: n, P: of("*")})
		do(t, p, free("01*", 3))
		wantRoutes(t, n, p.Owners())
	}
}

// What SOwn has no use for changes nothing.
func TestOwnWhateverB(t *testing.T) {
	for _, b := range append(noNodes(), 0, 1, 5) {
		p := with(t, api.Step{Kind: api.SOwn, A: 3, B: b, N: 1, P: of("0*")})
		wantRoutes(t, b, p.Owners(), to("0*", 3))
		do(t, p, api.Step{Kind: api.SOwn, A: 3, B: b, P: of("0*")})
		wantRoutes(t, b, p.Owners())
	}
}

// The same prefix is given to another node: it is that one's alone.
func TestOwnAnother(t *testing.T) {
	p := with(t, own("1*", 0), own("10*", 1), own("*", 2))
	for n := range api.MaxNodes {
		do(t, p, own("10*", n), own("10*", n))
		wantRoutes(t, n, p.Owners(), to("*", 2), to("1*", 0), to("10*", n))
		wantCode(t, n, p.Owner(130), n)
	}
	// Whoever is named takes it, though another one has it.
	do(t, p, free("10*", 3))
	wantRoutes(t, "taken", p.Owners(), to("*", 2), to("1*", 0))
	refuse(t, p, api.ErrNone, free("10*", 5), free("10*", 3))
}

// A prefix that is given and taken again leaves all others as they were, those
// above and below it, too.
func TestOwnAndTakeLeavesOthers(t *testing.T) {
	for _, p := range []*Post{busy(t), with(t, own("*", 1), own("0*", 2), own("0101*", 3)), with(t)} {
		before := known(p)
		for _, s := range []string{"010*", "1*", "11*", "01010*", "00000000", "1111111*", "0110111*"} {
			for n := range api.MaxNodes {
				do(t, p, own(s, n))
				wantCode(t, s, p.Owner(prefix.First(of(s))), n)
				do(t, p, free(s, api.MaxNodes-1-n))
				wantKnown(t, s, p, before)
			}
		}
	}
}

// No such node: ErrRange, though there is no such prefix, none is there and none
// has room.
func TestOwnOfNoNode(t *testing.T) {
	for _, p := range []*Post{New(), busy(t), filled(t)} {
		var steps []api.Step
		for _, bad := range noNodes() {
			for _, x := range append(noPrefixes(), whole, single(0), single(3), of("01*"), of("101*")) {
				steps = append(steps, give(x, bad), take(x, bad))
			}
		}
		refuse(t, p, api.ErrRange, steps...)
	}
}

// What is no prefix: ErrRange, though none is there and none has room.
func TestOwnOfNoPrefix(t *testing.T) {
	for _, p := range []*Post{New(), busy(t), filled(t)} {
		var steps []api.Step
		for _, x := range noPrefixes() {
			for n := range api.MaxNodes {
				steps = append(steps, give(x, n), take(x, n))
			}
		}
		refuse(t, p, api.ErrRange, steps...)
	}
}

// A prefix that is nobody's is taken: ErrNone, though those around it are
// somebody's, and though there is no room.
func TestTakeOfNobodys(t *testing.T) {
	refuse(t, busy(t), api.ErrNone, free("0*", 0), free("011*", 1), free("01100*", 1), free("1111111*", 4), free("00000000", 2))
	refuse(t, filled(t), api.ErrNone, free("*", 0), free("0*", 0), free("0000000*", 0), take(single(1), 0), take(single(255), 5))
	for n := range api.MaxNodes {
		refuse(t, New(), api.ErrNone, free("*", n), free("1*", n), free("11111111", n))
	}
}

// As many as a table may have, and one more; those that are there may be given
// to another one, and where one is taken there is room.
func TestOwnRoom(t *testing.T) {
	p := with(t)
	list := many(api.MaxRoutes)
	for i, x := range list {
		wantCode(t, "given so far", len(p.Owners()), i)
		do(t, p, give(x, i%api.MaxNodes))
	}
	refuse(t, p, api.ErrFull, own("*", 0), own("00*", 1), give(single(1), 2), give(single(255), 5))
	for i, x := range list {
		do(t, p, give(x, (i+1)%api.MaxNodes))
	}
	for i, x := range p.Owners() {
		if (x != api.Route{P: list[i], Hop: (i + 1) % api.MaxNodes}) {
			t.Errorf("given to the next: %v", x)
		}
	}
	refuse(t, p, api.ErrFull, own("*", 0))
	do(t, p, take(list[17], 0), own("*", 4))
	wantCode(t, "as many again", len(p.Owners()), api.MaxRoutes)
	wantCode(t, "by the whole", p.Owner(6*17), 4)
	refuse(t, p, api.ErrFull, give(list[17], 0))
	for _, x := range p.Owners() {
		do(t, p, take(x.P, 0))
	}
	wantRoutes(t, "all taken", p.Owners())
}

// Tables of as many prefixes as there may be: all of the routes are needed; none
// but one is.
func TestTablesOfMany(t *testing.T) {
	p := filled(t)
	for n := range api.MaxNodes {
		wantTables(t, "many", p, n)
		wantCode(t, n, len(p.Full(n).List()), api.MaxRoutes)
		wantCode(t, n, len(p.Small(n).List()), api.MaxRoutes)
	}
	for _, x := range p.Owners() {
		do(t, p, give(x.P, 5))
	}
	do(t, p, take(single(0), 0), own("*", 5))
	for n := range api.MaxNodes {
		wantCode(t, n, len(p.Full(n).List()), api.MaxRoutes)
		wantSmall(t, "all to one", p, n, to("*", min(n+1, 5)))
	}
}

// The net's steps through Do: what they do and their codes are a Net's, of which
// the owners know nothing.
func TestStepsOfTheNet(t *testing.T) {
	p, n := New(), net.New()
	do(t, p, own("*", 0), own("1*", 3))
	owners := p.Owners()
	for _, x := range []struct {
		step api.Step
		code int
	}{
		{link(0, 1, 2), 0}, {link(1, 2, 15), 0}, {link(0, 0, 1), api.ErrRange}, {link(0, 6, 1), api.ErrRange}, {link(0, 1, 16), api.ErrRange}, {link(-1, 1, -1), api.ErrRange},
		{tell(0, 2), api.ErrNone}, {tell(0, 0), api.ErrNone}, {tell(6, 0), api.ErrRange}, {tell(0, -1), api.ErrRange}, {tell(0, 1), 0},
		{hear(0), 0}, {hear(5), api.ErrNone}, {hear(-1), api.ErrNone}, {lose(5), api.ErrNone}, {lose(0), 0}, {double(4), api.ErrNone}, {double(3), 0},
		{tick(6), api.ErrRange}, {tick(math.MinInt), api.ErrRange}, {tick(1), 0}, {tick(1), 0}, {tell(0, 1), 0},
		{tick(1), api.ErrFull}, {tell(0, 1), api.ErrFull}, {double(0), 0}, {double(0), 0}, {double(0), 0}, {double(0), 0}, {double(0), 0}, {double(0), api.ErrFull},
		{link(1, 0, 0), 0}, {hear(0), api.ErrNone}, {hear(0), api.ErrNone}, {lose(0), 0}, {link(0, 1, 3), 0}, {hear(30), 0},
		{link(math.MinInt, math.MaxInt, math.MinInt), api.ErrRange}, {hear(math.MinInt), api.ErrNone}, {lose(math.MaxInt), api.ErrNone}, {double(math.MinInt), api.ErrNone},
	} {
		wantCode(t, x.step, p.Do(x.step), x.code)
		wantCode(t, x.step, n.Do(x.step), x.code)
		if got, want := knownNet(p), knownNet(n); got != want {
			t.Fatalf("%v: %s, want %s", x.step, got, want)
		}
		wantRoutes(t, x.step, p.Owners(), owners...)
	}
}

// What is changed though there is a code: who ticks is younger, and tells those
// for whom there is room; news that are refused are on their way no longer.
func TestStepsThatChangeWithACode(t *testing.T) {
	p := with(t, link(0, 1, 1), link(0, 2, 1), link(3, 4, 1), tell(3, 4), own("*", 0))
	for range 24 {
		do(t, p, double(0))
	}
	wantCode(t, "no room", p.Do(tick(0)), api.ErrFull)
	wantCode(t, "the first was told", len(p.News()), 36)
	wantCode(t, "younger", p.Way(0, 0).Seq, 1)
	do(t, p, hear(30))
	wantFull(t, "what was told", p, 1, to("*", 0))
	wantFull(t, "what was not told", p, 2, to("*", api.Drop))
	do(t, p, link(3, 4, 0))
	wantCode(t, "the link broke", p.Do(hear(0)), api.ErrNone)
	wantCode(t, "no longer", len(p.News()), 34)
}

// What a step of the net has no use for changes nothing: it has no prefix, be
// that one or none.
func TestStepsOfTheNetHaveNoPrefix(t *testing.T) {
	for _, x := range append(noPrefixes(), of("01*"), single(7)) {
		p, other := busy(t), busy(t)
		for _, y := range []api.Step{link(4, 0, 3), tick(0), tell(1, 0), hear(2), lose(1), double(1), {}} {
			z := y
			z.P = x
			wantCode(t, z, p.Do(z), other.Do(y))
			wantKnown(t, z, p, known(other))
		}
	}
}

// No such kind: ErrKind, whatever else is in the step.
func TestKinds(t *testing.T) {
	for _, p := range []*Post{New(), busy(t), filled(t)} {
		for _, kind := range noKinds() {
			refuse(t, p, api.ErrKind,
				api.Step{Kind: kind}, api.Step{Kind: kind, A: 0, B: 1, N: 1}, api.Step{Kind: kind, A: 1, N: 1, P: of("01*")},
				api.Step{Kind: kind, A: -1, B: 6, N: -1, P: api.Prefix{Len: -1}},
				api.Step{Kind: kind, A: math.MinInt, B: math.MaxInt, N: math.MaxInt, P: api.Prefix{Len: math.MaxInt, Bits: math.MinInt}})
		}
	}
}

// A Post is a Net: what is asked of either is told of the same one, and what its
// Net does its tables know.
func TestThePostIsANet(t *testing.T) {
	p := with(t, own("*", 2), own("0*", 0))
	wantCode(t, "SOwn is no step of a Net", p.Net.Do(own("1*", 1)), api.ErrKind)
	wantRoutes(t, "nor is it done", p.Owners(), to("*", 2), to("0*", 0))
	wantCode(t, "by the net", p.Net.Do(link(0, 1, 4)), 0)
	do(t, p, link(1, 2, 5))
	p.Settle(14)
	wantFull(t, "by both", p, 1, to("*", 2), to("0*", 0))
	wantCode(t, "by both", p.Cost(0, 1)+p.Net.Cost(2, 1), 9)
	if !slices.Equal(p.Far(0), []int{0, 4, 9, api.Far, api.Far, api.Far}) || len(p.List()) != 2 || !slices.Equal(p.Of(1), []int{0, 2}) {
		t.Errorf("links: %v %v %v", p.Far(0), p.List(), p.Of(1))
	}
	if path, ok := p.Path(0, 2); !slices.Equal(path, []int{0, 1, 2}) || !ok {
		t.Errorf("Path(0, 2): %v %v", path, ok)
	}
	if got, want := knownNet(p), knownNet(p.Net); got != want {
		t.Errorf("%s, want %s", got, want)
	}
	wantCode(t, "by the net", p.Net.Do(link(2, 1, 0)), 0)
	wantFull(t, "broken", p, 1, to("*", api.Drop), to("0*", 0))
}

// No such node has no table.
func TestTablesOfNoNode(t *testing.T) {
	for _, p := range []*Post{New(), busy(t), filled(t), with(t, own("*", 0))} {
		for _, bad := range noNodes() {
			if p.Full(bad) != nil || p.Small(bad) != nil {
				t.Errorf("%d: %v %v", bad, p.Full(bad), p.Small(bad))
			}
		}
	}
}

// A node that owns all keeps all, with links or without.
func TestTablesOfOneThatOwnsAll(t *testing.T) {
	for n := range api.MaxNodes {
		p := with(t, give(whole, n))
		wantFull(t, "alone", p, n, to("*", n))
		wantSmall(t, "alone", p, n, to("*", n))
		q := row(t)
		do(t, q, give(whole, n), own("0*", n), own("01*", n), own("11111111", n))
		wantFull(t, "in a row", q, n, to("*", n), to("0*", n), to("01*", n), to("11111111", n))
		wantSmall(t, "in a row", q, n, to("*", n))
		r := with(t, own("0*", n), own("10*", n), own("11*", n))
		wantFull(t, "in parts", r, n, to("0*", n), to("10*", n), to("11*", n))
		wantSmall(t, "in parts", r, n, to("*", n))
	}
}

// Without a way all goes nowhere: each prefix by a route in the full table, none
// in the small one.
func TestTablesWithoutAWay(t *testing.T) {
	p := with(t, own("*", 0), own("01*", 1), own("011*", 0), link(2, 3, 1))
	p.Settle(14)
	for n := 2; n < api.MaxNodes; n++ {
		wantFull(t, "no way", p, n, to("*", api.Drop), to("01*", api.Drop), to("011*", api.Drop))
		wantSmall(t, "no way", p, n)
	}
	wantFull(t, "one's own alone", p, 1, to("*", api.Drop), to("01*", 1), to("011*", api.Drop))
	wantSmall(t, "one's own alone", p, 1, to("010*", 1))
	wantFull(t, "one's own alone", p, 0, to("*", 0), to("01*", api.Drop), to("011*", 0))
	wantSmall(t, "one's own alone", p, 0, to("*", 0), to("010*", api.Drop))
}

// The way to the owner goes by a neighbour: there the prefix goes, not to the
// owner.
func TestTablesByANeighbour(t *testing.T) {
	p := row(t)
	do(t, p, own("0*", 0), own("10*", 2), own("110*", 5), own("111*", 3))
	for n, hops := range [][]int{{0, 1, 1, 1}, {0, 2, 2, 2}, {1, 2, 3, 3}, {2, 2, 4, 3}, {3, 3, 5, 3}, {4, 4, 5, 4}} {
		wantFull(t, "row", p, n, to("0*", hops[0]), to("10*", hops[1]), to("110*", hops[2]), to("111*", hops[3]))
		wantTables(t, "row", p, n)
	}
	wantSmall(t, "row", p, 0, to("*", 0), to("1*", 1))
	wantSmall(t, "row", p, 4, to("*", 3), to("110*", 5))
	wantSmall(t, "row", p, 5, to("*", 4), to("110*", 5))
}

// The document's example: three routes are enough.
func TestSmallOfTheExample(t *testing.T) {
	p := with(t, link(0, 1, 1), link(0, 2, 1), own("00*", 1), own("01*", 1), own("10*", 2), own("111*", 2), own("110*", 1))
	p.Settle(14)
	wantFull(t, "example", p, 0, to("00*", 1), to("01*", 1), to("10*", 2), to("110*", 1), to("111*", 2))
	wantSmall(t, "example", p, 0, to("*", 1), to("1*", 2), to("110*", 1))
}

// A table says what a node knows: news that came in, and links of its own; what
// it was not told yet it does not know.
func TestTablesAsNewsComeIn(t *testing.T) {
	p := with(t, link(0, 1, 1), link(1, 2, 1), own("*", 0))
	wantFull(t, "linked alone", p, 1, to("*", api.Drop))
	do(t, p, tick(0))
	wantFull(t, "on their way", p, 1, to("*", api.Drop))
	do(t, p, hear(0))
	wantFull(t, "heard", p, 1, to("*", 0))
	wantFull(t, "not told", p, 2, to("*", api.Drop))
	do(t, p, tell(1, 2))
	do(t, p, hear(5))
	wantFull(t, "told", p, 2, to("*", 1))
	do(t, p, link(0, 1, 0))
	wantFull(t, "it broke", p, 1, to("*", api.Drop))
	wantSmall(t, "it broke", p, 1)
	wantFull(t, "not told yet", p, 2, to("*", 1))
	wantFull(t, "the owner", p, 0, to("*", 0))
	do(t, p, link(0, 2, 9))
	p.Settle(14)
	wantFull(t, "the other way", p, 1, to("*", 2))
	wantFull(t, "the other way", p, 2, to("*", 0))
}

// A table goes with its owner: given to another one, taken, given anew.
func TestTablesAsOwnersChange(t *testing.T) {
	p := row(t)
	for who := range api.MaxNodes {
		do(t, p, own("01*", who))
		for n := range api.MaxNodes {
			hop := n
			switch {
			case who < n:
				hop = n - 1
			case who > n:
				hop = n + 1
			}
			wantFull(t, who, p, n, to("01*", hop))
			wantSmall(t, who, p, n, to("01*", hop))
		}
	}
	do(t, p, free("01*", 0))
	for n := range api.MaxNodes {
		wantFull(t, "taken", p, n)
		wantSmall(t, "taken", p, n)
	}
}

// randomPrefix is any one, the longer ones not more often than the shorter ones.
func randomPrefix(r *rand.Rand) api.Prefix {
	size := r.Intn(api.Width + 1)
	return api.Prefix{Len: size, Bits: r.Intn(1 << size)}
}

// randomOwn gives a prefix, or takes one, mostly one of those that are there.
func randomOwn(r *rand.Rand, p *Post) api.Step {
	x := give(randomPrefix(r), r.Intn(api.MaxNodes))
	owners := p.Owners()
	if len(owners) > 0 && r.Intn(3) == 0 {
		x.P = owners[r.Intn(len(owners))].P
		x.N = r.Intn(2)
	}
	switch r.Intn(40) {
	case 0:
		x.P = noPrefixes()[r.Intn(len(noPrefixes()))]
	case 1:
		x.N = 0
	case 2:
		x.N = gifts()[r.Intn(len(gifts()))]
	}
	return x
}

// randomStep is one that can mostly be done.
func randomStep(r *rand.Rand, p *Post) api.Step {
	a, b := r.Intn(api.MaxNodes), r.Intn(api.MaxNodes)
	place := r.Intn(max(len(p.News()), 1))
	var x api.Step
	switch r.Intn(20) {
	case 0, 1:
		x = link(a, b, 1+r.Intn(api.MaxCost))
	case 2:
		x = link(a, b, 0)
	case 3:
		x = tick(a)
	case 4, 5:
		x = tell(a, b)
	case 6:
		x = lose(place)
	case 7:
		x = double(place)
	case 8, 9, 10, 11, 12:
		x = hear(place)
	default:
		x = randomOwn(r, p)
	}
	bad := noNodes()[r.Intn(len(noNodes()))]
	switch r.Intn(60) {
	case 0:
		x.A = bad
	case 1:
		x.B = bad
	case 2:
		x.N = bad
	case 3:
		x.Kind = noKinds()[r.Intn(len(noKinds()))]
	}
	return x
}

// Whatever is done in whatever order, and settled now and then: a Post tells what
// the chapter says.
func TestRandomPosts(t *testing.T) {
	r := rand.New(rand.NewSource(8))
	codes := map[int]int{}
	for range 25 {
		p, m := New(), newModel()
		for range 200 {
			if r.Intn(25) == 0 {
				rounds := r.Intn(17) - 2
				p.Settle(rounds)
				m.net.Settle(rounds)
				wantAll(t, rounds, p, m)
			}
			x := randomStep(r, p)
			code := p.Do(x)
			codes[code]++
			wantCode(t, x, code, m.do(x))
			wantAll(t, x, p, m)
			if t.Failed() {
				return
			}
		}
	}
	for _, code := range []int{0, api.ErrRange, api.ErrNone, api.ErrKind, api.ErrFull} {
		if codes[code] < 10 {
			t.Errorf("the code %d came %d times alone: the scripts try too little", code, codes[code])
		}
	}
}

// When all is settled each address goes from node to node to its owner, by full
// tables and by small ones, if there is a way.
func TestAddressesComeToTheirOwners(t *testing.T) {
	r := rand.New(rand.NewSource(81))
	for range 20 {
		p := New()
		for range 150 {
			p.Do(randomStep(r, p))
		}
		p.Settle(14)
		for _, table := range []func(int) *table.Table{p.Full, p.Small} {
			var all [api.MaxNodes][]int
			for n := range all {
				all[n] = table(n).All()
			}
			for from := range all {
				for a, who := range owners(p) {
					at := from
					for range api.MaxNodes {
						if next := all[at][a]; next != api.Drop {
							at = next
						}
					}
					if who != api.Drop && p.Far(from)[who] != api.Far {
						wantCode(t, a, at, who)
						continue
					}
					wantCode(t, a, at, from)
				}
			}
		}
	}
}

// owners tells of each address whose it is.
func owners(p *Post) []int {
	var list []int
	for a := range 1 << api.Width {
		list = append(list, p.Owner(a))
	}
	return list
}

// The same is told of the same steps.
func TestNothingElseCounts(t *testing.T) {
	var scripts [2]string
	for i := range scripts {
		r := rand.New(rand.NewSource(82))
		p := New()
		for range 300 {
			x := randomStep(r, p)
			scripts[i] += fmt.Sprint(x, p.Do(x))
		}
		p.Settle(3)
		scripts[i] += known(p)
	}
	if scripts[0] != scripts[1] {
		t.Errorf("%s, and %s", scripts[0], scripts[1])
	}
}

// Tables and lists that were told ahead stay as they were, whatever is done later.
func TestAnswersStay(t *testing.T) {
	p := busy(t)
	list := p.Owners()
	var tables []*table.Table
	for n := range api.MaxNodes {
		tables = append(tables, p.Full(n), p.Small(n))
	}
	told := func() string {
		all := []any{list}
		for _, x := range tables {
			all = append(all, x.List(), x.All())
		}
		return fmt.Sprint(all...)
	}
	want := told()
	for _, x := range []api.Step{
		own("01*", 5), own("1*", 2), free("00*", 0), free("*", 0), own("0000*", 1), own("*", 3), hear(4), link(0, 1, 0), link(3, 4, 2), link(2, 3, 0), lose(3), tick(2),
	} {
		do(t, p, x)
		if got := told(); got != want {
			t.Fatalf("%v: %s, want %s", x, got, want)
		}
	}
	p.Settle(14)
	if got := told(); got != want {
		t.Errorf("settled: %s, want %s", got, want)
	}
}

// spoil writes into a list, and behind its end, wherever it has memory.
func spoil[E any](list []E, x E) {
	list = append(list, x)
	list = list[:cap(list)]
	for i := range list {
		list[i] = x
	}
}

// spoilTable changes each route of a table, and then takes it away.
func spoilTable(t *testing.T, x *table.Table) {
	t.Helper()
	for _, r := range x.List() {
		wantCode(t, r, x.Set(r.P, 5), 0)
		wantCode(t, r, x.Set(r.P, api.None), 0)
	}
	for i := range api.MaxRoutes {
		wantCode(t, i, x.Set(single(i), 4), 0)
	}
}

// Who changes tables that were answered, or writes into lists, changes neither
// the Post nor what else was answered.
func TestAnswersAreNew(t *testing.T) {
	for _, p := range []*Post{busy(t), filled(t), New(), with(t, own("*", 0), own("1*", 1))} {
		before := known(p)
		for n := range api.MaxNodes {
			full, small := p.Full(n), p.Small(n)
			want := fmt.Sprint(full.List(), small.List())
			spoilTable(t, p.Full(n))
			spoilTable(t, p.Small(n))
			if got := fmt.Sprint(full.List(), small.List()); got != want {
				t.Errorf("told ahead: %s, want %s", got, want)
			}
			spoilTable(t, full)
			if got := fmt.Sprint(p.Full(n).List(), small.List()); got != want {
				t.Errorf("of one node: %s, want %s", got, want)
			}
			wantKnown(t, "tables", p, before)
		}
		list := p.Owners()
		want := slices.Clone(list)
		for _, x := range [][]api.Route{p.Owners(), p.Owners()[:0]} {
			spoil(x, api.Route{P: single(88), Hop: 5})
		}
		wantRoutes(t, "told ahead", list, want...)
		wantKnown(t, "lists", p, before)
	}
}

// A list that was written into is not seen by the steps behind it.
func TestStepsBehindAnswers(t *testing.T) {
	r := rand.New(rand.NewSource(83))
	p, other := New(), New()
	for range 200 {
		x := randomStep(r, p)
		spoil(p.Owners(), api.Route{P: single(88), Hop: 5})
		spoilTable(t, p.Full(r.Intn(api.MaxNodes)))
		spoilTable(t, p.Small(r.Intn(api.MaxNodes)))
		wantCode(t, x, p.Do(x), other.Do(x))
		wantKnown(t, x, p, known(other))
		if t.Failed() {
			return
		}
	}
}

// Two Posts know nothing of each other, and asking changes nothing.
func TestPostsStayApart(t *testing.T) {
	one, other := busy(t), New()
	before := known(one)
	wantAll(t, "new", other, newModel())
	do(t, other, own("*", 5), own("01*", 4), link(0, 5, 1), tick(5), link(0, 1, 9))
	other.Settle(2)
	after := known(other)
	for range 2 {
		wantKnown(t, "one", one, before)
		wantKnown(t, "other", other, after)
	}
	do(t, one, free("*", 0), own("11*", 2), link(2, 3, 0))
	one.Settle(1)
	wantKnown(t, "other", other, after)
}

// Of a nil nothing is promised, but no call panics: it is asked as a Post where
// nobody is, and nothing can be done there.
func TestNil(t *testing.T) {
	for _, p := range []*Post{nil, {}} {
		for _, x := range []api.Step{own("*", 0), free("*", 0), link(0, 1, 2), tick(0), tell(0, 1), hear(0), lose(0), double(0), {}} {
			wantCode(t, x, p.Do(x), api.ErrNone)
		}
		wantCode(t, "owners", len(p.Owners()), 0)
		for a := -1; a <= 1<<api.Width; a++ {
			wantCode(t, a, p.Owner(a), api.Drop)
		}
	}
	var p *Post
	for n := -1; n <= api.MaxNodes; n++ {
		if p.Full(n) != nil || p.Small(n) != nil {
			t.Errorf("%d: %v %v", n, p.Full(n), p.Small(n))
		}
	}
}

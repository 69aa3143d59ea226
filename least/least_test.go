package least

import (
	"fmt"
	"math"
	"math/rand"
	"slices"
	"strings"
	"testing"

	"handpost/api"
	"handpost/prefix"
	"handpost/table"
	"handpost/trie"
)

// px is the prefix of a text; the tests know no wrong one.
func px(s string) api.Prefix {
	p, ok := prefix.Parse(s)
	if !ok {
		panic(s)
	}
	return p
}

// rt is a route, its prefix told as text.
func rt(s string, hop int) api.Route {
	return api.Route{P: px(s), Hop: hop}
}

// ch is a change, its prefix told as text.
func ch(s string, old, new int) api.Change {
	return api.Change{P: px(s), Old: old, New: new}
}

// of makes a table of routes that are to have no fault.
func of(t *testing.T, l ...api.Route) *table.Table {
	t.Helper()
	x, code := table.Of(l)
	if code != 0 || x == nil {
		t.Fatalf("table.Of(%v): %v, %d", l, x, code)
	}
	return x
}

// wantList holds a table's list against routes.
func wantList(t *testing.T, x *table.Table, want ...api.Route) {
	t.Helper()
	if got := x.List(); !slices.Equal(got, want) {
		t.Errorf("List: %v, want %v", got, want)
	}
}

// wantCode holds a code, or a number, against the one that the chapter asks for.
func wantCode(t *testing.T, what any, got, want int) {
	t.Helper()
	if got != want {
		t.Errorf("%v: %d, want %d", what, got, want)
	}
}

// wantDiff holds what Diff tells against changes.
func wantDiff(t *testing.T, a, b *table.Table, want ...api.Change) {
	t.Helper()
	if got := Diff(a, b); !slices.Equal(got, want) {
		t.Errorf("Diff(%v, %v): %v, want %v", a.List(), b.List(), got, want)
	}
}

// few is what Of answers, which is to be true.
func few(t *testing.T, x *table.Table) *table.Table {
	t.Helper()
	y, ok := Of(x)
	if !ok || y == nil {
		t.Fatalf("Of(%v): %v, %v", x.List(), y, ok)
	}
	return y
}

// wantFew holds Of and Count against routes, and all else that is promised of
// them.
func wantFew(t *testing.T, x *table.Table, want ...api.Route) {
	t.Helper()
	wantList(t, few(t, x), want...)
	wantAll(t, x)
}

// wantAll holds Of and Count against the chapter's words, and asks whether all
// goes as it went, whether fewer routes would do, and whether it is the same
// made again.
func wantAll(t *testing.T, x *table.Table) {
	t.Helper()
	l, y := x.List(), few(t, x)
	got := y.List()
	if want := routesByWords("", x.All(), api.Drop); !slices.Equal(got, want) {
		t.Fatalf("Of(%v): %v, want %v", l, got, want)
	}
	if !slices.Equal(x.All(), y.All()) {
		t.Fatalf("Of(%v): %v: not all goes as it went", l, got)
	}
	if want := fewest(x.All())[api.Drop]; len(got) != want {
		t.Fatalf("Of(%v): %v, %d are enough", l, got, want)
	}
	wantCode(t, l, Count(x), len(got))
	wantCode(t, got, Count(y), len(got))
	wantList(t, few(t, y), got...)
	if !slices.Equal(x.List(), l) || !slices.Equal(y.List(), got) {
		t.Fatalf("changed: %v is %v, %v is %v", l, x.List(), got, y.List())
	}
}

// wishesByWords are the wishes, in order, of a part whose addresses go to these
// hops, by the chapter's words.
func wishesByWords(hops []int) []int {
	if slices.Min(hops) == slices.Max(hops) {
		return hops[:1]
	}
	low, high := wishesByWords(hops[:len(hops)/2]), wishesByWords(hops[len(hops)/2:])
	var both, some []int
	for hop := api.Drop; hop < api.MaxNodes; hop++ {
		if slices.Contains(low, hop) && slices.Contains(high, hop) {
			both = append(both, hop)
		}
		if slices.Contains(low, hop) || slices.Contains(high, hop) {
			some = append(some, hop)
		}
	}
	if len(both) > 0 {
		return both
	}
	return some
}

// routesByWords are the routes that are made in a part by the chapter's words:
// of its bits, its addresses' hops, and that to which all goes ahead of it.
func routesByWords(bits string, hops []int, hop int) []api.Route {
	var l []api.Route
	if w := wishesByWords(hops); !slices.Contains(w, hop) {
		hop = w[0]
		l = append(l, rt((bits + "*")[:min(len(bits)+1, api.Width)], hop))
	}
	if slices.Min(hops) == slices.Max(hops) {
		return l
	}
	low := routesByWords(bits+"0", hops[:len(hops)/2], hop)
	return slices.Concat(l, low, routesByWords(bits+"1", hops[len(hops)/2:], hop))
}

// fewest tells how few routes are enough for these addresses, by the hop to
// which all goes ahead of them: it tries every route, and none, at every prefix.
func fewest(hops []int) map[int]int {
	inside := map[int]int{}
	for hop := api.Drop; hop < api.MaxNodes; hop++ {
		if len(hops) == 1 && hops[0] != hop {
			inside[hop] = 1000 // more than there can be: it would go elsewhere
		}
	}
	if len(hops) > 1 {
		low, high := fewest(hops[:len(hops)/2]), fewest(hops[len(hops)/2:])
		for hop := api.Drop; hop < api.MaxNodes; hop++ {
			inside[hop] = low[hop] + high[hop]
		}
	}
	best := map[int]int{}
	for hop := api.Drop; hop < api.MaxNodes; hop++ {
		best[hop] = inside[hop]
		for other := api.Drop; other < api.MaxNodes; other++ {
			best[hop] = min(best[hop], 1+inside[other])
		}
	}
	return best
}

// allPrefixes makes every prefix, in a table's order: by texts, where the
// package reckons.
func allPrefixes() []api.Prefix {
	var list []api.Prefix
	for size := 0; size <= api.Width; size++ {
		for bits := 0; bits < 1<<size; bits++ {
			list = append(list, api.Prefix{Len: size, Bits: bits})
		}
	}
	key := func(p api.Prefix) string {
		bits := strings.TrimSuffix(prefix.Text(p), "*")
		return fmt.Sprintf("%s %d", (bits + "00000000")[:api.Width], p.Len)
	}
	slices.SortFunc(list, func(p, q api.Prefix) int { return strings.Compare(key(p), key(q)) })
	return list
}

func noPrefixes() []api.Prefix {
	return []api.Prefix{
		{Len: -1}, {Len: api.Width + 1}, {Len: 0, Bits: 1}, {Len: 0, Bits: -1}, {Len: 3, Bits: 8},
		{Len: api.Width, Bits: 256}, {Len: api.Width, Bits: -1}, {Len: 64}, {Len: 63, Bits: 1},
		{Len: math.MinInt, Bits: math.MinInt}, {Len: math.MaxInt, Bits: math.MaxInt}, {Len: math.MinInt}, {Len: math.MaxInt},
	}
}

func noHops() []int {
	return []int{api.MaxNodes, api.MaxNodes + 1, -3, 255, -255, 1 << 32, math.MinInt, math.MaxInt}
}

// apart makes n routes of Width bits, no two of which can be one.
func apart(n int) []api.Route {
	var l []api.Route
	for k := range n {
		l = append(l, api.Route{P: api.Prefix{Len: api.Width, Bits: 3 * k}, Hop: k % 2})
	}
	return l
}

// random makes a table of some routes of some lengths; few hops make parts that
// go alike in spite of their routes.
func random(r *rand.Rand) *table.Table {
	x := table.New()
	longest, hops := r.Intn(api.Width+1), 1+r.Intn(api.MaxNodes+1)
	for range r.Intn(80) {
		size := r.Intn(longest + 1)
		x.Set(api.Prefix{Len: size, Bits: r.Intn(1 << size)}, r.Intn(hops)-1)
	}
	return x
}

func TestOfWithoutRoutes(t *testing.T) {
	wantFew(t, table.New())
	wantCode(t, "none", Count(table.New()), 0)
}

// One route of any length, at both ends: it is needed, but if it goes to Drop.
func TestOfOneRoute(t *testing.T) {
	for size := 0; size <= api.Width; size++ {
		for _, bits := range []int{0, 1<<size - 1} {
			p := api.Prefix{Len: size, Bits: bits}
			for hop := range api.MaxNodes {
				wantFew(t, of(t, api.Route{P: p, Hop: hop}), api.Route{P: p, Hop: hop})
			}
			wantFew(t, of(t, api.Route{P: p, Hop: api.Drop}))
			wantCode(t, p, Count(of(t, api.Route{P: p, Hop: api.Drop})), 0)
		}
	}
}

func TestOfExample(t *testing.T) {
	x := of(t, rt("00*", 1), rt("01*", 1), rt("10*", 2), rt("110*", 1), rt("111*", 2))
	wantFew(t, x, rt("*", 1), rt("1*", 2), rt("110*", 1))
	wantCode(t, "example", Count(x), 3)
}

// Routes to Drop: needed inside others alone; and Drop is a wish like others,
// the least one.
func TestOfDrop(t *testing.T) {
	wantFew(t, of(t, rt("*", api.Drop), rt("0*", api.Drop), rt("11111111", api.Drop)))
	wantFew(t, of(t, rt("*", 0), rt("01*", api.Drop)), rt("*", 0), rt("01*", api.Drop))
	wantFew(t, of(t, rt("*", 0), rt("0101*", api.Drop)), rt("*", 0), rt("0101*", api.Drop))
	wantFew(t, of(t, rt("0*", 3)), rt("0*", 3))
	wantFew(t, of(t, rt("0*", 3), rt("1*", api.Drop)), rt("0*", 3))
	// Inside 2, halves that have nothing but Drop in common, and halves of which
	// one wishes Drop: it is less than 0.
	wantFew(t, of(t, rt("*", 2), rt("0100*", api.Drop), rt("0101*", 0), rt("0110*", api.Drop), rt("0111*", 1)),
		rt("*", 2), rt("01*", api.Drop), rt("0101*", 0), rt("0111*", 1))
	wantFew(t, of(t, rt("*", 2), rt("0000*", api.Drop), rt("0001*", 0)),
		rt("*", 2), rt("000*", api.Drop), rt("0001*", 0))
}

// Halves that wish nothing in common: the part wishes what one of them does.
func TestOfNothingInCommon(t *testing.T) {
	wantFew(t, of(t, rt("0*", 4), rt("1*", 3)), rt("*", 3), rt("0*", 4))
	wantFew(t, of(t, rt("0*", 0), rt("1*", 5)), rt("*", 0), rt("1*", 5))
	// {1, 2} and {3, 4}: the least of all four.
	wantFew(t, of(t, rt("00*", 2), rt("01*", 1), rt("10*", 4), rt("11*", 3)),
		rt("*", 1), rt("00*", 2), rt("1*", 3), rt("10*", 4))
	wantFew(t, of(t, rt("00*", 4), rt("01*", 3), rt("10*", 2), rt("11*", 1)),
		rt("*", 1), rt("0*", 3), rt("00*", 4), rt("10*", 2))
	// What all goes to already is a wish, though not the least one.
	wantFew(t, of(t, rt("00*", 5), rt("01*", 1), rt("1*", 5)), rt("*", 5), rt("01*", 1))
}

// Halves with several wishes in common: the least of these counts, not the
// least of all.
func TestOfSeveralInCommon(t *testing.T) {
	wantFew(t, of(t, rt("00*", 4), rt("01*", 2), rt("10*", 2), rt("11*", 4)),
		rt("*", 2), rt("00*", 4), rt("11*", 4))
	// {0, 3, 5} and {1, 3, 5} have 3 and 5.
	wantFew(t, of(t, rt("000*", 0), rt("001*", 3), rt("01*", 5), rt("100*", 1), rt("101*", 3), rt("11*", 5)),
		rt("*", 3), rt("000*", 0), rt("01*", 5), rt("100*", 1), rt("11*", 5))
	// Both wish what all goes to already, and a lesser one: no route.
	wantFew(t, of(t, rt("*", 3), rt("1000*", 1), rt("1001*", 3), rt("1010*", 3), rt("1011*", 1)),
		rt("*", 3), rt("1000*", 1), rt("1011*", 1))
}

func TestOfNeedless(t *testing.T) {
	wantFew(t, of(t, rt("*", 4), rt("0*", 4), rt("01010101", 4)), rt("*", 4))
	wantFew(t, of(t, rt("*", 5), rt("0*", 1), rt("1*", 1)), rt("*", 1))
	wantFew(t, of(t, rt("1*", 0), rt("10*", 0), rt("110*", 0)), rt("1*", 0))
	x := table.New()
	for bits := range 32 {
		x.Set(api.Prefix{Len: 5, Bits: bits}, 3)
	}
	wantFew(t, x, rt("*", 3))
}

// A full table all of whose routes are needed; and no table needs more than it
// has, so that there is none of which Of tells false.
func TestOfFull(t *testing.T) {
	full := of(t, apart(api.MaxRoutes)...)
	wantFew(t, full, apart(api.MaxRoutes)...)
	wantCode(t, "full", Count(full), api.MaxRoutes)
	less := of(t, apart(api.MaxRoutes-1)...)
	wantFew(t, less, apart(api.MaxRoutes-1)...)
	wantCode(t, "full but for one", Count(less), api.MaxRoutes-1)
	r := rand.New(rand.NewSource(41))
	for range 30 {
		x := table.New()
		for len(x.List()) < api.MaxRoutes {
			size := 4 + r.Intn(5)
			x.Set(api.Prefix{Len: size, Bits: r.Intn(1 << size)}, r.Intn(7)-1)
		}
		wantAll(t, x)
	}
}

// top makes the trie in which each of these addresses goes to its hop, and all
// others to Drop.
func top(l []api.Route, p api.Prefix) *trie.Trie {
	inside := func(r api.Route) bool { return prefix.Covers(p, r.P) }
	switch at := slices.IndexFunc(l, inside); {
	case at < 0:
		return &trie.Trie{P: p, Hop: api.Drop}
	case l[at].P == p:
		return &trie.Trie{P: p, Hop: l[at].Hop}
	}
	low, _ := prefix.Child(p, 0)
	high, _ := prefix.Child(p, 1)
	return &trie.Trie{P: p, Low: top(l, low), High: top(l, high)}
}

// What needs more routes than a table may have can't be told by a table, but
// where it is told by a trie there is no table, and Count counts.
func TestMoreThanATableHas(t *testing.T) {
	for _, n := range []int{0, 1, api.MaxRoutes - 1, api.MaxRoutes} {
		y, ok := tableOf(top(apart(n), api.Prefix{}))
		if !ok || y == nil {
			t.Fatalf("%d: %v, %v", n, y, ok)
		}
		wantList(t, y, apart(n)...)
		wantCode(t, n, countOf(top(apart(n), api.Prefix{})), n)
	}
	for _, n := range []int{api.MaxRoutes + 1, api.MaxRoutes + 2, 86} {
		if y, ok := tableOf(top(apart(n), api.Prefix{})); ok || y != nil {
			t.Errorf("%d: %v, %v", n, y, ok)
		}
		wantCode(t, n, countOf(top(apart(n), api.Prefix{})), n)
	}
}

// Every table of the prefixes of two bits at most, with three hops: none by
// which all goes alike has fewer routes than Count tells.
func TestNoTableHasFewer(t *testing.T) {
	list := slices.DeleteFunc(allPrefixes(), func(p api.Prefix) bool { return p.Len > 2 })
	least, count := map[string]int{}, map[string]int{}
	for k := range 1 << (2 * len(list)) {
		x := table.New()
		for i, p := range list {
			if hop := k>>(2*i)&3 + api.None; hop != api.None {
				x.Set(p, hop)
			}
		}
		ends := fmt.Sprint(x.Look(0), x.Look(64), x.Look(128), x.Look(192))
		if n, there := least[ends]; !there || len(x.List()) < n {
			least[ends] = len(x.List())
		}
		if _, there := count[ends]; !there {
			count[ends] = Count(x)
			wantAll(t, x)
		}
	}
	if len(least) != 81 {
		t.Fatalf("%d ways to go", len(least))
	}
	for ends, n := range least {
		wantCode(t, ends, count[ends], n)
	}
}

// Tables by which all goes alike are made the same, however they tell it.
func TestOfHangsOnWhereAllGoes(t *testing.T) {
	want := []api.Route{rt("*", 1), rt("1*", 2), rt("110*", 1)}
	wantFew(t, of(t, want...), want...)
	wantFew(t, of(t, rt("0*", 1), rt("1*", 2), rt("110*", 1)), want...)
	wantFew(t, of(t, rt("*", 2), rt("0*", 1), rt("110*", 1)), want...)
	wantFew(t, of(t, rt("*", 5), rt("0*", 1), rt("1*", 2), rt("1100*", 1), rt("1101*", 1), rt("11111111", 2)), want...)
}

func TestRandomTables(t *testing.T) {
	r := rand.New(rand.NewSource(4))
	for range 150 {
		wantAll(t, random(r))
	}
}

func TestDiff(t *testing.T) {
	none := table.New()
	x := of(t, rt("*", 1), rt("1*", 2), rt("110*", 1))
	wantDiff(t, none, none)
	wantDiff(t, none, table.New())
	wantDiff(t, x, x)
	wantDiff(t, x, of(t, x.List()...))
	wantDiff(t, none, x, ch("*", api.None, 1), ch("1*", api.None, 2), ch("110*", api.None, 1))
	wantDiff(t, x, none, ch("*", 1, api.None), ch("1*", 2, api.None), ch("110*", 1, api.None))
	y := of(t, rt("0*", 5), rt("1*", 2))
	wantDiff(t, x, y, ch("*", 1, api.None), ch("0*", api.None, 5), ch("110*", 1, api.None))
	wantDiff(t, y, x, ch("*", api.None, 1), ch("0*", 5, api.None), ch("110*", api.None, 1))
	// What is at one prefix counts, not where addresses go.
	wantDiff(t, of(t, rt("*", 3)), of(t, rt("0*", 3), rt("1*", 3)),
		ch("*", 3, api.None), ch("0*", api.None, 3), ch("1*", api.None, 3))
	// A route to Drop is another thing than none.
	wantDiff(t, none, of(t, rt("*", api.Drop)), ch("*", api.None, api.Drop))
	wantDiff(t, of(t, rt("*", api.Drop)), none, ch("*", api.Drop, api.None))
	wantDiff(t, of(t, rt("*", api.Drop)), of(t, rt("*", 0)), ch("*", api.Drop, 0))
	wantDiff(t, of(t, rt("00000000", 0), rt("11111111", 5)), of(t, rt("00000000", 5), rt("11111111", 0)),
		ch("00000000", 0, 5), ch("11111111", 5, 0))
	// Those of one lowest address: the shorter prefix first, whosever it is.
	wantDiff(t, of(t, rt("0*", 1), rt("000*", 1)), of(t, rt("*", 1), rt("00*", 1), rt("00000000", 1)),
		ch("*", api.None, 1), ch("0*", 1, api.None), ch("00*", api.None, 1), ch("000*", 1, api.None), ch("00000000", api.None, 1))
}

// diffByWords asks both tables of every prefix, in order.
func diffByWords(a, b *table.Table) []api.Change {
	var l []api.Change
	for _, p := range allPrefixes() {
		if old, new := a.Get(p), b.Get(p); old != new {
			l = append(l, api.Change{P: p, Old: old, New: new})
		}
	}
	return l
}

// wantMakes asks whether what Diff tells makes b of a.
func wantMakes(t *testing.T, a, b *table.Table) {
	t.Helper()
	x := of(t, a.List()...)
	wantDiff(t, a, b, diffByWords(a, b)...)
	wantCode(t, "Do", Do(x, Diff(a, b)), 0)
	wantList(t, x, b.List()...)
	wantDiff(t, x, b)
}

func TestDiffMakesTheOther(t *testing.T) {
	r := rand.New(rand.NewSource(5))
	for range 60 {
		a, b := random(r), random(r)
		wantMakes(t, a, b)
		wantMakes(t, b, a)
		wantMakes(t, a, a)
		wantMakes(t, a, table.New())
		wantMakes(t, table.New(), a)
		wantMakes(t, a, few(t, a))
		wantMakes(t, few(t, a), a)
	}
}

// Two full tables that have nothing in common: there is no room but that which
// is made.
func TestDiffOfFullTables(t *testing.T) {
	a := of(t, apart(api.MaxRoutes)...)
	var l []api.Route
	for k := range api.MaxRoutes {
		l = append(l, api.Route{P: api.Prefix{Len: 7, Bits: k}, Hop: 2})
	}
	b := of(t, l...)
	wantMakes(t, a, b)
	wantMakes(t, b, a)
	wantCode(t, "changes", len(Diff(a, b)), 2*api.MaxRoutes)
}

func TestDoNothing(t *testing.T) {
	x := of(t, rt("*", 1), rt("01*", 2))
	wantCode(t, "nil", Do(x, nil), 0)
	wantCode(t, "empty", Do(x, []api.Change{}), 0)
	wantCode(t, "no routes", Do(table.New(), nil), 0)
	wantList(t, x, rt("*", 1), rt("01*", 2))
	wantCode(t, "as it is", Do(x, []api.Change{ch("01*", 2, 2)}), 0)
	wantList(t, x, rt("*", 1), rt("01*", 2))
}

func TestDoOne(t *testing.T) {
	x := of(t, rt("*", 1))
	steps := []struct {
		c    api.Change
		list []api.Route
	}{
		{ch("01*", api.None, 2), []api.Route{rt("*", 1), rt("01*", 2)}},
		{ch("*", 1, 3), []api.Route{rt("*", 3), rt("01*", 2)}},
		{ch("*", 3, api.None), []api.Route{rt("01*", 2)}},
		{ch("01*", 2, api.Drop), []api.Route{rt("01*", api.Drop)}},
		{ch("11111111", api.None, api.Drop), []api.Route{rt("01*", api.Drop), rt("11111111", api.Drop)}},
		{ch("01*", api.Drop, 0), []api.Route{rt("01*", 0), rt("11111111", api.Drop)}},
		{ch("11111111", api.Drop, api.None), []api.Route{rt("01*", 0)}},
		{ch("00000000", api.None, 5), []api.Route{rt("00000000", 5), rt("01*", 0)}},
	}
	for _, s := range steps {
		wantCode(t, s.c, Do(x, []api.Change{s.c}), 0)
		wantList(t, x, s.list...)
	}
}

// What can't be done, one by one: its code, and nothing is changed.
func TestDoFaults(t *testing.T) {
	routes := []api.Route{rt("*", 1), rt("01*", api.Drop)}
	refuse := func(c api.Change, want int) {
		t.Helper()
		x := of(t, routes...)
		wantCode(t, c, Do(x, []api.Change{c}), want)
		wantList(t, x, routes...)
	}
	for _, new := range append(noHops(), api.None, api.Drop, 0, 1, 5) {
		// Old is asked first, whatever New is.
		refuse(ch("*", 2, new), api.ErrOther)
		refuse(ch("*", api.None, new), api.ErrOther)
		refuse(ch("*", api.Drop, new), api.ErrOther)
		refuse(ch("01*", 1, new), api.ErrOther)
		refuse(ch("01*", api.None, new), api.ErrOther)
		refuse(ch("1*", 1, new), api.ErrOther)
		refuse(ch("1*", api.Drop, new), api.ErrOther)
		for _, old := range noHops() {
			refuse(ch("*", old, new), api.ErrOther)
			refuse(ch("1*", old, new), api.ErrOther)
		}
		for _, p := range noPrefixes() {
			refuse(api.Change{P: p, Old: api.None, New: new}, api.ErrRange)
			refuse(api.Change{P: p, Old: 1, New: new}, api.ErrOther)
			refuse(api.Change{P: p, Old: api.Drop, New: new}, api.ErrOther)
		}
	}
	for _, new := range noHops() {
		refuse(ch("*", 1, new), api.ErrRange)
		refuse(ch("01*", api.Drop, new), api.ErrRange)
		refuse(ch("1*", api.None, new), api.ErrRange)
	}
	refuse(ch("1*", api.None, api.None), api.ErrNone)
	refuse(ch("01010101", api.None, api.None), api.ErrNone)
	wantCode(t, "no routes", Do(table.New(), []api.Change{ch("*", api.None, api.None)}), api.ErrNone)
}

// A full table: one more can't be laid, but others can be changed, and room can
// be made, wherever in the list.
func TestDoFull(t *testing.T) {
	routes := apart(api.MaxRoutes)
	more := ch("1*", api.None, 3)
	x := of(t, routes...)
	wantCode(t, "one more", Do(x, []api.Change{more}), api.ErrFull)
	wantList(t, x, routes...)
	wantCode(t, "one more of no hop", Do(x, []api.Change{ch("1*", api.None, 6)}), api.ErrRange)
	wantCode(t, "one that is not so", Do(x, []api.Change{ch("1*", 0, 3)}), api.ErrOther)
	wantList(t, x, routes...)
	gone := api.Change{P: routes[39].P, Old: routes[39].Hop, New: api.None}
	want := append(slices.Clone(routes[:39]), rt("1*", 3))
	for _, l := range [][]api.Change{{more, gone}, {gone, more}} {
		x := of(t, routes...)
		wantCode(t, l, Do(x, l), 0)
		wantList(t, x, want...)
	}
	// One place is made, two are wanted: the first gets it.
	x = of(t, routes...)
	wantCode(t, "two more", Do(x, []api.Change{more, ch("11*", api.None, 3), gone}), api.ErrFull)
	wantList(t, x, want...)
	last := of(t, routes[:39]...)
	wantCode(t, "the last place", Do(last, []api.Change{more}), 0)
	wantList(t, last, want...)
}

// It stops at the first that can't be done: what was done ahead of it stays,
// nothing behind it is done.
func TestDoStops(t *testing.T) {
	routes := []api.Route{rt("*", 1), rt("0*", 2), rt("1*", 3)}
	cases := []struct {
		l    []api.Change
		code int
		list []api.Route
	}{
		// In the list's order among those of one kind.
		{[]api.Change{ch("*", 1, 4), ch("0*", 5, 0), ch("1*", 3, 4)}, api.ErrOther, []api.Route{rt("*", 4), rt("0*", 2), rt("1*", 3)}},
		{[]api.Change{ch("1*", 3, 4), ch("0*", 2, 9), ch("*", 1, 4)}, api.ErrRange, []api.Route{rt("*", 1), rt("0*", 2), rt("1*", 4)}},
		{[]api.Change{ch("1*", 3, api.None), ch("00*", api.None, api.None), ch("*", 1, api.None)}, api.ErrNone, []api.Route{rt("*", 1), rt("0*", 2)}},
		{[]api.Change{ch("0*", 5, 0), ch("*", 1, 9)}, api.ErrOther, routes},
		{[]api.Change{ch("*", 1, 9), ch("0*", 5, 0)}, api.ErrRange, routes},
		// Those that take away come first, so that theirs is the first fault.
		{[]api.Change{ch("*", 1, 9), ch("0*", 5, api.None)}, api.ErrOther, routes},
		{[]api.Change{ch("*", 5, 1), ch("00*", api.None, api.None)}, api.ErrNone, routes},
		{[]api.Change{ch("*", 1, 4), ch("0*", 2, api.None), ch("1*", 4, api.None)}, api.ErrOther, []api.Route{rt("*", 1), rt("1*", 3)}},
		// And they are done, though one ahead of them in the list can't be.
		{[]api.Change{ch("*", 1, 9), ch("0*", 2, api.None), ch("1*", 3, 4)}, api.ErrRange, []api.Route{rt("*", 1), rt("1*", 3)}},
		{[]api.Change{ch("1*", 3, 4), ch("*", 2, 4), ch("0*", 2, api.None)}, api.ErrOther, []api.Route{rt("*", 1), rt("1*", 4)}},
	}
	for _, c := range cases {
		x := of(t, routes...)
		wantCode(t, c.l, Do(x, c.l), c.code)
		wantList(t, x, c.list...)
	}
}

// Changes of one prefix more than once: each finds what those ahead of it left.
func TestDoOnePrefixOften(t *testing.T) {
	cases := []struct {
		from []api.Route
		l    []api.Change
		code int
		list []api.Route
	}{
		{nil, []api.Change{ch("0*", api.None, 1), ch("0*", 1, 2), ch("0*", 2, 3)}, 0, []api.Route{rt("0*", 3)}},
		{nil, []api.Change{ch("0*", api.None, 1), ch("0*", api.None, 2)}, api.ErrOther, []api.Route{rt("0*", 1)}},
		{nil, []api.Change{ch("0*", 1, 2), ch("0*", api.None, 1)}, api.ErrOther, nil},
		{nil, []api.Change{ch("0*", api.None, 1), ch("0*", 1, api.None)}, api.ErrOther, nil},
		{[]api.Route{rt("0*", 1)}, []api.Change{ch("0*", 1, api.None), ch("0*", api.None, 2)}, 0, []api.Route{rt("0*", 2)}},
		{[]api.Route{rt("0*", 1)}, []api.Change{ch("0*", api.None, 2), ch("0*", 1, api.None)}, 0, []api.Route{rt("0*", 2)}},
		{[]api.Route{rt("0*", 1)}, []api.Change{ch("0*", 1, 2), ch("0*", 2, api.None)}, api.ErrOther, []api.Route{rt("0*", 1)}},
		{[]api.Route{rt("0*", 1)}, []api.Change{ch("0*", 1, 2), ch("0*", 1, api.None)}, api.ErrOther, nil},
		{[]api.Route{rt("0*", 1)}, []api.Change{ch("0*", 1, api.None), ch("0*", 1, api.None)}, api.ErrOther, nil},
		{[]api.Route{rt("0*", 1)}, []api.Change{ch("0*", 1, api.None), ch("0*", api.None, api.None)}, api.ErrNone, nil},
	}
	for _, c := range cases {
		x := of(t, c.from...)
		wantCode(t, c.l, Do(x, c.l), c.code)
		wantList(t, x, c.list...)
	}
}

// doByWords does changes to routes that stand by their prefixes.
func doByWords(routes map[api.Prefix]int, l []api.Change) int {
	var order []api.Change
	for _, c := range l {
		if c.New == api.None {
			order = append(order, c)
		}
	}
	for _, c := range l {
		if c.New != api.None {
			order = append(order, c)
		}
	}
	for _, c := range order {
		hop, there := routes[c.P]
		switch {
		case there && hop != c.Old, !there && c.Old != api.None:
			return api.ErrOther
		case prefix.Text(c.P) == "", c.New < api.None, c.New >= api.MaxNodes:
			return api.ErrRange
		case c.New == api.None && !there:
			return api.ErrNone
		case c.New == api.None:
			delete(routes, c.P)
		case !there && len(routes) == api.MaxRoutes:
			return api.ErrFull
		default:
			routes[c.P] = c.New
		}
	}
	return 0
}

// randomChange is one that can mostly be done to x as it is.
func randomChange(r *rand.Rand, x *table.Table) api.Change {
	size := r.Intn(api.Width + 1)
	c := api.Change{P: api.Prefix{Len: size, Bits: r.Intn(1 << size)}}
	if l := x.List(); len(l) > 0 && r.Intn(2) == 0 {
		c.P = l[r.Intn(len(l))].P
	}
	c.Old, c.New = x.Get(c.P), r.Intn(8)-2
	switch r.Intn(40) {
	case 0:
		c.Old = r.Intn(9) - 3
	case 1:
		c.New = noHops()[r.Intn(8)]
	case 2:
		c.P = noPrefixes()[r.Intn(13)]
	}
	return c
}

func TestRandomChanges(t *testing.T) {
	r := rand.New(rand.NewSource(6))
	codes, every := map[int]int{}, allPrefixes()
	for range 3000 {
		x, routes := random(r), map[api.Prefix]int{}
		for _, route := range x.List() {
			routes[route.P] = route.Hop
		}
		var l []api.Change
		for range r.Intn(12) {
			l = append(l, randomChange(r, x))
		}
		code := doByWords(routes, l)
		codes[code]++
		wantCode(t, l, Do(x, l), code)
		var want []api.Route
		for _, p := range every {
			if hop, there := routes[p]; there {
				want = append(want, api.Route{P: p, Hop: hop})
			}
		}
		wantList(t, x, want...)
	}
	for _, code := range []int{0, api.ErrOther, api.ErrRange, api.ErrNone, api.ErrFull} {
		if codes[code] < 10 {
			t.Errorf("the code %d %d times", code, codes[code])
		}
	}
}

// Tables that were handed in are not changed, and not kept; those that were
// answered stay as they were.
func TestTablesStayApart(t *testing.T) {
	routes := []api.Route{rt("00*", 1), rt("01*", 1), rt("10*", 2), rt("110*", 1), rt("111*", 2)}
	fewer := []api.Route{rt("*", 1), rt("1*", 2), rt("110*", 1)}
	x := of(t, routes...)
	y, z := few(t, x), few(t, x)
	Count(x)
	Diff(x, y)
	Diff(y, x)
	wantList(t, x, routes...)
	wantList(t, y, fewer...)
	// A table that needs no change is another one, too.
	same := few(t, y)
	same.Set(px("*"), 5)
	same.Set(px("0*"), 4)
	wantList(t, y, fewer...)
	y.Set(px("*"), api.None)
	y.Set(px("1*"), 0)
	wantList(t, x, routes...)
	wantList(t, z, fewer...)
	wantList(t, few(t, x), fewer...)
	x.Set(px("00*"), api.None)
	x.Set(px("111*"), 5)
	x.Set(px("0*"), 0)
	wantList(t, z, fewer...)
	wantCode(t, "Do", Do(x, Diff(x, table.New())), 0)
	wantList(t, z, fewer...)
}

// A list that Diff answered is new memory, and knows no more of its tables.
func TestDiffStaysApart(t *testing.T) {
	a, b := of(t, rt("*", 1), rt("0*", 2)), of(t, rt("0*", 3), rt("1*", 4))
	want := []api.Change{ch("*", 1, api.None), ch("0*", 2, 3), ch("1*", api.None, 4)}
	first, second := Diff(a, b), Diff(a, b)
	for i := range first {
		first[i] = ch("01010101", 5, 5)
	}
	first = append(first[:1], ch("*", 0, 0))
	wantDiff(t, a, b, want...)
	wantCode(t, "first", len(first), 2)
	wantList(t, a, rt("*", 1), rt("0*", 2))
	wantList(t, b, rt("0*", 3), rt("1*", 4))
	a.Set(px("*"), 5)
	b.Set(px("1*"), api.None)
	wantCode(t, "Do", Do(a, []api.Change{ch("*", 5, api.None)}), 0)
	if !slices.Equal(second, want) {
		t.Errorf("changed behind its making: %v, want %v", second, want)
	}
}

// Do neither changes nor keeps a list, nor what lies behind its length.
func TestDoLeavesTheList(t *testing.T) {
	whole := []api.Change{ch("*", api.None, 1), ch("0*", 2, api.None), ch("1*", api.None, 3), ch("01*", api.None, 4), ch("00*", api.None, 5)}
	ahead := slices.Clone(whole)
	x := of(t, rt("0*", 2))
	wantCode(t, "Do", Do(x, whole[:3]), 0)
	want := []api.Route{rt("*", 1), rt("1*", 3)}
	wantList(t, x, want...)
	wantCode(t, "again", Do(x, whole), api.ErrOther)
	if !slices.Equal(whole, ahead) {
		t.Errorf("the list: %v, was %v", whole, ahead)
	}
	for i := range whole {
		whole[i] = ch("11111111", 0, 0)
	}
	wantList(t, x, want...)
}

// Of a nil nothing is promised, but no call panics: it is taken as a table
// without routes, to which nothing can be done.
func TestNoTable(t *testing.T) {
	wantList(t, few(t, nil))
	wantCode(t, "Count", Count(nil), 0)
	x := of(t, rt("*", 1))
	wantDiff(t, nil, nil)
	wantDiff(t, nil, x, ch("*", api.None, 1))
	wantDiff(t, x, nil, ch("*", 1, api.None))
	wantCode(t, "nothing", Do(nil, nil), 0)
	wantCode(t, "not so", Do(nil, []api.Change{ch("*", 1, 2)}), api.ErrOther)
	wantCode(t, "no hop", Do(nil, []api.Change{ch("*", api.None, 6)}), api.ErrRange)
	wantCode(t, "no table", Do(nil, []api.Change{ch("*", api.None, 1)}), api.ErrNone)
}

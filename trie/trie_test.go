package trie

import (
	"fmt"
	"math"
	"math/rand"
	"slices"
	"strings"
	"testing"

	"handpost/api"
	"handpost/prefix"
	"handpost/table"
)

// px is the prefix of a text; the tests know no wrong one.
func px(s string) api.Prefix {
	p, ok := prefix.Parse(s)
	if !ok {
		panic(s)
	}
	return p
}

// rt is a route, its prefix told as text.
func rt(s string, hop int) api.Route {
	return api.Route{P: px(s), Hop: hop}
}

// of makes a table of routes, in whatever order they are told.
func of(t *testing.T, l ...api.Route) *table.Table {
	t.Helper()
	x := table.New()
	for _, r := range l {
		if code := x.Set(r.P, r.Hop); code != 0 {
			t.Fatalf("Set(%v, %d): %d", r.P, r.Hop, code)
		}
	}
	return x
}

// at walks down from a trie: 0 is Low, 1 is High.
func at(t *testing.T, y *Trie, path string) *Trie {
	t.Helper()
	for _, bit := range path {
		if y == nil {
			t.Fatalf("nothing on the path %s", path)
		}
		if bit == '0' {
			y = y.Low
		} else {
			y = y.High
		}
	}
	if y == nil {
		t.Fatalf("nothing at %s", path)
	}
	return y
}

// wantLeaves holds a trie's leaves, and its size, against routes.
func wantLeaves(t *testing.T, y *Trie, want ...api.Route) {
	t.Helper()
	if got := y.Leaves(); !slices.Equal(got, want) {
		t.Errorf("Leaves: %v, want %v", got, want)
	}
	if got := y.Size(); got != len(want) {
		t.Errorf("Size: %d, want %d", got, len(want))
	}
}

// wantHop holds a hop against that which the chapter asks for.
func wantHop(t *testing.T, what any, got, want int) {
	t.Helper()
	if got != want {
		t.Errorf("%v: %d, want %d", what, got, want)
	}
}

// byWords tells where an address, told in bits, goes by a list of routes.
func byWords(l []api.Route, address string) int {
	hop, most := api.Drop, -1
	for _, r := range l {
		bits := strings.TrimSuffix(prefix.Text(r.P), "*")
		if strings.HasPrefix(address, bits) && len(bits) > most {
			hop, most = r.Hop, len(bits)
		}
	}
	return hop
}

// bitsOf are an address's bits.
func bitsOf(a int) string {
	return fmt.Sprintf("%08b", a)
}

// text tells the trie of the addresses that begin with some bits by the
// chapter's words: a leaf by its bits and its hop, a part that is none by its
// bits, and in brackets its halves.
func text(l []api.Route, bits string) string {
	hops := map[int]int{}
	for a := range 256 {
		if s := bitsOf(a); strings.HasPrefix(s, bits) {
			hops[byWords(l, s)]++
		}
	}
	for hop := range hops {
		if len(hops) == 1 {
			return fmt.Sprintf("%s=%d", bits, hop)
		}
	}
	return fmt.Sprintf("%s=0(%s %s)", bits, text(l, bits+"0"), text(l, bits+"1"))
}

// told tells a trie in the form of text, by its fields alone.
func told(y *Trie) string {
	head := fmt.Sprintf("%s=%d", strings.TrimSuffix(prefix.Text(y.P), "*"), y.Hop)
	if y.Low == nil && y.High == nil {
		return head
	}
	if y.Low == nil || y.High == nil {
		return head + "(half)"
	}
	return fmt.Sprintf("%s(%s %s)", head, told(y.Low), told(y.High))
}

// parts are all parts of a trie, it itself first.
func parts(y *Trie) []*Trie {
	if y == nil {
		return nil
	}
	return slices.Concat([]*Trie{y}, parts(y.Low), parts(y.High))
}

// wantAll holds all that can be asked of the trie of a table, and of each part
// of it, against the chapter's words.
func wantAll(t *testing.T, x *table.Table) {
	t.Helper()
	l := x.List()
	y := Of(x)
	if y == nil {
		t.Fatalf("Of(%v): nil", l)
	}
	if got, want := told(y), text(l, ""); got != want {
		t.Fatalf("Of(%v): %s, want %s", l, got, want)
	}
	for _, part := range parts(y) {
		wantPart(t, l, part)
	}
}

func wantPart(t *testing.T, l []api.Route, part *Trie) {
	t.Helper()
	bits := strings.TrimSuffix(prefix.Text(part.P), "*")
	var leaves []api.Route
	for _, inner := range parts(part) {
		if inner.Low == nil && inner.High == nil {
			leaves = append(leaves, api.Route{P: inner.P, Hop: inner.Hop})
		}
	}
	wantLeaves(t, part, leaves...)
	if want := len(leaves) == 1; part.Leaf() != want {
		t.Errorf("Leaf of %s: %v", bits, !want)
	}
	for a := range 256 {
		want := api.Drop
		if s := bitsOf(a); strings.HasPrefix(s, bits) {
			want = byWords(l, s)
		}
		if got := part.Look(a); got != want {
			t.Errorf("Look(%d) of %s: %d, want %d", a, bits, got, want)
		}
	}
	for _, a := range noAddresses() {
		wantHop(t, a, part.Look(a), api.Drop)
	}
}

func noAddresses() []int {
	return []int{-1, -2, -256, 256, 257, 300, 511, 1 << 16, 1 << 32, 1<<32 + 5, math.MinInt, math.MinInt + 1, math.MaxInt}
}

func TestOfWithoutRoutes(t *testing.T) {
	y := Of(table.New())
	if *y != (Trie{Hop: api.Drop}) {
		t.Errorf("Of: %v", *y)
	}
	if !y.Leaf() {
		t.Error("no leaf")
	}
	wantLeaves(t, y, rt("*", api.Drop))
	wantAll(t, table.New())
}

// A route of no bits makes one leaf, whatever its hop.
func TestOfOneOfNoBits(t *testing.T) {
	for hop := api.Drop; hop < api.MaxNodes; hop++ {
		x := of(t, rt("*", hop))
		if y := Of(x); *y != (Trie{Hop: hop}) {
			t.Errorf("Of: %v, want the hop %d", *y, hop)
		}
		wantLeaves(t, Of(x), rt("*", hop))
		wantAll(t, x)
	}
}

// A route of one address makes a leaf of it, and one beside each bit.
func TestOfOneAddress(t *testing.T) {
	first := Of(of(t, rt("00000000", 3)))
	wantLeaves(t, first, rt("00000000", 3), rt("00000001", -1), rt("0000001*", -1), rt("000001*", -1), rt("00001*", -1), rt("0001*", -1), rt("001*", -1), rt("01*", -1), rt("1*", -1))
	last := Of(of(t, rt("*", 2), rt("11111111", 0)))
	wantLeaves(t, last, rt("0*", 2), rt("10*", 2), rt("110*", 2), rt("1110*", 2), rt("11110*", 2), rt("111110*", 2), rt("1111110*", 2), rt("11111110", 2), rt("11111111", 0))
	if leaf := at(t, first, "00000000"); *leaf != (Trie{P: px("00000000"), Hop: 3}) {
		t.Errorf("the leaf of the first address: %v", *leaf)
	}
	if leaf := at(t, last, "11111111"); *leaf != (Trie{P: px("11111111")}) {
		t.Errorf("the leaf of the last address: %v", *leaf)
	}
	wantHop(t, "first", first.Look(0), 3)
	wantHop(t, "second", first.Look(1), api.Drop)
	wantHop(t, "last but one", last.Look(254), 2)
	wantHop(t, "last", last.Look(255), 0)
	for a := range 256 {
		wantAll(t, of(t, rt(bitsOf(a), a%api.MaxNodes)))
	}
}

func TestOfParts(t *testing.T) {
	x := of(t, rt("*", 1), rt("1*", 2), rt("110*", 1))
	y := Of(x)
	wantLeaves(t, y, rt("0*", 1), rt("10*", 2), rt("110*", 1), rt("111*", 2))
	for path, want := range map[string]Trie{
		"0": {P: px("0*"), Hop: 1}, "10": {P: px("10*"), Hop: 2}, "110": {P: px("110*"), Hop: 1}, "111": {P: px("111*"), Hop: 2},
	} {
		if leaf := at(t, y, path); *leaf != want || !leaf.Leaf() {
			t.Errorf("%s: %v, want %v", path, *leaf, want)
		}
	}
	for _, path := range []string{"", "1", "11"} {
		part := at(t, y, path)
		if part.Leaf() || part.Low == nil || part.High == nil {
			t.Errorf("%q is a leaf", path)
		}
		wantHop(t, path, part.Hop, 0)
	}
	wantLeaves(t, at(t, y, "1"), rt("10*", 2), rt("110*", 1), rt("111*", 2))
	wantLeaves(t, at(t, y, "11"), rt("110*", 1), rt("111*", 2))
	wantLeaves(t, at(t, y, "111"), rt("111*", 2))
	wantAll(t, x)
}

// A route that says what is so without it makes no part.
func TestOfNeedless(t *testing.T) {
	wantLeaves(t, Of(of(t, rt("*", 4), rt("0*", 4), rt("01010101", 4))), rt("*", 4))
	wantLeaves(t, Of(of(t, rt("01*", api.Drop), rt("11111111", api.Drop))), rt("*", api.Drop))
	wantLeaves(t, Of(of(t, rt("0*", 3), rt("1*", 3))), rt("*", 3))
	wantLeaves(t, Of(of(t, rt("*", 5), rt("0*", 1), rt("1*", 1))), rt("*", 1))
	wantLeaves(t, Of(of(t, rt("1*", 0), rt("10*", 0), rt("110*", 0))), rt("0*", api.Drop), rt("1*", 0))
}

// Leaves that go to Drop stand there like others, and Drop is another hop than 0.
func TestOfDrop(t *testing.T) {
	x := of(t, rt("*", 0), rt("01*", api.Drop))
	y := Of(x)
	wantLeaves(t, y, rt("00*", 0), rt("01*", api.Drop), rt("1*", 0))
	if leaf := at(t, y, "01"); *leaf != (Trie{P: px("01*"), Hop: api.Drop}) {
		t.Errorf("the leaf of 01*: %v", *leaf)
	}
	wantAll(t, x)
}

// Every two neighbours go otherwise: of long prefixes, as far as routes reach,
// and of shorter ones to the end.
func TestOfNeighbours(t *testing.T) {
	short, want := table.New(), []api.Route(nil)
	for bits := range 32 {
		r := api.Route{P: api.Prefix{Len: 5, Bits: bits}, Hop: bits % 2}
		short.Set(r.P, r.Hop)
		want = append(want, r)
	}
	wantLeaves(t, Of(short), want...)
	wantAll(t, short)
	long := table.New()
	for k := range api.MaxRoutes {
		if code := long.Set(api.Prefix{Len: api.Width, Bits: 2 * k}, k%api.MaxNodes); code != 0 {
			t.Fatalf("Set: %d", code)
		}
	}
	if got := Of(long).Size(); got != 2*api.MaxRoutes+3 { // 80 addresses; 0101*, 011*, 1*
		t.Errorf("Size: %d", got)
	}
	wantAll(t, long)
}

// Looking at the ends of a part, and just outside it.
func TestLook(t *testing.T) {
	y := Of(of(t, rt("*", 1), rt("01*", 2), rt("0111*", 3), rt("00000000", 4), rt("11111111", 5)))
	for a, want := range map[int]int{0: 4, 1: 1, 63: 1, 64: 2, 111: 2, 112: 3, 127: 3, 128: 1, 254: 1, 255: 5} {
		wantHop(t, a, y.Look(a), want)
	}
	part := at(t, y, "01")
	for a, want := range map[int]int{0: -1, 63: -1, 64: 2, 111: 2, 112: 3, 127: 3, 128: -1, 255: -1} {
		wantHop(t, a, part.Look(a), want)
	}
	leaf := at(t, y, "0111")
	for a, want := range map[int]int{0: -1, 111: -1, 112: 3, 127: 3, 128: -1, 255: -1} {
		wantHop(t, a, leaf.Look(a), want)
	}
	for _, a := range noAddresses() {
		wantHop(t, a, y.Look(a), api.Drop)
		wantHop(t, a, part.Look(a), api.Drop)
		wantHop(t, a, leaf.Look(a), api.Drop)
		wantHop(t, a, Of(of(t, rt("*", 0))).Look(a), api.Drop)
	}
}

func TestSame(t *testing.T) {
	cases := []struct {
		a, b []api.Route
		want bool
	}{
		{nil, nil, true},
		{nil, []api.Route{rt("*", api.Drop)}, true},
		{nil, []api.Route{rt("*", 0)}, false},
		{[]api.Route{rt("*", 1)}, []api.Route{rt("0*", 1), rt("1*", 1)}, true},
		{[]api.Route{rt("*", 1)}, []api.Route{rt("*", 1), rt("11*", 1)}, true},
		{[]api.Route{rt("*", 1), rt("0*", 2)}, []api.Route{rt("*", 2), rt("1*", 1)}, true},
		{[]api.Route{rt("*", 1), rt("0*", 2)}, []api.Route{rt("*", 1), rt("1*", 2)}, false},
		{[]api.Route{rt("*", 1)}, []api.Route{rt("*", 2)}, false},
		{[]api.Route{rt("*", 1)}, []api.Route{rt("*", 1), rt("00000000", 0)}, false},
		{[]api.Route{rt("*", 1)}, []api.Route{rt("*", 1), rt("11111111", 0)}, false},
		{[]api.Route{rt("00*", 1), rt("01*", 1), rt("10*", 2), rt("110*", 1), rt("111*", 2)}, []api.Route{rt("*", 1), rt("1*", 2), rt("110*", 1)}, true},
	}
	for _, c := range cases {
		a, b := of(t, c.a...), of(t, c.b...)
		if Same(a, b) != c.want || Same(b, a) != c.want {
			t.Errorf("Same of %v, %v: want %v", c.a, c.b, c.want)
		}
		if !Same(a, a) || !Same(b, b) || !Same(a, of(t, c.a...)) {
			t.Errorf("%v and %v are not the same as they themselves", c.a, c.b)
		}
	}
	// Two that part at one address alone, whichever it is.
	for a := range 256 {
		x, y := of(t, rt("*", 1), rt("0*", 2)), of(t, rt("*", 1), rt("0*", 2), rt(bitsOf(a), 3))
		if Same(x, y) || Same(y, x) {
			t.Errorf("they part at %d, and are the same", a)
		}
	}
}

// random makes a table of some routes of some lengths; few hops make parts that
// go alike in spite of their routes.
func random(r *rand.Rand) *table.Table {
	x := table.New()
	longest, hops := r.Intn(api.Width+1), 1+r.Intn(api.MaxNodes+1)
	for range r.Intn(60) {
		size := r.Intn(longest + 1)
		x.Set(api.Prefix{Len: size, Bits: r.Intn(1 << size)}, r.Intn(hops)-1)
	}
	return x
}

func TestRandomTables(t *testing.T) {
	r := rand.New(rand.NewSource(3))
	for range 60 {
		x := random(r)
		wantAll(t, x)
		y := random(r)
		want := true
		for a := range 256 {
			want = want && byWords(x.List(), bitsOf(a)) == byWords(y.List(), bitsOf(a))
		}
		if Same(x, y) != want {
			t.Errorf("Same of %v, %v: %v", x.List(), y.List(), !want)
		}
	}
}

// A table that was handed in is not changed, and not kept.
func TestTableIsNotKept(t *testing.T) {
	routes := []api.Route{rt("*", 1), rt("00*", 1), rt("1*", 2), rt("110*", api.Drop)}
	x, other := of(t, routes...), of(t, rt("0*", 3))
	y := Of(x)
	ahead := told(y)
	Same(x, other)
	Same(other, x)
	if !slices.Equal(x.List(), routes) || !slices.Equal(other.List(), []api.Route{rt("0*", 3)}) {
		t.Errorf("tables that were handed in: %v, %v", x.List(), other.List())
	}
	for _, part := range parts(y) {
		part.Hop, part.P = 5, px("01*")
	}
	if !slices.Equal(x.List(), routes) || told(Of(x)) != ahead {
		t.Errorf("changed by a change of its trie: %v", x.List())
	}
	z := Of(x)
	x.Set(px("*"), 4)
	x.Set(px("110*"), api.None)
	x.Set(px("11111111"), 0)
	if told(z) != ahead {
		t.Errorf("changed behind its making: %s, was %s", told(z), ahead)
	}
	wantLeaves(t, z, rt("0*", 1), rt("10*", 2), rt("110*", api.Drop), rt("111*", 2))
	wantHop(t, 255, z.Look(255), 2)
	wantHop(t, 255, Of(x).Look(255), 0)
}

// What was answered is new memory, and asking changes nothing.
func TestAnswersAreNew(t *testing.T) {
	x := of(t, rt("*", 1), rt("1*", 2), rt("110*", 1))
	y, z := Of(x), Of(x)
	mine := map[*Trie]int{}
	for _, part := range append(parts(y), parts(z)...) {
		mine[part]++
	}
	if len(mine) != 14 { // two tries of four leaves, and three other parts
		t.Errorf("%d parts of their own", len(mine))
	}
	first, second := y.Leaves(), y.Leaves()
	want := slices.Clone(first)
	for i := range first {
		first[i] = rt("01010101", 5)
	}
	first = append(first[:1], rt("*", 3))
	if !slices.Equal(second, want) || !slices.Equal(y.Leaves(), want) || len(first) != 2 {
		t.Errorf("changed by a change of another list: %v, %v", second, y.Leaves())
	}
	ahead := told(z)
	y.Leaves()
	y.High.Leaves()
	y.Size()
	y.Look(200)
	y.Leaf()
	if told(y) != ahead {
		t.Errorf("changed by what was asked: %s, was %s", told(y), ahead)
	}
	y.Hop, y.Low.Hop, y.High.High = 5, 5, nil
	if told(z) != ahead {
		t.Errorf("changed by a change of another trie: %s, was %s", told(z), ahead)
	}
}

// A nil is none, and of a trie that Of did not make nothing is promised, but no
// call panics.
func TestNoTrie(t *testing.T) {
	var none *Trie
	wantLeaves(t, none)
	wantHop(t, "nil", none.Look(0), api.Drop)
	if none.Leaf() {
		t.Error("a nil is a leaf")
	}
	leaf := &Trie{P: px("0*"), Hop: 1}
	for _, half := range []*Trie{{Low: leaf}, {High: leaf}} {
		wantLeaves(t, half, rt("0*", 1))
		wantHop(t, "within", half.Look(0), 1)
		wantHop(t, "outside", half.Look(255), api.Drop)
	}
	wantHop(t, "no prefix", (&Trie{P: api.Prefix{Len: -1}}).Look(0), api.Drop)
	wantLeaves(t, Of(nil), rt("*", api.Drop))
	if !Same(nil, table.New()) || Same(of(t, rt("*", 0)), nil) {
		t.Error("a nil table goes otherwise than one without routes")
	}
}

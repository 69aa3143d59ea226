package table

import (
	"fmt"
	"math"
	"math/rand"
	"reflect"
	"slices"
	"strings"
	"testing"

	"handpost/api"
	"handpost/prefix"
)

// px is the prefix of a text; the tests know no wrong one.
func px(s string) api.Prefix {
	p, ok := prefix.Parse(s)
	if !ok {
		panic(s)
	}
	return p
}

// rt is a route, its prefix told as text.
func rt(s string, hop int) api.Route {
	return api.Route{P: px(s), Hop: hop}
}

// of makes a table of routes that are to have no fault.
func of(t *testing.T, l ...api.Route) *Table {
	t.Helper()
	x, code := Of(l)
	if code != 0 || x == nil {
		t.Fatalf("Of(%v): %v, %d", l, x, code)
	}
	return x
}

// wantList holds a table's list against routes.
func wantList(t *testing.T, x *Table, want ...api.Route) {
	t.Helper()
	if got := x.List(); !slices.Equal(got, want) {
		t.Errorf("List: %v, want %v", got, want)
	}
}

// wantCode holds a code against the one that the chapter asks for.
func wantCode(t *testing.T, what any, got, want int) {
	t.Helper()
	if got != want {
		t.Errorf("%v: %d, want %d", what, got, want)
	}
}

// allPrefixes makes every prefix, those of fewer bits first.
func allPrefixes() []api.Prefix {
	var list []api.Prefix
	for size := 0; size <= api.Width; size++ {
		for bits := 0; bits < 1<<size; bits++ {
			list = append(list, api.Prefix{Len: size, Bits: bits})
		}
	}
	return list
}

// inOrder sorts prefixes by their lowest address, then by their bits: by texts,
// where the package reckons.
func inOrder(l []api.Prefix) {
	key := func(p api.Prefix) string {
		return fmt.Sprintf("%s %d", (bits(p) + "00000000")[:api.Width], p.Len)
	}
	slices.SortFunc(l, func(p, q api.Prefix) int { return strings.Compare(key(p), key(q)) })
}

// bits are a prefix's bits as text, without a *.
func bits(p api.Prefix) string {
	if p.Len == 0 {
		return ""
	}
	return fmt.Sprintf("%0*b", p.Len, p.Bits)
}

// many makes n routes of Width bits each, in order.
func many(n int) []api.Route {
	var l []api.Route
	for k := range n {
		l = append(l, api.Route{P: api.Prefix{Len: api.Width, Bits: 3 * k}, Hop: k % api.MaxNodes})
	}
	return l
}

func noPrefixes() []api.Prefix {
	return []api.Prefix{
		{Len: -1}, {Len: api.Width + 1}, {Len: 0, Bits: 1}, {Len: 0, Bits: -1}, {Len: 3, Bits: 8},
		{Len: api.Width, Bits: 256}, {Len: api.Width, Bits: -1}, {Len: 64}, {Len: 63, Bits: 1},
		{Len: math.MinInt, Bits: math.MinInt}, {Len: math.MaxInt, Bits: math.MaxInt}, {Len: math.MinInt}, {Len: math.MaxInt},
	}
}

func noHops() []int {
	return []int{api.MaxNodes, api.MaxNodes + 1, -3, 255, -255, 1 << 32, math.MinInt, math.MaxInt}
}

func noAddresses() []int {
	return []int{-1, -2, 256, 257, 511, 1 << 16, 1 << 32, 1<<32 + 5, math.MinInt, math.MinInt + 1, math.MaxInt}
}

func TestNew(t *testing.T) {
	x := New()
	if x == nil {
		t.Fatal("New: nil")
	}
	wantList(t, x)
	for a := range 256 {
		wantCode(t, a, x.Look(a), api.Drop)
	}
	for _, p := range allPrefixes() {
		wantCode(t, p, x.Get(p), api.None)
	}
	y := New()
	x.Set(px("*"), 1)
	wantList(t, y)
	wantList(t, New())
}

func TestHop(t *testing.T) {
	for h := -300; h <= 300; h++ {
		if want := h == -1 || h >= 0 && h <= 5; Hop(h) != want {
			t.Errorf("Hop(%d): %v", h, !want)
		}
	}
	for _, h := range append(noHops(), api.None) {
		if Hop(h) {
			t.Errorf("Hop(%d): true", h)
		}
	}
}

func TestCheckRight(t *testing.T) {
	lists := [][]api.Route{
		nil,
		{},
		{rt("*", 0)},
		{rt("*", api.Drop)},
		{rt("*", api.MaxNodes-1)},
		{rt("00000000", 1)},
		{rt("11111111", 1)},
		{rt("*", 0), rt("0*", 0), rt("00000000", 0), rt("00000001", 0), rt("1*", 0), rt("11111111", 0)},
		{rt("0*", 3), rt("01*", api.Drop), rt("1*", 2), rt("10*", 2)},
		many(api.MaxRoutes - 1),
		many(api.MaxRoutes),
	}
	for _, l := range lists {
		wantCode(t, l, Check(l), 0)
		x := of(t, l...)
		wantList(t, x, l...)
	}
}

func TestCheckWrong(t *testing.T) {
	cases := []struct {
		l    []api.Route
		want int
	}{
		{many(api.MaxRoutes + 1), api.ErrMany},
		{many(api.MaxRoutes + 20), api.ErrMany},
		{[]api.Route{rt("*", 1), rt("*", 1)}, api.ErrTwice},
		{[]api.Route{rt("*", 1), rt("*", 2)}, api.ErrTwice},
		{[]api.Route{rt("0*", 1), rt("01*", 1), rt("01*", 1)}, api.ErrTwice},
		{[]api.Route{rt("11111111", 1), rt("11111111", 0)}, api.ErrTwice},
		{[]api.Route{rt("1*", 1), rt("0*", 1)}, api.ErrOrder},
		{[]api.Route{rt("0*", 1), rt("*", 1)}, api.ErrOrder},
		{[]api.Route{rt("00000000", 1), rt("0*", 1)}, api.ErrOrder},
		{[]api.Route{rt("1*", 1), rt("01111111", 1)}, api.ErrOrder},
		{[]api.Route{rt("*", 1), rt("1*", 1), rt("01*", 1)}, api.ErrOrder},
		{[]api.Route{rt("*", 1), rt("1*", 1), rt("*", 1)}, api.ErrOrder},
		{[]api.Route{rt("*", api.None)}, api.ErrRange},
		{[]api.Route{rt("*", api.MaxNodes)}, api.ErrRange},
		{[]api.Route{rt("*", 1), rt("0*", 1), rt("1*", -3)}, api.ErrRange},
	}
	for _, p := range noPrefixes() {
		cases = append(cases, struct {
			l    []api.Route
			want int
		}{[]api.Route{rt("*", 1), {P: p, Hop: 1}}, api.ErrRange})
		wantCode(t, p, Check([]api.Route{{P: p, Hop: 1}}), api.ErrRange)
		wantCode(t, p, Check([]api.Route{{P: p, Hop: 1}, {P: p, Hop: 1}}), api.ErrRange)
	}
	for _, h := range noHops() {
		wantCode(t, h, Check([]api.Route{rt("*", h)}), api.ErrRange)
	}
	for _, c := range cases {
		wantCode(t, c.l, Check(c.l), c.want)
		if x, code := Of(c.l); x != nil || code != c.want {
			t.Errorf("Of(%v): %v, %d, want nil, %d", c.l, x, code, c.want)
		}
	}
}

// Several faults at a time: which is told?
func TestCheckFirstFault(t *testing.T) {
	wrong := many(api.MaxRoutes + 1)
	wrong[0].Hop = 9
	wrong[2].P = wrong[1].P
	wantCode(t, "many, range and twice", Check(wrong), api.ErrMany)
	wantCode(t, "all zero, and many", Check(make([]api.Route, api.MaxRoutes+1)), api.ErrMany)
	wantCode(t, "twice, and no hop in one", Check([]api.Route{rt("1*", 1), rt("1*", 9)}), api.ErrRange)
	wantCode(t, "not less, and no hop in one", Check([]api.Route{rt("1*", 1), rt("0*", 9)}), api.ErrRange)
	wantCode(t, "twice ahead of no hop", Check([]api.Route{rt("1*", 1), rt("1*", 1), rt("*", 9)}), api.ErrTwice)
	wantCode(t, "not less ahead of no hop", Check([]api.Route{rt("1*", 1), rt("0*", 1), rt("11*", 9)}), api.ErrOrder)
	wantCode(t, "not less ahead of twice", Check([]api.Route{rt("1*", 1), rt("0*", 1), rt("0*", 1)}), api.ErrOrder)
	wantCode(t, "twice ahead of not less", Check([]api.Route{rt("1*", 1), rt("1*", 1), rt("0*", 1)}), api.ErrTwice)
	wantCode(t, "no hop ahead of twice", Check([]api.Route{rt("0*", 9), rt("1*", 1), rt("1*", 1)}), api.ErrRange)
	last := many(api.MaxRoutes)
	last[api.MaxRoutes-1].Hop = api.None
	wantCode(t, "the last one", Check(last), api.ErrRange)
}

// All pairs of prefixes: in a list only what is less may stand ahead.
func TestCheckPairs(t *testing.T) {
	list := allPrefixes()
	inOrder(list)
	for i, p := range list {
		for j, q := range list {
			want := 0
			if i == j {
				want = api.ErrTwice
			} else if i > j {
				want = api.ErrOrder
			}
			if got := Check([]api.Route{{P: p, Hop: 1}, {P: q, Hop: 2}}); got != want {
				t.Fatalf("Check of %v, %v: %d, want %d", p, q, got, want)
			}
		}
	}
}

func TestGet(t *testing.T) {
	x := of(t, rt("*", 0), rt("0*", api.Drop), rt("01*", 5), rt("10000000", 2), rt("11111111", 3))
	want := map[api.Prefix]int{px("*"): 0, px("0*"): api.Drop, px("01*"): 5, px("10000000"): 2, px("11111111"): 3}
	for _, p := range allPrefixes() {
		hop, there := want[p]
		if !there {
			hop = api.None
		}
		wantCode(t, p, x.Get(p), hop)
	}
	for _, p := range noPrefixes() {
		wantCode(t, p, x.Get(p), api.None)
		wantCode(t, p, New().Get(p), api.None)
	}
}

func TestSet(t *testing.T) {
	x := New()
	for _, s := range []string{"1*", "10*", "*", "11111111", "00000000", "0*", "01*"} {
		wantCode(t, s, x.Set(px(s), 1), 0)
	}
	wantList(t, x, rt("*", 1), rt("0*", 1), rt("00000000", 1), rt("01*", 1), rt("1*", 1), rt("10*", 1), rt("11111111", 1))
	wantCode(t, "again, 0", x.Set(px("*"), 0), 0)
	wantCode(t, "again, Drop", x.Set(px("0*"), api.Drop), 0)
	wantCode(t, "again, the greatest", x.Set(px("11111111"), api.MaxNodes-1), 0)
	wantCode(t, "again, the same", x.Set(px("10*"), 1), 0)
	wantList(t, x, rt("*", 0), rt("0*", api.Drop), rt("00000000", 1), rt("01*", 1), rt("1*", 1), rt("10*", 1), rt("11111111", 5))
	wantCode(t, "the first away", x.Set(px("*"), api.None), 0)
	wantCode(t, "the last away", x.Set(px("11111111"), api.None), 0)
	wantCode(t, "one within away", x.Set(px("01*"), api.None), 0)
	wantList(t, x, rt("0*", api.Drop), rt("00000000", 1), rt("1*", 1), rt("10*", 1))
	wantCode(t, "away twice", x.Set(px("01*"), api.None), api.ErrNone)
	for _, s := range []string{"0*", "00000000", "1*", "10*"} {
		wantCode(t, s, x.Set(px(s), api.None), 0)
	}
	wantList(t, x)
	wantCode(t, "away, and none there", x.Set(px("0*"), api.None), api.ErrNone)
	wantCode(t, "anew", x.Set(px("0*"), 4), 0)
	wantList(t, x, rt("0*", 4))
}

// A wrong Set tells its code, and changes nothing.
func TestSetWrong(t *testing.T) {
	routes := []api.Route{rt("*", 0), rt("0*", 1), rt("1*", api.Drop)}
	for _, list := range [][]api.Route{nil, routes, many(api.MaxRoutes)} {
		x := of(t, list...)
		for _, p := range noPrefixes() {
			for _, h := range append(noHops(), api.None, api.Drop, 0, 1) {
				wantCode(t, p, x.Set(p, h), api.ErrRange)
			}
		}
		for _, h := range noHops() {
			wantCode(t, h, x.Set(px("*"), h), api.ErrRange)
			wantCode(t, h, x.Set(px("1*"), h), api.ErrRange)
			wantCode(t, h, x.Set(px("11111110"), h), api.ErrRange)
		}
		wantCode(t, "none there", x.Set(px("11111110"), api.None), api.ErrNone)
		wantList(t, x, list...)
	}
}

func TestSetFull(t *testing.T) {
	list := many(api.MaxRoutes)
	x := of(t, list[:api.MaxRoutes-1]...)
	wantCode(t, "the last that goes in", x.Set(list[api.MaxRoutes-1].P, list[api.MaxRoutes-1].Hop), 0)
	wantList(t, x, list...)
	for _, s := range []string{"*", "0*", "1*", "00000001", "11111111"} {
		wantCode(t, s, x.Set(px(s), 1), api.ErrFull)
		wantCode(t, s, x.Set(px(s), api.Drop), api.ErrFull)
		wantCode(t, s, x.Set(px(s), api.None), api.ErrNone)
		wantCode(t, s, x.Set(px(s), api.MaxNodes), api.ErrRange)
	}
	wantList(t, x, list...)
	for i := range list {
		list[i].Hop = api.Drop
		wantCode(t, "set again", x.Set(list[i].P, api.Drop), 0)
	}
	wantList(t, x, list...)
	wantCode(t, "one away", x.Set(list[7].P, api.None), 0)
	wantCode(t, "so one goes in", x.Set(px("*"), 2), 0)
	wantCode(t, "and no more", x.Set(px("0*"), 2), api.ErrFull)
	wantList(t, x, slices.Concat([]api.Route{rt("*", 2)}, list[:7], list[8:])...)
}

func TestLook(t *testing.T) {
	x := of(t, rt("*", 0), rt("0*", 1), rt("00*", api.Drop), rt("00000000", 2), rt("01111111", 3), rt("1000*", 4), rt("11111111", 5))
	for a, want := range map[int]int{0: 2, 1: api.Drop, 63: api.Drop, 64: 1, 126: 1, 127: 3, 128: 4, 143: 4, 144: 0, 254: 0, 255: 5} {
		wantCode(t, a, x.Look(a), want)
	}
	y := of(t, rt("01*", 3), rt("11111111", 0))
	for a, want := range map[int]int{0: api.Drop, 63: api.Drop, 64: 3, 127: 3, 128: api.Drop, 254: api.Drop, 255: 0} {
		wantCode(t, a, y.Look(a), want)
	}
	for _, a := range noAddresses() {
		wantCode(t, a, x.Look(a), api.Drop)
		wantCode(t, a, New().Look(a), api.Drop)
	}
}

func TestAll(t *testing.T) {
	for _, x := range []*Table{New(), of(t, rt("*", 4)), of(t, rt("*", 1), rt("1*", api.Drop), rt("110*", 2)), of(t, many(api.MaxRoutes)...)} {
		got := x.All()
		if len(got) != 256 {
			t.Fatalf("All: %d addresses", len(got))
		}
		for a, hop := range got {
			wantCode(t, a, hop, byWords(x.List(), a))
		}
	}
}

// byWords looks by the chapter's words: of the routes whose bits an address
// begins with, the one with the most.
func byWords(l []api.Route, a int) int {
	hop, most := api.Drop, -1
	for _, r := range l {
		if strings.HasPrefix(fmt.Sprintf("%08b", a), bits(r.P)) && r.P.Len > most {
			hop, most = r.Hop, r.P.Len
		}
	}
	return hop
}

// model is a table as the chapter tells it: of each prefix one route at most.
type model map[api.Prefix]int

func (m model) set(p api.Prefix, hop int) int {
	_, there := m[p]
	switch {
	case p.Len < 0, p.Len > 8, p.Bits < 0, p.Bits >= 1<<p.Len, hop < -2, hop > 5:
		return api.ErrRange
	case hop == api.None && !there:
		return api.ErrNone
	case hop == api.None:
		delete(m, p)
	case !there && len(m) == 40:
		return api.ErrFull
	default:
		m[p] = hop
	}
	return 0
}

func (m model) list() []api.Route {
	var ps []api.Prefix
	for p := range m {
		ps = append(ps, p)
	}
	inOrder(ps)
	var l []api.Route
	for _, p := range ps {
		l = append(l, api.Route{P: p, Hop: m[p]})
	}
	return l
}

// Many asks, one behind another, held against the model.
func TestAgainstModel(t *testing.T) {
	for seed := range int64(24) {
		r := rand.New(rand.NewSource(seed))
		x, m := New(), model{}
		less := 3 + int(seed)%6 // short prefixes come again often, long ones fill the table
		for range 300 {
			size := r.Intn(less + 1)
			p := api.Prefix{Len: size, Bits: r.Intn(1<<size + r.Intn(2))}
			hop := r.Intn(9) - 2
			if got, want := x.Set(p, hop), m.set(p, hop); got != want {
				t.Fatalf("seed %d: Set(%v, %d): %d, want %d", seed, p, hop, got, want)
			}
			want := m.list()
			wantList(t, x, want...)
			wantCode(t, want, Check(x.List()), 0)
			a := r.Intn(256)
			wantCode(t, a, x.Look(a), byWords(want, a))
		}
		for a, hop := range x.All() {
			wantCode(t, a, hop, byWords(m.list(), a))
		}
		for _, p := range allPrefixes() {
			hop, there := m[p]
			if !there {
				hop = api.None
			}
			wantCode(t, p, x.Get(p), hop)
		}
	}
}

// What is handed in is neither changed nor kept, nor what lies behind it.
func TestOfKeepsNothing(t *testing.T) {
	memory := []api.Route{rt("0*", 1), rt("01*", 2), rt("1*", 3), rt("11*", 9), rt("*", 9)}
	ahead := slices.Clone(memory)
	l := memory[:3]
	x := of(t, l...)
	y, code := Of(l)
	wantCode(t, "Of", code, 0)
	wantCode(t, "Check", Check(l), 0)
	y.Set(px("111*"), 4)
	y.Set(px("*"), 4)
	y.Set(px("01*"), 5)
	y.Set(px("0*"), api.None)
	if !reflect.DeepEqual(memory, ahead) {
		t.Errorf("the list that was handed in: %v, was %v", memory, ahead)
	}
	wantList(t, x, ahead[:3]...)
	for i := range memory {
		memory[i] = rt("10101010", 0)
	}
	wantList(t, x, ahead[:3]...)
	wantList(t, y, rt("*", 4), rt("01*", 5), rt("1*", 3), rt("111*", 4))
	wrong := []api.Route{rt("1*", 1), rt("0*", 2)}
	Of(wrong)
	if !slices.Equal(wrong, []api.Route{rt("1*", 1), rt("0*", 2)}) {
		t.Errorf("a wrong list was changed: %v", wrong)
	}
	empty := memory[:0]
	z, _ := Of(empty)
	z.Set(px("0*"), 1)
	if memory[0] != rt("10101010", 0) {
		t.Errorf("what lies behind an empty list was changed: %v", memory[0])
	}
}

// What was answered is new memory.
func TestAnswersAreNew(t *testing.T) {
	x := of(t, rt("0*", 1), rt("01*", 2), rt("1*", 3))
	first, second, hops := x.List(), x.List(), x.All()
	x.Set(px("*"), 4)
	x.Set(px("0*"), 5)
	x.Set(px("1*"), api.None)
	want := []api.Route{rt("0*", 1), rt("01*", 2), rt("1*", 3)}
	if !slices.Equal(first, want) {
		t.Errorf("a list answered ahead: %v, want %v", first, want)
	}
	for a, hop := range hops {
		wantCode(t, a, hop, byWords(want, a))
	}
	for i := range first {
		first[i] = rt("11111111", 0)
	}
	if !slices.Equal(second, want) {
		t.Errorf("another list answered ahead: %v, want %v", second, want)
	}
	now := []api.Route{rt("*", 4), rt("0*", 5), rt("01*", 2)}
	wantList(t, x, now...)
	third := x.List()
	third = append(third[:1], rt("11*", 0))
	third[0].Hop = 0
	more, other := x.All(), x.All()
	for a := range more {
		more[a] = 9
	}
	for a := range other {
		wantCode(t, a, other[a], byWords(now, a))
		wantCode(t, a, x.Look(a), byWords(now, a))
	}
	wantList(t, x, now...)
}

// One table knows nothing of another one, whether it was made by New or of its
// list.
func TestTablesAreApart(t *testing.T) {
	x := New()
	x.Set(px("1*"), 1)
	y := of(t, x.List()...)
	x.Set(px("1*"), 2)
	x.Set(px("0*"), 2)
	y.Set(px("11*"), 3)
	wantList(t, x, rt("0*", 2), rt("1*", 2))
	wantList(t, y, rt("1*", 1), rt("11*", 3))
}

// A nil is no table, but no call panics.
func TestNil(t *testing.T) {
	var x *Table
	wantList(t, x)
	wantCode(t, "Get", x.Get(px("*")), api.None)
	wantCode(t, "Look", x.Look(0), api.Drop)
	wantCode(t, "Set", x.Set(px("*"), 1), api.ErrNone)
	wantCode(t, "Set", x.Set(px("*"), api.None), api.ErrNone)
	wantCode(t, "All", len(x.All()), 256)
}

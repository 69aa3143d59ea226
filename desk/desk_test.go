package desk

import (
	"fmt"
	"math"
	"math/big"
	"math/rand"
	"regexp"
	"slices"
	"strings"
	"testing"

	"handpost/api"
	"handpost/fib"
	"handpost/prefix"
	"handpost/table"
	"handpost/walk"
)

// fault is one of package api.
func fault(code, at int) api.Fault {
	return api.Fault{Code: code, At: at}
}

// text is what things tell, each ended by a newline.
func text(things ...string) string {
	s := ""
	for _, x := range things {
		s += x + "\n"
	}
	return s
}

// times is a thing so many times.
func times(thing string, count int) []string {
	return slices.Repeat([]string{thing}, count)
}

// do lets a Desk do lines that have no fault.
func do(t *testing.T, d *Desk, lines ...string) string {
	t.Helper()
	told, f := d.Do(lines)
	if f != (api.Fault{}) {
		t.Fatalf("%q: fault %v, want none", lines, f)
	}
	return told
}

// with makes a Desk by lines that tell ok, each of them.
func with(t *testing.T, lines ...string) *Desk {
	t.Helper()
	d := New()
	if d == nil {
		t.Fatal("New: nil")
	}
	wantTold(t, lines, do(t, d, lines...), times("ok", len(lines))...)
	return d
}

// wantTold holds what was told against these things.
func wantTold(t *testing.T, what any, got string, things ...string) {
	t.Helper()
	if want := text(things...); got != want {
		t.Errorf("%q: told %q, want %q", what, got, want)
	}
}

// wantLine does one line, and holds what it tells against these things.
func wantLine(t *testing.T, d *Desk, line string, things ...string) {
	t.Helper()
	wantTold(t, line, do(t, d, line), things...)
}

// wantFault does lines that have this fault: nothing is told, nothing is done.
func wantFault(t *testing.T, d *Desk, lines []string, want api.Fault) {
	t.Helper()
	before := known(d)
	told, f := d.Do(lines)
	if told != "" || f != want {
		t.Errorf("%d lines: %q %v, want nothing, and %v", len(lines), told, f, want)
	}
	wantKnown(t, "with a fault", d, before)
}

// refuse does lines that tell this one thing, each of them, and change nothing.
func refuse(t *testing.T, d *Desk, thing string, lines ...string) {
	t.Helper()
	before := known(d)
	for _, line := range lines {
		wantLine(t, d, line, thing)
	}
	wantKnown(t, thing, d, before)
}

// known tells all that a Desk's Post can be asked.
func known(d *Desk) string {
	p := d.post
	list := []any{p.News(), p.List(), p.Owners()}
	for from := range api.MaxNodes {
		list = append(list, p.Full(from).List(), p.Small(from).List())
		for to := range api.MaxNodes {
			seq, dist := p.Best(from, to)
			list = append(list, p.Way(from, to), seq, dist, p.Cost(from, to))
		}
	}
	return fmt.Sprint(list...)
}

// wantKnown holds what a Desk's Post can be asked against what it was ahead.
func wantKnown(t *testing.T, what any, d *Desk, want string) {
	t.Helper()
	if got := known(d); got != want {
		t.Errorf("%v: known is %s, want %s", what, got, want)
	}
}

// bare are the ways of a node that knows none but that to itself.
func bare(me, seq int) []string {
	var list []string
	for to := range api.MaxNodes {
		if to == me {
			list = append(list, fmt.Sprintf("way %d %d 0 %d", to, seq, me))
		} else {
			list = append(list, fmt.Sprintf("way %d 0 200 -1", to))
		}
	}
	return list
}

// noNodes are numbers of which there is no node, such as are nodes by their lowest
// bits among them.
func noNodes() []int {
	return []int{
		-1, -2, -6, -256, -1 << 32, math.MinInt, math.MinInt + 1,
		api.MaxNodes, api.MaxNodes + 1, 255, 256, 1 << 32, 1<<32 + 1, math.MaxInt - 1, math.MaxInt,
	}
}

// busy makes a Desk with links, owners, ways that are not known to all, and news
// on their way.
func busy(t *testing.T) *Desk {
	t.Helper()
	return with(t,
		"link 0 1 2", "link 1 2 3", "link 2 3 4", "own * 0", "own 01* 3", "own 11111111 1",
		"tick 0", "hear 0", "tell 1 2", "hear 5", "tell 2 3", "link 2 3 5", "double 2", "lose 1")
}

// script is lines of every kind, of which some tell `no`, some `what`, and some
// nothing.
func script() []string {
	return []string{
		"own 1* 1", "own 10* 2", "link 0 1 4", "link 1 2 5", "news", "tick 1", "news", "", "hear 1", "ways 0", "letter 0 200",
		"hear 6", "ways 2", "letter 2 255", "letter 2 130", "tell 2 1", "lose 0", "double 3", "what", "hear 11", "hear 12", "hear 11",
		"news", "full 0", "small 0", "full 1", "small 1", "full 6", "small -1", "free 1* 0", "free 1* 0", "own * 0", "full 2",
		"  ", "link 1 2 0", "hear 0", "ways 2", "tell 1 2", "letter 1 130", "tick 9", "link 0 0 1", " ways 7 ", "ways x", "tick 1",
		"double 0", "lose 3", "hear 2", "news", "letter 0 0", "letter 5 0", "letter 9 0", "letter 0 256", "small 1",
	}
}

// A new Desk has a new Post: no links, no news, all is nobody's.
func TestNew(t *testing.T) {
	d := New()
	wantKnown(t, "new", d, known(&Desk{post: fib.New()}))
	wantLine(t, d, "news", "end")
	for n := range api.MaxNodes {
		wantLine(t, d, fmt.Sprint("ways ", n), bare(n, 0)...)
		wantLine(t, d, fmt.Sprint("full ", n), "end")
		wantLine(t, d, fmt.Sprint("small ", n), "end")
		wantLine(t, d, fmt.Sprint("letter ", n, " 0"), fmt.Sprint("trip -1 0 ", n))
	}
}

// No lines tell nothing, be their list nil or empty.
func TestNoLines(t *testing.T) {
	d := busy(t)
	before := known(d)
	behind := []string{"tick 0", "a\nb"}
	for _, lines := range [][]string{nil, {}, make([]string, 0, 3), behind[:0]} {
		if told, f := d.Do(lines); told != "" || f != (api.Fault{}) {
			t.Errorf("no lines: %q %v", told, f)
		}
	}
	wantKnown(t, "no lines", d, before)
}

// link A B N: for each cost that there is, either end first; 0 breaks it.
func TestLink(t *testing.T) {
	d := New()
	for cost := range api.MaxCost + 1 {
		wantLine(t, d, fmt.Sprint("link 1 4 ", cost), "ok")
		if got := d.post.Cost(1, 4); got != cost {
			t.Errorf("link: it costs %d, want %d", got, cost)
		}
		wantLine(t, d, fmt.Sprint("link 5 2 ", cost), "ok")
		if got := d.post.Cost(2, 5); got != cost {
			t.Errorf("link: it costs %d, want %d", got, cost)
		}
	}
	wantLine(t, d, "link 1 4 0", "ok")
	if got := fmt.Sprint(d.post.List()); got != "[{2 5 15}]" {
		t.Errorf("links: %s", got)
	}
}

// link: no 1: no such nodes, one and the same, no such cost.
func TestLinkRefused(t *testing.T) {
	d := busy(t)
	for _, n := range noNodes() {
		refuse(t, d, "no 1", fmt.Sprintf("link %d 1 3", n), fmt.Sprintf("link 1 %d 3", n), fmt.Sprintf("link %d %d 3", n, n))
	}
	for _, n := range []int{-1, -15, math.MinInt, 16, 17, 200, math.MaxInt} {
		refuse(t, d, "no 1", fmt.Sprintf("link 0 1 %d", n), fmt.Sprintf("link 4 5 %d", n))
	}
	refuse(t, d, "no 1", "link 0 0 1", "link 3 3 0", "link 5 5 15", "link 0 0 16")
}

// tick A: its way to itself is younger, and all whom it is linked with are told,
// by their numbers.
func TestTick(t *testing.T) {
	d := New()
	for n := range api.MaxNodes {
		wantTold(t, "tick", do(t, d, fmt.Sprint("tick ", n), fmt.Sprint("tick ", n), fmt.Sprint("ways ", n)), append([]string{"ok", "ok"}, bare(n, 2)...)...)
	}
	wantLine(t, d, "news", "end")
	d = with(t, "link 2 5 1", "link 2 0 1", "tick 2")
	wantLine(t, d, "news",
		"news 2 0 0 0 200", "news 2 0 1 0 200", "news 2 0 2 1 0", "news 2 0 3 0 200", "news 2 0 4 0 200", "news 2 0 5 0 200",
		"news 2 5 0 0 200", "news 2 5 1 0 200", "news 2 5 2 1 0", "news 2 5 3 0 200", "news 2 5 4 0 200", "news 2 5 5 0 200",
		"end")
}

// tick: no 1: there is no such node.
func TestTickRefused(t *testing.T) {
	d := busy(t)
	for _, n := range noNodes() {
		refuse(t, d, "no 1", fmt.Sprint("tick ", n))
	}
}

// tick: no 9: there is no room; what was done ahead of that stays, the tick, too.
func TestTickFull(t *testing.T) {
	d := with(t, "link 0 1 1", "link 0 2 1", "tell 0 1", "tell 0 1", "tell 0 1", "tell 0 1", "tell 0 1")
	wantLine(t, d, "tick 0", "no 9")
	wantLine(t, d, "ways 0", bare(0, 1)...)
	told := do(t, d, "news")
	if got := strings.Count(told, "news 0 1 "); got != 36 {
		t.Errorf("%d news from 0 to 1, want 36", got)
	}
	if got := strings.Count(told, "news 0 2 "); got != 0 {
		t.Errorf("%d news from 0 to 2, want none", got)
	}
	wantLine(t, d, "tick 0", "no 9")
	wantLine(t, d, "ways 0", bare(0, 2)...)
	wantLine(t, d, "news", strings.Split(strings.TrimSuffix(told, "\n"), "\n")...)
}

// tell A B: what A tells comes behind the others.
func TestTell(t *testing.T) {
	d := with(t, "link 3 4 7", "tell 3 4", "lose 1", "lose 1", "lose 1", "lose 1", "lose 1", "tell 4 3")
	wantLine(t, d, "news",
		"news 3 4 0 0 200",
		"news 4 3 0 0 200", "news 4 3 1 0 200", "news 4 3 2 0 200", "news 4 3 3 0 200", "news 4 3 4 0 0", "news 4 3 5 0 200",
		"end")
}

// tell: no 1: no such nodes; no 6: they are not linked; no 9: there is no room.
func TestTellRefused(t *testing.T) {
	d := busy(t)
	for _, n := range noNodes() {
		refuse(t, d, "no 1", fmt.Sprintf("tell %d 1", n), fmt.Sprintf("tell 1 %d", n), fmt.Sprintf("tell %d %d", n, n))
	}
	refuse(t, d, "no 6", "tell 0 2", "tell 0 0", "tell 5 4", "tell 3 0")
	d = with(t, "link 0 1 1", "tell 0 1", "tell 0 1", "tell 0 1", "tell 1 0", "tell 1 0", "lose 0", "tell 1 0")
	refuse(t, d, "no 9", "tell 0 1", "tell 1 0")
	refuse(t, d, "no 6", "tell 0 2")
	refuse(t, d, "no 1", "tell 0 6")
	wantTold(t, "room", do(t, d, "lose 0", "tell 0 1"), "ok", "ok")
}

// hear N: the news in that place come in, and are on their way no longer.
func TestHear(t *testing.T) {
	d := with(t, "link 0 1 4", "tell 1 0", "hear 1")
	wantLine(t, d, "ways 0", "way 0 0 0 0", "way 1 0 4 1", "way 2 0 200 -1", "way 3 0 200 -1", "way 4 0 200 -1", "way 5 0 200 -1")
	wantLine(t, d, "news", "news 1 0 0 0 200", "news 1 0 2 0 200", "news 1 0 3 0 200", "news 1 0 4 0 200", "news 1 0 5 0 200", "end")
	wantTold(t, "all", do(t, d, "hear 4", "hear 0", "news"), "ok", "ok", "news 1 0 2 0 200", "news 1 0 3 0 200", "news 1 0 4 0 200", "end")
}

// noPlaces are numbers of no place among so many news.
func noPlaces(count int) []int {
	return []int{-1, -2, math.MinInt, count, count + 1, 40, 1 << 32, math.MaxInt}
}

// hear, lose, double: no 6: there are none in that place.
func TestNoPlace(t *testing.T) {
	for _, d := range []*Desk{New(), busy(t)} {
		for _, n := range noPlaces(len(d.post.News())) {
			refuse(t, d, "no 6", fmt.Sprint("hear ", n), fmt.Sprint("lose ", n), fmt.Sprint("double ", n))
		}
	}
	refuse(t, New(), "no 6", "hear 0", "lose 0", "double 0")
}

// hear: no 6: the link broke by which they came; they are on their way no longer.
func TestHearByNoLink(t *testing.T) {
	d := with(t, "link 0 1 4", "tell 1 0", "link 0 1 0")
	wantLine(t, d, "hear 1", "no 6")
	wantLine(t, d, "ways 0", bare(0, 0)...)
	wantLine(t, d, "news", "news 1 0 0 0 200", "news 1 0 2 0 200", "news 1 0 3 0 200", "news 1 0 4 0 200", "news 1 0 5 0 200", "end")
}

// lose N: they are on their way no longer, and nobody hears them.
func TestLose(t *testing.T) {
	d := with(t, "link 0 1 4", "tell 1 0", "lose 1", "lose 4")
	wantLine(t, d, "news", "news 1 0 0 0 200", "news 1 0 2 0 200", "news 1 0 3 0 200", "news 1 0 4 0 200", "end")
	wantLine(t, d, "ways 0", bare(0, 0)...)
}

// double N: they are there once more, behind all.
func TestDouble(t *testing.T) {
	d := with(t, "link 0 1 4", "tell 1 0", "lose 0", "lose 2", "lose 2", "lose 2", "double 0", "double 1")
	wantLine(t, d, "news", "news 1 0 1 0 0", "news 1 0 2 0 200", "news 1 0 1 0 0", "news 1 0 2 0 200", "end")
}

// double: no 9: there are as many as may be; there being none in that place is
// told ahead of it.
func TestDoubleFull(t *testing.T) {
	lines := append([]string{"link 0 1 4", "tell 0 1"}, times("double 0", api.MaxNews-api.MaxNodes)...)
	d := with(t, lines...)
	refuse(t, d, "no 9", "double 0", "double 39")
	refuse(t, d, "no 6", "double 40", "double -1")
	wantTold(t, "room", do(t, d, "lose 39", "double 0", "double 0"), "ok", "ok", "no 9")
}

// own P A: of each length, to each node; whoever had it has it no longer.
func TestOwn(t *testing.T) {
	d := New()
	for i, s := range []string{"*", "0*", "01*", "011*", "0110*", "01100*", "011001*", "0110011*", "01100111"} {
		for n := range api.MaxNodes {
			wantLine(t, d, fmt.Sprintf("own %s %d", s, n), "ok")
			if l := d.post.Owners(); len(l) != i+1 || prefix.Text(l[i].P) != s || l[i].Hop != n {
				t.Errorf("own %s %d: %v", s, n, l)
			}
		}
	}
}

// own, free: no 1: there is no such node.
func TestOwnRefused(t *testing.T) {
	d := busy(t)
	for _, n := range noNodes() {
		refuse(t, d, "no 1", fmt.Sprint("own 0* ", n), fmt.Sprint("own * ", n), fmt.Sprint("free * ", n), fmt.Sprint("free 0* ", n))
	}
}

// fill are lines by which as many prefixes as may be are somebody's.
func fill() []string {
	var lines []string
	for a := range api.MaxRoutes {
		lines = append(lines, fmt.Sprintf("own %08b %d", a, a%api.MaxNodes))
	}
	return lines
}

// own: no 9: as many prefixes as may be are somebody's; one of these may still be
// another one's, or be freed.
func TestOwnFull(t *testing.T) {
	d := with(t, fill()...)
	refuse(t, d, "no 9", "own * 0", "own 11111111 5", "own 0010100* 1")
	refuse(t, d, "no 1", "own * 6")
	refuse(t, d, "no 6", "free * 0")
	wantTold(t, "there", do(t, d, "own 00000000 5", "own * 0", "free 00000001 0", "own * 0", "own 0* 0"), "ok", "no 9", "ok", "ok", "no 9")
}

// free P A: it is nobody's, whichever node is named; no 6: it is nobody's already.
func TestFree(t *testing.T) {
	d := with(t, "own 01* 3", "own 010* 4", "free 01* 3", "free 010* 0")
	wantLine(t, d, "full 3", "end")
	refuse(t, d, "no 6", "free 01* 3", "free 010* 4", "free * 0", "free 11111111 5")
	d = busy(t)
	refuse(t, d, "no 6", "free 0* 0", "free 010* 3", "free 11111110 1", "free 1111111* 1")
	wantLine(t, d, "free 01* 3", "ok")
	if got := fmt.Sprint(d.post.Owners()); got != "[{{0 0} 0} {{8 255} 1}]" {
		t.Errorf("owners: %s", got)
	}
}

// ways A: all its ways, by the nodes' numbers; of no node such as lead nowhere.
func TestWays(t *testing.T) {
	d := with(t, "link 1 0 2", "link 1 2 3", "tick 0", "tick 0", "hear 6", "tell 2 1", "hear 13")
	wantLine(t, d, "ways 1", "way 0 2 2 0", "way 1 0 0 1", "way 2 0 3 2", "way 3 0 200 -1", "way 4 0 200 -1", "way 5 0 200 -1")
	wantLine(t, d, "ways 0", bare(0, 2)...)
	wantLine(t, d, "link 1 0 0", "ok")
	wantLine(t, d, "ways 1", "way 0 2 200 -1", "way 1 0 0 1", "way 2 0 3 2", "way 3 0 200 -1", "way 4 0 200 -1", "way 5 0 200 -1")
	for _, n := range noNodes() {
		wantLine(t, d, fmt.Sprint("ways ", n), bare(n, 0)...)
	}
}

// news: in their order, as many as may be.
func TestNews(t *testing.T) {
	d := with(t, "link 0 1 4", "tell 0 1", "lose 1", "lose 1", "lose 1", "lose 1", "lose 1")
	for count := 1; count <= api.MaxNews; count++ {
		wantLine(t, d, "news", append(times("news 0 1 0 0 0", count), "end")...)
		do(t, d, "double 0")
	}
}

// full A, small A: of each route its prefix's text and its hop: a neighbour, the
// node itself, and -1.
func TestTables(t *testing.T) {
	d := with(t, "link 0 1 4", "tell 1 0", "hear 1", "own 00* 1", "own 01* 1", "own 1* 0", "own 110* 5", "own 11111111 1")
	wantLine(t, d, "full 0", "route 00* 1", "route 01* 1", "route 1* 0", "route 110* -1", "route 11111111 1", "end")
	wantLine(t, d, "small 0", "route * 0", "route 0* 1", "route 110* -1", "route 11111111 1", "end")
	wantLine(t, d, "full 1", "route 00* 1", "route 01* 1", "route 1* -1", "route 110* -1", "route 11111111 1", "end")
	wantLine(t, d, "small 1", "route 0* 1", "route 11111111 1", "end")
	wantLine(t, d, "full 5", "route 00* -1", "route 01* -1", "route 1* -1", "route 110* 5", "route 11111111 -1", "end")
	wantLine(t, d, "small 5", "route 110* 5", "end")
	wantLine(t, d, "small 4", "end")
}

// As many routes as may be.
func TestGreatestTable(t *testing.T) {
	d := with(t, fill()...)
	var want []string
	for a := range api.MaxRoutes {
		hop := -1
		if a%api.MaxNodes == 2 {
			hop = 2
		}
		want = append(want, fmt.Sprintf("route %08b %d", a, hop))
	}
	wantLine(t, d, "full 2", append(want, "end")...)
	if got := strings.Count(do(t, d, "small 2"), "route "); got != 7 {
		t.Errorf("small 2: %d routes, want 7", got)
	}
}

// full, small: no 1: there is no such node.
func TestTablesRefused(t *testing.T) {
	for _, d := range []*Desk{New(), busy(t)} {
		for _, n := range noNodes() {
			refuse(t, d, "no 1", fmt.Sprint("full ", n), fmt.Sprint("small ", n))
		}
	}
}

// letter A X: End, Cost, and Nodes: to an owner near and far, to the node itself,
// to one that is not reached, to nobody's, to no address, and from no node.
func TestLetter(t *testing.T) {
	d := with(t, "link 0 1 3", "link 1 2 4", "own 10* 2", "own 0* 1", "own 11* 5",
		"tell 2 1", "hear 2", "tell 1 0", "hear 6", "hear 6")
	wantLine(t, d, "letter 0 128", "trip 2 7 0 1 2")
	wantLine(t, d, "letter 0 191", "trip 2 7 0 1 2")
	wantLine(t, d, "letter 1 130", "trip 2 4 1 2")
	wantLine(t, d, "letter 2 130", "trip 2 0 2")
	wantLine(t, d, "letter 0 0", "trip 1 3 0 1")
	wantLine(t, d, "letter 0 127", "trip 1 3 0 1")
	wantLine(t, d, "letter 2 0", "trip -1 0 2")
	wantLine(t, d, "letter 0 255", "trip -1 0 0")
	wantLine(t, d, "letter 5 255", "trip 5 0 5")
	wantTold(t, "broken", do(t, d, "link 1 2 0", "letter 0 130"), "ok", "trip -1 3 0 1")
	wantTold(t, "nobody's", do(t, d, "free 0* 1", "letter 0 0"), "ok", "trip -1 0 0")
	for _, x := range []int{-1, -256, math.MinInt, 256, 257, 1 << 32, math.MaxInt} {
		wantLine(t, d, fmt.Sprint("letter 1 ", x), "trip -1 0 1")
	}
	for _, n := range noNodes() {
		wantLine(t, d, fmt.Sprint("letter ", n, " 0"), "trip -1 0")
		wantLine(t, d, fmt.Sprint("letter ", n, " ", n), "trip -1 0")
	}
}

// A letter goes by the tables of now, and for what links cost now.
func TestLetterNow(t *testing.T) {
	d := with(t, "link 0 1 3", "tell 1 0", "hear 1", "own * 1")
	wantTold(t, "now", do(t, d, "letter 0 9", "link 0 1 8", "letter 0 9", "own * 0", "letter 0 9", "own 1* 1", "letter 0 200"),
		"trip 1 3 0 1", "ok", "trip 1 8 0 1", "ok", "trip 0 0 0", "ok", "trip 1 8 0 1")
}

// The document's example of tables: three routes are enough.
func TestExampleOfTables(t *testing.T) {
	d := with(t, "link 0 1 1", "link 0 2 1", "tell 1 0", "hear 1", "tell 2 0", "hear 7",
		"own 00* 1", "own 01* 1", "own 10* 2", "own 111* 2", "own 110* 1")
	wantLine(t, d, "full 0", "route 00* 1", "route 01* 1", "route 10* 2", "route 110* 1", "route 111* 2", "end")
	wantLine(t, d, "small 0", "route * 1", "route 1* 2", "route 110* 1", "end")
}

// The document's example of ways: one of 11, as old as the best, which was 11
// long, may not be gone; one that is younger by one may, however long it is.
func TestExampleOfWays(t *testing.T) {
	d := with(t, "link 1 2 6", "tell 2 1", "hear 2", "link 0 1 5", "tell 1 0", "hear 7", "link 2 3 11", "tell 2 3", "hear 12", "link 0 3 15")
	wantLine(t, d, "letter 0 0", "trip -1 0 0")
	way := func(want string) {
		t.Helper()
		told := strings.Split(do(t, d, "ways 0"), "\n")
		if told[2] != want {
			t.Errorf("%q, want %q", told[2], want)
		}
	}
	way("way 2 0 11 1")
	wantTold(t, "as old", do(t, d, "link 0 1 0", "tell 3 0"), "ok", "ok")
	if told := strings.Split(do(t, d, "news"), "\n"); told[17] != "news 3 0 2 0 11" {
		t.Errorf("in the place 17: %q", told[17])
	}
	wantLine(t, d, "hear 17", "ok")
	way("way 2 0 200 -1")
	wantTold(t, "lost", do(t, d, append(times("lose 0", 20), "news")...), append(times("ok", 20), "end")...)
	wantTold(t, "younger", do(t, d, "tick 2", "hear 8", "tell 3 0", "hear 13"), "ok", "ok", "ok", "ok")
	way("way 2 1 26 3")
}

// As many lines as may be are done, each of them; of one more none is.
func TestMany(t *testing.T) {
	for _, line := range []string{"tick 0", "", " ", "what", "ways 9"} {
		d, one := New(), do(t, New(), line)
		if got, want := do(t, d, times(line, api.MaxLines)...), strings.Repeat(one, api.MaxLines); got != want {
			t.Errorf("%d lines %q: %q", api.MaxLines, line, got)
		}
		for _, count := range []int{1, 2, api.MaxLines, 1 << 16} {
			wantFault(t, d, times(line, api.MaxLines+count), fault(api.ErrMany, -1))
		}
	}
	d := New()
	do(t, d, times("tick 0", api.MaxLines)...)
	wantLine(t, d, "ways 0", bare(0, api.MaxLines)...)
	wantFault(t, d, times("tick 0", api.MaxLines+1), fault(api.ErrMany, -1))
	wantLine(t, d, "ways 0", bare(0, api.MaxLines)...)
}

// Too many lines is told ahead of a line that has a newline, wherever that is.
func TestManyAheadOfNewline(t *testing.T) {
	d := busy(t)
	for _, at := range []int{0, 1, 75, api.MaxLines - 1, api.MaxLines} {
		lines := times("tick 0", api.MaxLines+1)
		lines[at] = "tick 0\n"
		wantFault(t, d, lines, fault(api.ErrMany, -1))
	}
}

// newlines are lines with a newline in them.
func newlines() []string {
	return []string{"\n", "\n\n", "tick 0\n", "\ntick 0", "tick\n0", "tick 0\ntick 0", "  \n  ", "news\r\n", "\xff\n\xff", "x\n", "\x00\n"}
}

// A line with a newline: its number is told, from 0 on, and nothing is done, not
// even of the lines ahead of it.
func TestNewline(t *testing.T) {
	d := busy(t)
	for _, line := range newlines() {
		wantFault(t, d, []string{line}, fault(api.ErrLine, 0))
		for _, count := range []int{2, 3, 10, api.MaxLines - 1, api.MaxLines} {
			for _, at := range []int{0, 1, count / 2, count - 2, count - 1} {
				for _, other := range []string{"tick 0", "own 1* 2", "", "x"} {
					lines := times(other, count)
					lines[at] = line
					wantFault(t, d, lines, fault(api.ErrLine, at))
				}
			}
		}
	}
}

// Several lines with a newline: the first is told.
func TestSeveralNewlines(t *testing.T) {
	d := busy(t)
	wantFault(t, d, []string{"\n", "\n"}, fault(api.ErrLine, 0))
	wantFault(t, d, []string{"tick 1", "a\n", "\nb"}, fault(api.ErrLine, 1))
	wantFault(t, d, []string{"tick 1", "tick 2", "lose 0", "x\ny", "tick 1", "\n"}, fault(api.ErrLine, 3))
	wantFault(t, d, append([]string{"lose 0"}, times("\n", api.MaxLines-1)...), fault(api.ErrLine, 1))
}

// Behind a fault a Desk goes on as if those lines had not been.
func TestBehindFaults(t *testing.T) {
	d, same := New(), New()
	for _, line := range script() {
		d.Do([]string{line, "tick 0\n"})
		d.Do(times("tick 0", api.MaxLines+1))
		if got, want := do(t, d, line), do(t, same, line); got != want {
			t.Errorf("%q: %q, want %q", line, got, want)
		}
		wantKnown(t, line, d, known(same))
	}
}

// Lines without words tell nothing, and do nothing.
func TestWithoutWords(t *testing.T) {
	d := busy(t)
	before := known(d)
	for _, line := range []string{"", " ", "  ", "   ", strings.Repeat(" ", 1000)} {
		wantLine(t, d, line)
		wantTold(t, line, do(t, d, line, "free 0* 0", line, line, "x", line), "no 6", "what")
	}
	wantKnown(t, "without words", d, before)
}

// Blanks ahead of words, behind them, and several between them change nothing.
func TestBlanks(t *testing.T) {
	for _, blanks := range []string{" ", "  ", strings.Repeat(" ", 999)} {
		d, same := New(), New()
		for i, line := range script() {
			other := strings.ReplaceAll(line, " ", blanks)
			if i%3 != 0 {
				other = blanks + other
			}
			if i%3 != 1 {
				other += blanks
			}
			if got, want := do(t, d, other), do(t, same, line); got != want {
				t.Errorf("%.80q: %q, want %q", other, got, want)
			}
			wantKnown(t, line, d, known(same))
		}
	}
	d := New()
	wantLine(t, d, " link 0 1 4", "ok")
	wantLine(t, d, "link 0 1 4 ", "ok")
	wantLine(t, d, "   link   0  1     4  ", "ok")
}

// What looks like a blank and is none is a byte of a word.
func TestNoBlanks(t *testing.T) {
	d := busy(t)
	for _, s := range []string{
		"\t", "\r", "\v", "\f", "\x00", "\x1f", "\x21", "\x7f", "\x80", "\x85", "\xa0", "\xff",
		"\u0085", "\u00a0", "\u1680", "\u2000", "\u2003", "\u2009", "\u200b", "\u2028", "\u2029", "\u202f", "\u205f", "\u3000", "\ufeff",
		"\xc0\xa0", "\xe0\x80\xa0", "_", ",", ";", "\\n", "%20",
	} {
		refuse(t, d, "what",
			s, " "+s+" ", s+s, s+"tick 0", "tick 0"+s, "tick"+s+"0", "tick "+s+" 0", "tick"+s+" 0", "tick "+s+"0", s+" tick 0", "tick 0 "+s,
			"own 0*"+s+" 1", "own "+s+"0* 1", "own 0*"+s+"1", "free *"+s+" 0", "news"+s, s+"news", "news "+s, "letter 0"+s+"1", "letter 0 1"+s)
	}
}

// forms are a line of each kind that can be done at a busy Desk.
func forms() []string {
	return []string{
		"link 0 1 4", "tick 0", "tell 0 1", "hear 0", "lose 0", "double 0", "own 0* 1", "free * 0",
		"ways 0", "news", "full 0", "small 0", "letter 0 1",
	}
}

// All of the forms are lines of the table.
func TestForms(t *testing.T) {
	for _, line := range forms() {
		if told := do(t, busy(t), line); told == "what\n" || told == "" || strings.HasPrefix(told, "no") {
			t.Errorf("%q: told %q", line, told)
		}
	}
}

// Another word, another case of a letter, a piece of a word, a word more.
func TestOtherWords(t *testing.T) {
	d := busy(t)
	refuse(t, d, "what",
		"x", "what", "ok", "no", "end", "no 1", "way 0 0 0 0", "route * 0", "trip 0 0 0", "settle 14", "way 0", "owner 0", "owners", "best 0 0",
		"path 0 1", "set 0 1 2", "cost 0 1", "do", "help", "quit", "0", "1", "-1", "*", "0*", "00000000", "0 tick", "0 1 4 link", "* own 0",
		"link A B N", "tick A", "own P A", "free P A", "letter A X", "hear N", "A", "B", "N", "P", "X", "A 0", "P *", "N 0", "new", "newss", "link 0 1 4\x00")
	for _, line := range forms() {
		word, rest, _ := strings.Cut(line, " ")
		refuse(t, d, "what",
			strings.ToUpper(word)+" "+rest, strings.ToUpper(word[:1])+word[1:]+" "+rest, word[:len(word)-1]+strings.ToUpper(word[len(word)-1:])+" "+rest,
			word+"s "+rest, word[1:]+" "+rest, word[:len(word)-1]+" "+rest, word+word+" "+rest, word+" "+word+" "+rest,
			word+": "+rest, "\""+word+"\" "+rest, "'"+line+"'", "x"+line, "x "+line)
	}
}

// Too few words, and too many.
func TestCountOfWords(t *testing.T) {
	d := busy(t)
	for _, line := range forms() {
		words := strings.Fields(line)
		for count := 1; count < len(words); count++ {
			refuse(t, d, "what", strings.Join(words[:count], " "), strings.Join(words[:count], " ")+"  ")
		}
		for i := 1; i < len(words); i++ {
			refuse(t, d, "what", strings.Join(slices.Concat(words[:i], words[i+1:]), " "))
		}
		for _, more := range []string{"0", "1", "4", "*", "x", "-", "0 0", "news", words[0], line} {
			refuse(t, d, "what", line+" "+more, line+"  "+more+" ")
		}
		refuse(t, d, "what", line+strings.Repeat(" 0", 1000))
	}
}

// noNumbers are words that are no numbers, or not as short as can be.
func noNumbers() []string {
	return []string{
		"+0", "+1", "+5", "++1", "-0", "-00", "--1", "-+1", "+-1", "+", "-", "00", "01", "001", "-01", "-001", "000000000000000000000",
		"1_0", "0_1", "_1", "1_", "0x1", "0X1", "x1", "0b1", "0o1", "1h", "1e0", "1e1", "1.0", "1.", ".1", "0.0", "1,", ",1", "1/1", "1*", "*", "0*",
		"a", "A", "B", "N", "X", "x", "one", "nil", "true", "NaN", "Inf", "-Inf", "\"1\"", "'1'", "(1)", "1-", "1+", "1-1", "\u0661", "\uff11", "\xb9", "\u00b9", "1\x00",
		"9223372036854775808", "-9223372036854775809", "09223372036854775807", "+9223372036854775807", "9223372036854775810", "18446744073709551615",
		"18446744073709551616", "18446744073709551617", "-18446744073709551616", "-18446744073709551615", "36893488147419103232",
		"99999999999999999999", "-99999999999999999999", "340282366920938463463374607431768211456", "1" + strings.Repeat("0", 400), "-1" + strings.Repeat("0", 400),
		strings.Repeat("0", 400) + "1",
	}
}

// What is no number, or not as short as can be, in each place of a number.
func TestNoNumbers(t *testing.T) {
	d := busy(t)
	for _, line := range forms() {
		words := strings.Fields(line)
		for i := 1; i < len(words); i++ {
			if strings.Contains(words[i], "*") {
				continue
			}
			for _, s := range noNumbers() {
				other := slices.Clone(words)
				other[i] = s
				refuse(t, d, "what", strings.Join(other, " "))
			}
		}
	}
}

// All numbers of 64 bits are numbers, as they are written as short as can be: a
// line with one is done, though it may tell `no`.
func TestNumbers(t *testing.T) {
	d := busy(t)
	for _, n := range []int{
		math.MinInt, math.MinInt + 1, math.MinInt32 - 1, math.MinInt32, -1000000, -100, -10, -1,
		10, 100, 101, 1000000, math.MaxInt32, math.MaxInt32 + 1, math.MaxUint32 + 1, math.MaxInt - 1, math.MaxInt,
	} {
		refuse(t, d, "no 1", fmt.Sprintf("link %d 1 4", n), fmt.Sprintf("link 0 %d 4", n), fmt.Sprint("tick ", n), fmt.Sprintf("tell %d 0", n),
			fmt.Sprintf("tell 0 %d", n), fmt.Sprint("own * ", n), fmt.Sprint("free * ", n), fmt.Sprint("full ", n), fmt.Sprint("small ", n))
		wantLine(t, d, fmt.Sprint("ways ", n), bare(n, 0)...)
		wantLine(t, d, fmt.Sprintf("letter %d 0", n), "trip -1 0")
		if n < 0 || n >= api.MaxNews {
			refuse(t, d, "no 6", fmt.Sprint("hear ", n), fmt.Sprint("lose ", n), fmt.Sprint("double ", n))
		}
		if n < 0 || n > api.MaxCost {
			refuse(t, d, "no 1", fmt.Sprint("link 0 1 ", n))
		}
	}
	for _, n := range []int{math.MinInt, -1, 256, math.MaxInt} {
		wantLine(t, d, fmt.Sprint("letter 0 ", n), "trip -1 0 0")
	}
	refuse(t, d, "no 1", "tick 9223372036854775807", "tick -9223372036854775808")
}

// noPrefixes are words that no prefix has as its text.
func noPrefixes() []string {
	return []string{
		"0", "1", "2", "01", "0000000", "1111111", "000000000", "00000000*", "11111111*", "**", "0**", "*0", "*1", "0*1", "2*", "0 *", "a*", "-1*", "+1*",
		"0x*", "012*", "0000000a", "0000000 0", "-0000000", "01?", "0.*", "1*x", "x1*", "\"*\"", "\u0661*", "*\x00", "P", strings.Repeat("0", 300), strings.Repeat("0", 300) + "*",
	}
}

// A prefix that is none, with a number behind it that a node has and one that no
// node has; and its words the other way round.
func TestNoPrefixes(t *testing.T) {
	d := busy(t)
	for _, s := range noPrefixes() {
		refuse(t, d, "what", "own "+s+" 0", "free "+s+" 0", "own "+s+" 6", "free "+s+" -1")
	}
	refuse(t, d, "what", "own 0 *", "free 0 *", "own * *", "free * *", "own 0 0", "own 1 01*", "own *0", "free *0")
}

// All prefixes are told as they are read.
func TestAllPrefixes(t *testing.T) {
	d := New()
	for size := range api.Width + 1 {
		for bits := range 1 << size {
			s := prefix.Text(api.Prefix{Len: size, Bits: bits})
			wantTold(t, s, do(t, d, "own "+s+" 4", "full 4", "small 4", "full 0", "free "+s+" 4", "full 4"),
				"ok", "route "+s+" 4", "end", "route "+s+" 4", "end", "route "+s+" -1", "end", "ok", "end")
		}
	}
}

// A `what` among others does nothing, and the others are done all the same.
func TestWhatDoesNothing(t *testing.T) {
	d, same := New(), New()
	for _, line := range script() {
		got := do(t, d, "x", line, line+" x")
		if want := text("what") + do(t, same, line) + text("what"); got != want {
			t.Errorf("%q: %q, want %q", line, got, want)
		}
		wantKnown(t, line, d, known(same))
	}
}

// wantShape holds what was told to its shape: things, each ended by a newline, with
// one blank between words.
func wantShape(t *testing.T, told string) {
	t.Helper()
	number := `(0|-?[1-9][0-9]*)`
	shape := regexp.MustCompile(`^((ok|what|end|no ` + number + `|way( ` + number + `){4}|news( ` + number + `){5}|route [01]{0,8}\*? ` + number +
		`|trip( ` + number + `){2,8})\n)*$`)
	if !shape.MatchString(told) {
		t.Errorf("told: %q", told)
	}
}

// Each thing told is ended by a newline, and has one blank between its words.
func TestShape(t *testing.T) {
	wantShape(t, do(t, New(), script()...))
	d := busy(t)
	for _, line := range slices.Concat(forms(), []string{"letter 9 9", "ways 9", "full 9", "x", "lose 99"}) {
		told := do(t, d, line)
		wantShape(t, told)
		if !strings.HasSuffix(told, "\n") || strings.Contains(told, "\n\n") || strings.Contains(told, " \n") || strings.Contains(told, "  ") {
			t.Errorf("%q: told %q", line, told)
		}
	}
}

// What two Do tell one behind the other one Do of both tells, at each cut.
func TestCuts(t *testing.T) {
	lines := script()
	whole := New()
	want := do(t, whole, lines...)
	for at := range len(lines) + 1 {
		d := New()
		got := do(t, d, lines[:at]...) + do(t, d, lines[at:]...)
		if got != want {
			t.Errorf("cut at %d: %q, want %q", at, got, want)
		}
		wantKnown(t, at, d, known(whole))
	}
	d, got := New(), ""
	for _, line := range lines {
		got += do(t, d, line)
	}
	if got != want {
		t.Errorf("line by line: %q, want %q", got, want)
	}
}

// What is asked again is told again, and asking changes nothing.
func TestAskedAgain(t *testing.T) {
	for _, d := range []*Desk{New(), busy(t), with(t, fill()...)} {
		before := known(d)
		asks := []string{"news", "full 0", "small 1", "ways 2", "letter 0 77", "full 6", "ways 6", "x", "", "news", "letter 6 0"}
		want := do(t, d, asks...)
		for range 3 {
			if got := do(t, d, asks...); got != want {
				t.Errorf("again: %q, want %q", got, want)
			}
		}
		if got := do(t, d, slices.Concat(asks, asks)...); got != want+want {
			t.Errorf("twice: %q, want %q", got, want+want)
		}
		wantKnown(t, "asked", d, before)
	}
}

// Two Desks know nothing of each other, whichever is asked first.
func TestDesksStayApart(t *testing.T) {
	lines := script()
	one, other, late := New(), New(), New()
	want := do(t, New(), lines...)
	got, got2 := "", ""
	for i := range lines {
		got += do(t, one, lines[i])
		if i >= 7 {
			got2 += do(t, other, lines[i-7])
		}
	}
	for _, line := range lines[len(lines)-7:] {
		got2 += do(t, other, line)
	}
	if got != want || got2 != want {
		t.Errorf("two: %q and %q, want %q", got, got2, want)
	}
	wantKnown(t, "late", late, known(New()))
	if got := do(t, late, lines...); got != want {
		t.Errorf("late: %q, want %q", got, want)
	}
}

// Lines that were handed in are not changed, and what lies behind their end is
// neither read nor written.
func TestLinesStay(t *testing.T) {
	lines := append(script(), "tick 0\n", "\n", "x")
	want := slices.Clone(lines)
	d, same := New(), New()
	got := do(t, d, lines[:len(lines)-3]...)
	if !slices.Equal(lines, want) {
		t.Errorf("lines: %q, want %q", lines, want)
	}
	if want := do(t, same, script()...); got != want {
		t.Errorf("told %q, want %q", got, want)
	}
	if _, f := d.Do(lines); f != fault(api.ErrLine, len(lines)-3) || !slices.Equal(lines, want) {
		t.Errorf("with a fault: %v, %q, want %q", f, lines, want)
	}
	wantKnown(t, "behind", d, known(same))
	many := append(times("news", api.MaxLines), "\n", "tick 0")
	if _, f := d.Do(many[:api.MaxLines]); f != (api.Fault{}) {
		t.Errorf("lines behind the end: %v", f)
	}
}

// Who changes lines that were handed in, or lets others stand there, changes
// nothing of what was told, or will be.
func TestLinesAreNotKept(t *testing.T) {
	lines := script()
	d, same := New(), New()
	got, want := do(t, d, lines...), do(t, same, script()...)
	for i := range lines {
		lines[i] = "tick 0"
	}
	if got != want {
		t.Errorf("told %q, want %q", got, want)
	}
	wantKnown(t, "changed", d, known(same))
	if got, want := do(t, d, script()...), do(t, same, script()...); got != want {
		t.Errorf("later: %q, want %q", got, want)
	}
}

// What was told ahead stays, whatever is asked later.
func TestToldStays(t *testing.T) {
	d := busy(t)
	first := do(t, d, "news", "full 0", "ways 1")
	want := strings.Clone(first)
	do(t, d, script()...)
	d.Do([]string{"\n"})
	if first != want {
		t.Errorf("told %q, want %q", first, want)
	}
}

// The same is told of the same lines.
func TestNothingElseCounts(t *testing.T) {
	want := do(t, New(), script()...)
	for range 20 {
		if got := do(t, New(), script()...); got != want {
			t.Fatalf("%q, and %q", got, want)
		}
	}
}

// Of a Desk that New did not make nothing is promised, but no call panics: it is
// asked as a new one, each time.
func TestNoDesk(t *testing.T) {
	for _, d := range []*Desk{nil, {}} {
		for range 2 {
			if got, want := do(t, d, script()...), do(t, New(), script()...); got != want {
				t.Errorf("no desk: %q, want %q", got, want)
			}
		}
		if _, f := d.Do([]string{"", "\n"}); f != fault(api.ErrLine, 1) {
			t.Errorf("no desk: %v", f)
		}
		if _, f := d.Do(times("", api.MaxLines+1)); f != fault(api.ErrMany, -1) {
			t.Errorf("no desk: %v", f)
		}
	}
}

// model is the chapter's point once more, on a Post of its own: lines are matched
// as a whole, and numbers are read without bounds.
type model struct {
	post *fib.Post
}

// rows are the chapter's lines, by their words.
func rows() map[string]*regexp.Regexp {
	list := map[string]*regexp.Regexp{}
	for _, row := range []string{
		"link A B N", "tick A", "tell A B", "hear N", "lose N", "double N", "own P A", "free P A", "ways A", "news", "full A", "small A", "letter A X",
	} {
		words := strings.Fields(row)
		for i, w := range words[1:] {
			words[i+1] = `(0|-?[1-9][0-9]*)`
			if w == "P" {
				words[i+1] = `([01]{8}|[01]{0,7}\*)`
			}
		}
		list[strings.Fields(row)[0]] = regexp.MustCompile(`\A *` + strings.Join(words, ` +`) + ` *\z`)
	}
	return list
}

// kinds are the steps of those lines that do one.
var kinds = map[string]int{
	"link": api.SLink, "tick": api.STick, "tell": api.STell, "hear": api.SHear, "lose": api.SLose, "double": api.SDouble, "own": api.SOwn, "free": api.SOwn,
}

// line tells what a line tells.
func (m model) line(line string, table map[string]*regexp.Regexp) string {
	if strings.Trim(line, " ") == "" {
		return ""
	}
	for word, row := range table {
		if got := row.FindStringSubmatch(line); got != nil {
			return m.row(word, got[1:])
		}
	}
	return "what\n"
}

// row tells what a line of the table tells, by its word and those behind it.
func (m model) row(word string, words []string) string {
	p := api.Prefix{}
	if word == "own" || word == "free" {
		p, _ = prefix.Parse(words[0])
		words = words[1:]
	}
	var n []int
	for _, w := range words {
		x, _ := new(big.Int).SetString(w, 10)
		if !x.IsInt64() {
			return "what\n"
		}
		n = append(n, int(x.Int64()))
	}
	s := ""
	switch word {
	case "ways":
		for to := range api.MaxNodes {
			x := m.post.Way(n[0], to)
			s += fmt.Sprintf("way %d %d %d %d\n", to, x.Seq, x.Dist, x.Hop)
		}
		return s
	case "news":
		for _, x := range m.post.News() {
			s += fmt.Sprintf("news %d %d %d %d %d\n", x.From, x.For, x.To, x.Seq, x.Dist)
		}
		return s + "end\n"
	case "full":
		return tableText(m.post.Full(n[0]))
	case "small":
		return tableText(m.post.Small(n[0]))
	case "letter":
		x := walk.New(m.post, true).Go(n[0], n[1])
		return strings.TrimRight(fmt.Sprintf("trip %d %d %s", x.End, x.Cost, strings.Trim(fmt.Sprint(x.Nodes), "[]")), " ") + "\n"
	}
	if code := m.post.Do(stepOf(word, p, n)); code != 0 {
		return fmt.Sprintf("no %d\n", code)
	}
	return "ok\n"
}

// stepOf is the step of a line.
func stepOf(word string, p api.Prefix, n []int) api.Step {
	x := api.Step{Kind: kinds[word], P: p}
	switch word {
	case "link":
		x.A, x.B, x.N = n[0], n[1], n[2]
	case "tell":
		x.A, x.B = n[0], n[1]
	case "hear", "lose", "double":
		x.N = n[0]
	case "own":
		x.A, x.N = n[0], 1
	default:
		x.A = n[0]
	}
	return x
}

// tableText is what a table tells.
func tableText(x *table.Table) string {
	if x == nil {
		return "no 1\n"
	}
	s := ""
	for _, r := range x.List() {
		s += fmt.Sprintf("route %s %d\n", prefix.Text(r.P), r.Hop)
	}
	return s + "end\n"
}

// randomLine is one that can mostly be done where so many news are on their way.
func randomLine(r *rand.Rand, count int) string {
	a, b := r.Intn(api.MaxNodes), r.Intn(api.MaxNodes)
	place := r.Intn(max(count, 1))
	size := r.Intn(api.Width + 1)
	p := prefix.Text(api.Prefix{Len: size, Bits: r.Intn(1 << size)})
	switch r.Intn(20) {
	case 0, 1, 2:
		return fmt.Sprint("link ", a, " ", b, " ", r.Intn(api.MaxCost+1))
	case 3:
		return fmt.Sprint("tick ", a)
	case 4:
		return fmt.Sprint("tell ", a, " ", b)
	case 5, 6, 7, 8, 9:
		return fmt.Sprint("hear ", place)
	case 10:
		return fmt.Sprint("lose ", place)
	case 11:
		return fmt.Sprint("double ", place)
	case 12, 13:
		return fmt.Sprint("own ", p, " ", a)
	case 14:
		return fmt.Sprint("free ", p, " ", a)
	case 15:
		return fmt.Sprint("ways ", a)
	case 16:
		return "news"
	case 17:
		return fmt.Sprint("full ", a)
	case 18:
		return fmt.Sprint("small ", a)
	}
	return fmt.Sprint("letter ", a, " ", r.Intn(256))
}

// spoilt is a line with a word that is another one, or with a byte more, less or
// another; no newline.
func spoilt(r *rand.Rand, line string) string {
	words := strings.Fields(line)
	list := slices.Concat(noNumbers(), noPrefixes(), forms(), []string{"6", "-1", "200", "9223372036854775807", "-9223372036854775808", "*", "0*"})
	at := r.Intn(len(line) + 1)
	extra := string([]byte{byte(r.Intn(256))})
	if r.Intn(2) == 0 || extra == "\n" {
		extra = []string{" ", "0", "1", "-", "*", "\t"}[r.Intn(6)]
	}
	switch r.Intn(7) {
	case 6:
		return strings.Repeat(" ", r.Intn(3))
	case 0:
		return line[:at] + extra + line[at:]
	case 1:
		return line[:at] + line[min(at+1, len(line)):]
	case 2:
		return line[:at] + extra + line[min(at+1, len(line)):]
	case 3:
		i := r.Intn(len(words) + 1)
		return strings.Join(slices.Insert(words, i, list[r.Intn(len(list))]), " ")
	}
	words[r.Intn(len(words))] = list[r.Intn(len(list))]
	return strings.Join(words, " ")
}

// Whatever lines are handed in, in whatever order, in as many Do as may be: a
// Desk tells what the chapter says.
func TestRandomLines(t *testing.T) {
	r, table := rand.New(rand.NewSource(10)), rows()
	told := map[string]int{}
	for range 300 {
		d, m := New(), model{fib.New()}
		for range 6 {
			var lines []string
			want := ""
			for range r.Intn(60) {
				line := randomLine(r, len(m.post.News()))
				if r.Intn(5) == 0 {
					line = spoilt(r, line)
				}
				lines = append(lines, line)
				s := m.line(line, table)
				want += s
				first, _, _ := strings.Cut(s, "\n")
				told[strings.TrimRight(first, "-0123456789* ")]++
			}
			if got := do(t, d, lines...); got != want {
				t.Fatalf("%q: told %q, want %q", lines, got, want)
			}
			wantKnown(t, "lines", d, known(&Desk{post: m.post}))
		}
	}
	for _, s := range []string{"ok", "no", "what", "way", "news", "end", "route", "trip", ""} {
		if told[s] < 20 {
			t.Errorf("%q was told %d times alone: the lines try too little", s, told[s])
		}
	}
}

// Lines of bytes drawn at random: no call panics, and all ends.
func TestRandomBytes(t *testing.T) {
	r, table := rand.New(rand.NewSource(11)), rows()
	d, m := New(), model{fib.New()}
	bytes := []byte("  01-*+\t\x00\xff\xa0newstickA")
	for range 20000 {
		line := make([]byte, r.Intn(12))
		for i := range line {
			line[i] = bytes[r.Intn(len(bytes))]
		}
		if got, want := do(t, d, string(line)), m.line(string(line), table); got != want {
			t.Fatalf("%q: told %q, want %q", line, got, want)
		}
	}
	long := []string{strings.Repeat("x", 1<<20), strings.Repeat("1", 1<<20), strings.Repeat("x ", 1<<20), "tick " + strings.Repeat("1", 1<<20), "own " + strings.Repeat("0", 1<<20) + "* 1", strings.Repeat("tick 0 ", 1<<18)}
	wantTold(t, "long", do(t, d, long...), times("what", len(long))...)
}

package prefix

import (
	"fmt"
	"math"
	"strings"
	"testing"

	"handpost/api"
)

// bitsOf writes the bits of a number by the library, so that the tests reckon
// with texts where the package reckons with shifts.
func bitsOf(size, bits int) string {
	if size == 0 {
		return ""
	}
	return fmt.Sprintf("%0*b", size, bits)
}

// textOf is the text that a prefix is to have.
func textOf(p api.Prefix) string {
	if p.Len == api.Width {
		return bitsOf(p.Len, p.Bits)
	}
	return bitsOf(p.Len, p.Bits) + "*"
}

// all makes every prefix there is.
func all() []api.Prefix {
	var list []api.Prefix
	for size := 0; size <= api.Width; size++ {
		for bits := 0; bits < 1<<size; bits++ {
			list = append(list, api.Prefix{Len: size, Bits: bits})
		}
	}
	return list
}

// wrongNumbers are those that are neither a Len, nor an address, nor a bit.
func wrongNumbers() []int {
	list := []int{math.MinInt, math.MinInt + 1, math.MinInt32, -1 << 8, -9, -2, -1}
	return append(list, 1<<8, 1<<8+1, 1<<16, 1<<31, 1<<32, 1<<32+1, math.MaxInt-1, math.MaxInt)
}

// wrong makes what is no prefix.
func wrong() []api.Prefix {
	var list []api.Prefix
	for _, n := range append(wrongNumbers(), api.Width+1, 2*api.Width, 62, 63, 64, 65) {
		for _, bits := range []int{0, 1, 5, -1, n, math.MinInt, math.MaxInt} {
			list = append(list, api.Prefix{Len: n, Bits: bits})
		}
	}
	for size := 0; size <= api.Width; size++ {
		for _, bits := range append(wrongNumbers(), 1<<size, 1<<size+1, 1<<(size+1)) {
			list = append(list, api.Prefix{Len: size, Bits: bits})
		}
	}
	return list
}

// addressesOf finds a prefix's addresses by the chapter's words: those whose
// first bits are its bits.
func addressesOf(p api.Prefix) []bool {
	has := make([]bool, 1<<api.Width)
	for a := range has {
		has[a] = strings.HasPrefix(bitsOf(api.Width, a), bitsOf(p.Len, p.Bits))
	}
	return has
}

func TestCheck(t *testing.T) {
	list := all()
	if len(list) != 511 {
		t.Fatalf("%d prefixes, want 511", len(list))
	}
	for _, p := range list {
		if !Check(p) {
			t.Errorf("Check(%v): false", p)
		}
	}
	for _, p := range wrong() {
		if Check(p) {
			t.Errorf("Check(%v): true", p)
		}
	}
}

func TestAddress(t *testing.T) {
	for a := -300; a <= 600; a++ {
		if got, want := Address(a), a >= 0 && a <= 255; got != want {
			t.Errorf("Address(%d): %v", a, got)
		}
	}
	for _, a := range wrongNumbers() {
		if Address(a) {
			t.Errorf("Address(%d): true", a)
		}
	}
}

func TestAddressesOfPrefix(t *testing.T) {
	for _, p := range all() {
		first, last := -1, -1
		for a, want := range addressesOf(p) {
			if got := Has(p, a); got != want {
				t.Errorf("Has(%v, %d): %v", p, a, got)
			}
			if want && first < 0 {
				first = a
			}
			if want {
				last = a
			}
		}
		if First(p) != first || Last(p) != last {
			t.Errorf("%v: from %d to %d, want from %d to %d", p, First(p), Last(p), first, last)
		}
	}
}

func TestAddressesAtTheEdges(t *testing.T) {
	rows := []struct {
		p           api.Prefix
		first, last int
	}{
		{api.Prefix{}, 0, 255},
		{api.Prefix{Len: 1, Bits: 0}, 0, 127},
		{api.Prefix{Len: 1, Bits: 1}, 128, 255},
		{api.Prefix{Len: 2, Bits: 1}, 64, 127},
		{api.Prefix{Len: 7, Bits: 127}, 254, 255},
		{api.Prefix{Len: 8, Bits: 0}, 0, 0},
		{api.Prefix{Len: 8, Bits: 255}, 255, 255},
	}
	for _, r := range rows {
		if First(r.p) != r.first || Last(r.p) != r.last {
			t.Errorf("%v: from %d to %d, want from %d to %d", r.p, First(r.p), Last(r.p), r.first, r.last)
		}
		if !Has(r.p, r.first) || !Has(r.p, r.last) || Has(r.p, r.first-1) || Has(r.p, r.last+1) {
			t.Errorf("%v: Has is wrong at its first or last address", r.p)
		}
	}
}

func TestAddressesOfWrongInputs(t *testing.T) {
	for _, p := range wrong() {
		if First(p) != -1 || Last(p) != -1 {
			t.Errorf("%v: from %d to %d, want -1 and -1", p, First(p), Last(p))
		}
		for a := -2; a <= 1<<api.Width; a++ {
			if Has(p, a) {
				t.Errorf("Has(%v, %d): true", p, a)
			}
		}
	}
	for _, a := range wrongNumbers() {
		for _, p := range append(all(), wrong()...) {
			if Has(p, a) {
				t.Errorf("Has(%v, %d): true", p, a)
			}
		}
	}
}

func TestCovers(t *testing.T) {
	list := all()
	sets := make([][]bool, len(list))
	for i, p := range list {
		sets[i] = addressesOf(p)
	}
	for i, p := range list {
		for k, q := range list {
			if got, want := Covers(p, q), hasAll(sets[i], sets[k]); got != want {
				t.Errorf("Covers(%v, %v): %v", p, q, got)
			}
		}
	}
}

// hasAll tells whether one set of addresses has all of another one.
func hasAll(set, other []bool) bool {
	for a := range other {
		if other[a] && !set[a] {
			return false
		}
	}
	return true
}

func TestCoversRows(t *testing.T) {
	rows := []struct {
		p, q string
		want bool
	}{
		{"*", "*", true},
		{"*", "11111111", true},
		{"11111111", "*", false},
		{"01*", "011*", true},
		{"011*", "01*", false},
		{"01*", "10*", false},
		{"00000000", "00000000", true},
		{"00000000", "00000001", false},
	}
	for _, r := range rows {
		p, _ := Parse(r.p)
		q, _ := Parse(r.q)
		if got := Covers(p, q); got != r.want {
			t.Errorf("Covers(%s, %s): %v", r.p, r.q, got)
		}
	}
}

func TestCoversOfWrongInputs(t *testing.T) {
	list := wrong()
	for _, p := range list {
		for _, q := range append(all(), list...) {
			if Covers(p, q) || Covers(q, p) {
				t.Errorf("Covers of %v and %v: true", p, q)
			}
		}
	}
}

func TestChild(t *testing.T) {
	for _, p := range all() {
		for bit := 0; bit <= 1; bit++ {
			q, ok := Child(p, bit)
			if p.Len == api.Width {
				if ok || q != (api.Prefix{}) {
					t.Errorf("Child(%v, %d): %v, %v", p, bit, q, ok)
				}
				continue
			}
			if !ok || q.Len != p.Len+1 || bitsOf(q.Len, q.Bits) != bitsOf(p.Len, p.Bits)+fmt.Sprint(bit) {
				t.Errorf("Child(%v, %d): %v, %v", p, bit, q, ok)
			}
		}
	}
}

func TestChildOfWrongInputs(t *testing.T) {
	for _, bit := range append(wrongNumbers(), 2, 3) {
		for _, p := range append(all(), wrong()...) {
			if q, ok := Child(p, bit); ok || q != (api.Prefix{}) {
				t.Errorf("Child(%v, %d): %v, %v", p, bit, q, ok)
			}
		}
	}
	for _, p := range wrong() {
		for bit := 0; bit <= 1; bit++ {
			if q, ok := Child(p, bit); ok || q != (api.Prefix{}) {
				t.Errorf("Child(%v, %d): %v, %v", p, bit, q, ok)
			}
		}
	}
}

func TestParent(t *testing.T) {
	for _, p := range all() {
		q, ok := Parent(p)
		if p.Len == 0 {
			if ok || q != (api.Prefix{}) {
				t.Errorf("Parent(%v): %v, %v", p, q, ok)
			}
			continue
		}
		if !ok || q.Len != p.Len-1 || bitsOf(q.Len, q.Bits) != bitsOf(p.Len, p.Bits)[:p.Len-1] {
			t.Errorf("Parent(%v): %v, %v", p, q, ok)
		}
	}
	for _, p := range wrong() {
		if q, ok := Parent(p); ok || q != (api.Prefix{}) {
			t.Errorf("Parent(%v): %v, %v", p, q, ok)
		}
	}
}

// P1.1
func TestLess(t *testing.T) {
	list := all()
	for _, p := range list {
		for _, q := range list {
			// Texts of one length stand in the order of their numbers.
			a, b := fill(p), fill(q)
			want := a < b || (a == b && p.Len < q.Len)
			if got := Less(p, q); got != want {
				t.Errorf("Less(%v, %v): %v", p, q, got)
			}
		}
	}
}

// fill writes the lowest address of a prefix: its bits, and then zeros.
func fill(p api.Prefix) string {
	return (bitsOf(p.Len, p.Bits) + strings.Repeat("0", api.Width))[:api.Width]
}

// P1.1
func TestLessRows(t *testing.T) {
	// In order, each ahead of all that follow.
	texts := []string{"*", "0*", "00000000", "00000001", "0000001*", "01*", "011*", "01100000", "1*", "10*", "1111111*", "11111111"}
	for i := range texts {
		for k := range texts {
			p, _ := Parse(texts[i])
			q, _ := Parse(texts[k])
			if got := Less(p, q); got != (i < k) {
				t.Errorf("Less(%s, %s): %v", texts[i], texts[k], got)
			}
		}
	}
}

// P1.1: of what is no prefix First is -1.
func TestLessOfWrongInputs(t *testing.T) {
	list := wrong()
	for _, p := range list {
		for _, q := range all() {
			if !Less(p, q) || Less(q, p) {
				t.Errorf("%v is no prefix, but not ahead of %v", p, q)
			}
		}
		for _, q := range list {
			if got, want := Less(p, q), p.Len < q.Len; got != want {
				t.Errorf("Less(%v, %v): %v", p, q, got)
			}
		}
	}
}

func TestText(t *testing.T) {
	for _, p := range all() {
		if got, want := Text(p), textOf(p); got != want {
			t.Errorf("Text(%v): %q, want %q", p, got, want)
		}
	}
	for _, p := range wrong() {
		if got := Text(p); got != "" {
			t.Errorf("Text(%v): %q", p, got)
		}
	}
}

func TestTextRows(t *testing.T) {
	rows := []struct {
		p    api.Prefix
		text string
	}{
		{api.Prefix{}, "*"},
		{api.Prefix{Len: 1, Bits: 0}, "0*"},
		{api.Prefix{Len: 3, Bits: 6}, "110*"},
		{api.Prefix{Len: 7, Bits: 1}, "0000001*"},
		{api.Prefix{Len: 8, Bits: 0}, "00000000"},
		{api.Prefix{Len: 8, Bits: 5}, "00000101"},
		{api.Prefix{Len: 8, Bits: 255}, "11111111"},
	}
	for _, r := range rows {
		if got := Text(r.p); got != r.text {
			t.Errorf("Text(%v): %q, want %q", r.p, got, r.text)
		}
		if got, ok := Parse(r.text); !ok || got != r.p {
			t.Errorf("Parse(%q): %v, %v, want %v", r.text, got, ok, r.p)
		}
	}
}

// parses holds Parse of one text against the texts that prefixes have.
func parses(t *testing.T, known map[string]api.Prefix, s string) {
	t.Helper()
	want, is := known[s]
	if got, ok := Parse(s); ok != is || got != want {
		t.Errorf("Parse(%q): %v, %v, want %v, %v", s, got, ok, want, is)
	}
}

// knownTexts are the texts that prefixes have.
func knownTexts() map[string]api.Prefix {
	known := map[string]api.Prefix{}
	for _, p := range all() {
		known[textOf(p)] = p
	}
	return known
}

func TestParseOfAllShortTexts(t *testing.T) {
	known := knownTexts()
	texts := []string{""}
	for size := 0; size <= api.Width+2; size++ {
		var longer []string
		for _, s := range texts {
			parses(t, known, s)
			longer = append(longer, s+"0", s+"1", s+"*")
		}
		texts = longer
	}
}

func TestParseOfOtherBytes(t *testing.T) {
	known := knownTexts()
	for _, s := range []string{"*", "0*", "01*", "0110011*", "01100110"} {
		for at := 0; at <= len(s); at++ {
			for b := 0; b < 256; b++ {
				parses(t, known, s[:at]+string([]byte{byte(b)})+s[at:])
				if at < len(s) {
					parses(t, known, s[:at]+string([]byte{byte(b)})+s[at+1:])
				}
			}
		}
	}
}

func TestParseOfWrongTexts(t *testing.T) {
	texts := []string{"", " ", "01", "0000000", "000000000", "00000000*", "000000000*", "2*", "0**", "**", "*0", "01010101 ", " 01*", "01* ", "+1*", "-1*", "0b1*", "01_0*", "\x00*", "٠*", "０*", "0\n*", "01*\n"}
	for _, size := range []int{255, 256, 257, 1 << 16} {
		zeros := strings.Repeat("0", size)
		texts = append(texts, zeros, zeros+"*", strings.Repeat("*", size))
	}
	for _, s := range texts {
		if p, ok := Parse(s); ok || p != (api.Prefix{}) {
			t.Errorf("Parse of %.20q: %v, %v", s, p, ok)
		}
	}
}

// P1: what is answered hangs on the arguments alone.
func TestSameAnswersAgain(t *testing.T) {
	tell := func() string {
		var told strings.Builder
		for _, p := range append(all(), wrong()...) {
			low, isLow := Child(p, 0)
			up, isUp := Parent(p)
			parsed, isParsed := Parse(Text(p))
			fmt.Fprintln(&told, Check(p), First(p), Last(p), Has(p, 77), low, isLow, up, isUp, Text(p), parsed, isParsed)
		}
		return told.String()
	}
	if tell() != tell() {
		t.Error("two answers to the same are not the same")
	}
}

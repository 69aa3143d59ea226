// Package prefix: see doc/01-prefix.md.
package prefix

import (
	"handpost/api"
)

// Check tells whether p is a prefix.
func Check(p api.Prefix) bool {
	// Len is asked ahead of Bits, for a shift by a number below 0 would panic.
	return 0 <= p.Len && p.Len <= api.Width && 0 <= p.Bits && p.Bits < 1<<p.Len
}

// Address tells whether a is an address.
func Address(a int) bool {
	return 0 <= a && a < 1<<api.Width
}

// First tells the lowest address of p; -1: it is no prefix.
func First(p api.Prefix) int {
	if !Check(p) {
		return -1
	}
	return p.Bits << (api.Width - p.Len)
}

// Last tells the greatest address of p; -1: it is no prefix.
func Last(p api.Prefix) int {
	if !Check(p) {
		return -1
	}
	return (p.Bits+1)<<(api.Width-p.Len) - 1
}

// Has tells whether a is one of p's addresses.
func Has(p api.Prefix, a int) bool {
	return Check(p) && Address(a) && a>>(api.Width-p.Len) == p.Bits
}

// Covers tells whether p has all addresses of q.
func Covers(p, q api.Prefix) bool {
	return Check(p) && Check(q) && p.Len <= q.Len && q.Bits>>(q.Len-p.Len) == p.Bits
}

// Child tells the prefix of one bit more; false: there is none.
func Child(p api.Prefix, bit int) (api.Prefix, bool) {
	if !Check(p) || p.Len == api.Width || (bit != 0 && bit != 1) {
		return api.Prefix{}, false
	}
	return api.Prefix{Len: p.Len + 1, Bits: p.Bits<<1 | bit}, true
}

// Parent tells the prefix of one bit less; false: there is none.
func Parent(p api.Prefix) (api.Prefix, bool) {
	if !Check(p) || p.Len == 0 {
		return api.Prefix{}, false
	}
	return api.Prefix{Len: p.Len - 1, Bits: p.Bits >> 1}, true
}

// Less tells whether p stands ahead of q. Of what is no prefix First is -1, so
// that it stands ahead of all prefixes, and by Len among its like.
func Less(p, q api.Prefix) bool {
	a, b := First(p), First(q)
	return a < b || (a == b && p.Len < q.Len)
}

// Text tells the bits of p, with a * behind them if they are fewer than Width;
// "": it is no prefix.
func Text(p api.Prefix) string {
	if !Check(p) {
		return ""
	}
	text := make([]byte, 0, api.Width)
	for i := p.Len - 1; i >= 0; i-- {
		text = append(text, '0'+byte(p.Bits>>i&1))
	}
	if p.Len < api.Width {
		text = append(text, '*')
	}
	return string(text)
}

// Parse tells the prefix that has the text s; false: none has.
func Parse(s string) (api.Prefix, bool) {
	size, ok := bitCount(s)
	if !ok {
		return api.Prefix{}, false
	}
	p := api.Prefix{Len: size}
	for i := range size {
		if s[i] != '0' && s[i] != '1' {
			return api.Prefix{}, false
		}
		p.Bits = p.Bits<<1 | int(s[i]-'0')
	}
	return p, true
}

// bitCount tells how many bytes of s are to be bits; false: no text is so long,
// or it lacks its *.
func bitCount(s string) (int, bool) {
	if len(s) == api.Width && s[len(s)-1] != '*' {
		return api.Width, true
	}
	if 0 < len(s) && len(s) <= api.Width && s[len(s)-1] == '*' {
		return len(s) - 1, true
	}
	return 0, false
}

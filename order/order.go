// Package order tells in which order keys and messages stand.
package order

import (
	"cmp"

	"poste/api"
)

// Keys answers -1, 0 or 1: a is ahead of b, is b, is behind b, byte by byte.
func Keys(a, b string) int { return cmp.Compare(a, b) }

// Msgs answers as Keys does, by Pri and then by Id. The numbers are compared,
// not subtracted: a difference of far ends would wrap round.
func Msgs(a, b api.Msg) int {
	if byPri := cmp.Compare(a.Pri, b.Pri); byPri != 0 {
		return byPri
	}
	return cmp.Compare(a.Id, b.Id)
}

// Next answers the first key behind k: a beginning is ahead of what is longer,
// and no byte is less than 0, so nothing fits between the two.
func Next(k string) string { return k + "\x00" }

// In tells whether k is from from up to to, not with it. An empty to stands
// for the end of all keys, as no key could be ahead of the empty one.
func In(k, from, to string) bool {
	if Keys(k, from) < 0 {
		return false
	}
	return to == "" || Keys(k, to) < 0
}

package locks

import (
	"cmp"

	"poste/api"
)

// Depths of names: that of the store, of an object, and of a row of one.
const (
	deepStore = iota
	deepObject
	deepRow
)

// known answers the name that n stands for: n without what is not looked at;
// false: nothing is so deep.
func known(n api.Name) (api.Name, bool) {
	switch n.Deep {
	case deepStore:
		return api.Name{Deep: deepStore}, true
	case deepObject:
		return api.Name{Deep: deepObject, Object: n.Object}, true
	case deepRow:
		return n, true
	}
	return api.Name{}, false
}

// compare tells the order of two names: -1, 0, 1.
func compare(a, b api.Name) int {
	return cmp.Or(cmp.Compare(a.Deep, b.Deep), cmp.Compare(a.Object, b.Object), cmp.Compare(a.Row, b.Row))
}

package tree

import (
	"slices"

	"poste/api"
	"poste/node"
	"poste/order"
)

// part is a leaf or an inner node, with all that is below it. No part is ever
// changed: put, cut and join answer new ones, which share what stayed.
type part interface {
	first() string
	rows() int
	height() int
	over() bool
	under() bool

	get(key string) (string, bool)
	from(key string, take func(api.Row) bool) bool
	put(r api.Row) []part
	cut(key string) part
	join(next part) []part
}

// common is what a leaf and an inner node have in common. It is worked out once,
// as a part is made.
type common struct {
	least string // the first Key below
	width int    // how many rows or kids it has
	count int    // how many rows are below
	level int    // 1: a leaf
}

func (c *common) first() string { return c.least }

func (c *common) rows() int { return c.count }

func (c *common) height() int { return c.level }

// over tells whether there are more rows or kids than one may have.
func (c *common) over() bool { return c.width > api.Fan }

// under tells whether there are fewer than one that is not the root may have.
func (c *common) under() bool { return c.width < api.Fan/2 }

// leaf has rows, rising.
type leaf struct {
	common
	list []api.Row
}

func newLeaf(list []api.Row) *leaf {
	l := &leaf{common{width: len(list), count: len(list), level: 1}, list}
	if len(list) > 0 {
		l.least = list[0].Key
	}
	return l
}

// leaves answers one leaf of these rows, or two of their halves if it is over.
func leaves(list []api.Row) []part {
	whole := newLeaf(list)
	if !whole.over() {
		return []part{whole}
	}
	ahead, behind := node.Halves(list)
	return []part{newLeaf(ahead), newLeaf(behind)}
}

func (l *leaf) get(key string) (string, bool) {
	at, found := node.Find(l.list, key)
	if !found {
		return "", false
	}
	return l.list[at].Value, true
}

// from hands its rows to take, from the first whose Key is not ahead of key on,
// as long as take says true; false: it said false.
func (l *leaf) from(key string, take func(api.Row) bool) bool {
	at, _ := node.Find(l.list, key)
	for _, r := range l.list[at:] {
		if !take(r) {
			return false
		}
	}
	return true
}

// put answers what it is with r: one part, or two.
func (l *leaf) put(r api.Row) []part { return leaves(node.Put(l.list, r)) }

// cut answers what it is without the row of that key; it may be under.
func (l *leaf) cut(key string) part {
	rest, _ := node.Cut(l.list, key)
	return newLeaf(rest)
}

// join answers what it is with the next part, a leaf like itself: one part, or
// two if one would be over.
func (l *leaf) join(next part) []part {
	return leaves(slices.Concat(l.list, next.(*leaf).list))
}

// inner has kids, rising: the rows of each are behind those of the one ahead of
// it.
type inner struct {
	common
	kids []part
}

func newInner(kids []part) *inner {
	n := &inner{common{least: kids[0].first(), width: len(kids), level: kids[0].height() + 1}, kids}
	for _, kid := range kids {
		n.count += kid.rows()
	}
	return n
}

// inners answers one inner node of these kids, or two of their halves if it is
// over.
func inners(kids []part) []part {
	whole := newInner(kids)
	if !whole.over() {
		return []part{whole}
	}
	half := (len(kids) + 1) / 2
	return []part{newInner(slices.Clone(kids[:half])), newInner(slices.Clone(kids[half:]))}
}

// at answers the place of the kid that has that key or would take it: the last
// one that begins with it or ahead of it, the first one if there is none.
func (n *inner) at(key string) int {
	at := len(n.kids) - 1
	for at > 0 && order.Keys(n.kids[at].first(), key) > 0 {
		at--
	}
	return at
}

// with answers the kids with others in the place of count of them from at on.
func (n *inner) with(at, count int, others ...part) []part {
	return slices.Concat(n.kids[:at], others, n.kids[at+count:])
}

func (n *inner) get(key string) (string, bool) { return n.kids[n.at(key)].get(key) }

// from does as a leaf's does, with all rows below: none is left out by beginning
// with the kid of that key, as those of the kids ahead of it are ahead of key.
func (n *inner) from(key string, take func(api.Row) bool) bool {
	for _, kid := range n.kids[n.at(key):] {
		if !kid.from(key, take) {
			return false
		}
	}
	return true
}

// put answers what it is with r: one part, or two.
func (n *inner) put(r api.Row) []part {
	at := n.at(r.Key)
	return inners(n.with(at, 1, n.kids[at].put(r)...))
}

// cut answers what it is without the row of that key; it may be under. A kid
// that is under is joined with the one ahead of it, the first with the second.
func (n *inner) cut(key string) part {
	at := n.at(key)
	kid := n.kids[at].cut(key)
	switch {
	case !kid.under():
		return newInner(n.with(at, 1, kid))
	case at > 0:
		return newInner(n.with(at-1, 2, n.kids[at-1].join(kid)...))
	}
	return newInner(n.with(0, 2, kid.join(n.kids[1])...))
}

// join answers what it is with the next part, an inner node like itself: one
// part, or two if one would be over.
func (n *inner) join(next part) []part {
	return inners(slices.Concat(n.kids, next.(*inner).kids))
}

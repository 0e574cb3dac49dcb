package state

import (
	"slices"

	"poste/api"
	"poste/effect"
	"poste/message"
	"poste/node"
	"poste/order"
	"poste/queue"
	"poste/rows"
)

// ids are the numbers of the messages that were met so far, in all objects.
type ids map[int]struct{}

// Right tells whether s may be. Each number of a message is met once, in
// whichever lists of whichever objects.
func Right(s api.State) bool {
	if s.Next < 1 || s.Next > api.MaxIds || len(s.Objects) > api.MaxObjects {
		return false
	}
	met := ids{}
	for i, o := range s.Objects {
		if i > 0 && order.Keys(s.Objects[i-1].Name, o.Name) >= 0 {
			return false
		}
		if !rightObject(o) || !met.fresh(o.Msgs, s.Next) || !met.fresh(o.Dead, s.Next) {
			return false
		}
	}
	return true
}

// fresh meets the numbers of these messages, and tells whether each one is below
// next and none was met ahead.
func (met ids) fresh(l []api.Msg, next int) bool {
	for _, m := range l {
		if _, twice := met[m.Id]; twice || m.Id >= next {
			return false
		}
		met[m.Id] = struct{}{}
	}
	return true
}

// rightObject tells whether o may be, but for the numbers of its messages:
// these hang on the other objects, too.
func rightObject(o api.Object) bool {
	if !effect.Right(api.Effect{Kind: api.FMake, Object: o.Name, N: o.Kind, Limit: o.Limit}) {
		return false
	}
	if o.Kind == api.KTable {
		return node.Rises(o.Rows) && all(o.Rows, rows.Right) && len(o.Msgs)+len(o.Dead) == 0
	}
	return len(o.Rows) == 0 &&
		queue.Rises(o.Msgs) && all(o.Msgs, message.Right) &&
		all(o.Dead, message.Right) && all(o.Dead, unclaimed)
}

// unclaimed tells whether nobody has m.
func unclaimed(m api.Msg) bool { return !m.Claimed }

// all tells whether each of l is right.
func all[T any](l []T, right func(T) bool) bool {
	return !slices.ContainsFunc(l, func(one T) bool { return !right(one) })
}

package state

import (
	"slices"

	"poste/api"
	"poste/dead"
	"poste/effect"
	"poste/order"
	"poste/queue"
	"poste/rows"
)

// Apply answers s with all effects done, one behind the other, or the error of
// the first one that can't be done. They are done on a copy, so that none is
// where one fails.
func Apply(s api.State, l ...api.Effect) (api.State, api.Errno) {
	if !Right(s) {
		return api.State{}, api.ErrArg
	}
	own := copied(s)
	for _, e := range l {
		if err := do(&own, e); err != api.OK {
			return api.State{}, err
		}
	}
	return own, api.OK
}

// copied answers s with lists of its own.
func copied(s api.State) api.State {
	s.Objects = slices.Clone(s.Objects)
	for i := range s.Objects {
		o := &s.Objects[i]
		o.Rows = slices.Clone(o.Rows)
		o.Msgs = slices.Clone(o.Msgs)
		o.Dead = slices.Clone(o.Dead)
	}
	return s
}

// do does one effect. Where s was Right ahead of it, s still is behind it: so
// Apply asks for that but once.
func do(s *api.State, e api.Effect) api.Errno {
	if !effect.Right(e) {
		return api.ErrArg
	}
	switch e.Kind {
	case api.FMake:
		return addObject(s, e)
	case api.FNext:
		return setNext(s, e.N)
	}
	at := Find(*s, e.Object)
	if at < 0 {
		return api.ErrName
	}
	if s.Objects[at].Kind != kindFor(e.Kind) {
		return api.ErrKind
	}
	return doWithin(s, &s.Objects[at], e)
}

// kindFor answers of which kind the object of such an effect must be.
func kindFor(kind int) int {
	if kind == api.FPut || kind == api.FDel {
		return api.KTable
	}
	return api.KQueue
}

// doWithin does an effect on o, an object of s that is of the kind for it.
func doWithin(s *api.State, o *api.Object, e api.Effect) api.Errno {
	switch e.Kind {
	case api.FPut:
		o.Rows = rows.Put(o.Rows, api.Row{Key: e.Key, Value: e.Value})
	case api.FDel:
		return cutRow(o, e.Key)
	case api.FAdd:
		return addMsg(s, o, e.Msg)
	case api.FTake:
		return takeMsg(o, e.N)
	case api.FClaim:
		return claimMsg(o, e.N)
	case api.FFree:
		return freeMsg(o, e.N, e.Tried)
	}
	return api.OK
}

// addObject puts a new object in its place.
func addObject(s *api.State, e api.Effect) api.Errno {
	if Find(*s, e.Object) >= 0 {
		return api.ErrTwice
	}
	if len(s.Objects) >= api.MaxObjects {
		return api.ErrLong
	}
	at := 0
	for at < len(s.Objects) && order.Keys(s.Objects[at].Name, e.Object) < 0 {
		at++
	}
	s.Objects = slices.Insert(s.Objects, at, api.Object{Name: e.Object, Kind: e.N, Limit: e.Limit})
	return api.OK
}

// setNext sets the next number of a message, which never goes down: so no
// number is given twice.
func setNext(s *api.State, n int) api.Errno {
	if n < s.Next {
		return api.ErrArg
	}
	s.Next = n
	return api.OK
}

func cutRow(o *api.Object, key string) api.Errno {
	left, found := rows.Cut(o.Rows, key)
	if !found {
		return api.ErrNone
	}
	o.Rows = left
	return api.OK
}

// addMsg puts m among the messages of o. Its number must have been given, and
// be in none of all the queues of s.
func addMsg(s *api.State, o *api.Object, m api.Msg) api.Errno {
	if m.Id >= s.Next || m.Claimed {
		return api.ErrArg
	}
	if has(s, m.Id) {
		return api.ErrTwice
	}
	o.Msgs = queue.Add(o.Msgs, m)
	return api.OK
}

// has tells whether a message of that number is in some object.
func has(s *api.State, id int) bool {
	return slices.ContainsFunc(s.Objects, func(o api.Object) bool { return dead.Where(o, id) != 0 })
}

func takeMsg(o *api.Object, id int) api.Errno {
	left, found := queue.Cut(o.Msgs, id)
	if !found {
		return api.ErrNone
	}
	o.Msgs = left
	return api.OK
}

func claimMsg(o *api.Object, id int) api.Errno {
	if queue.Find(o.Msgs, id) < 0 {
		return api.ErrNone
	}
	claimed, turned := queue.Claim(o.Msgs, id, true)
	if !turned {
		return api.ErrState
	}
	o.Msgs = claimed
	return api.OK
}

func freeMsg(o *api.Object, id int, tried bool) api.Errno {
	freed, found := dead.Free(*o, id, tried)
	if !found {
		return api.ErrNone
	}
	*o = freed
	return api.OK
}

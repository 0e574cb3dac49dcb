package state_test

import (
	"fmt"
	"slices"
	"sort"
	"strings"

	"poste/api"
)

// The effects, each by the fields that its kind has.
func table(o string) api.Effect { return api.Effect{Kind: api.FMake, Object: o, N: api.KTable} }
func queueOf(o string, limit int) api.Effect {
	return api.Effect{Kind: api.FMake, Object: o, N: api.KQueue, Limit: limit}
}
func put(o, key, value string) api.Effect {
	return api.Effect{Kind: api.FPut, Object: o, Key: key, Value: value}
}
func del(o, key string) api.Effect         { return api.Effect{Kind: api.FDel, Object: o, Key: key} }
func add(o string, m api.Msg) api.Effect   { return api.Effect{Kind: api.FAdd, Object: o, Msg: m} }
func take(o string, id int) api.Effect     { return api.Effect{Kind: api.FTake, Object: o, N: id} }
func claim(o string, id int) api.Effect    { return api.Effect{Kind: api.FClaim, Object: o, N: id} }
func giveBack(o string, id int) api.Effect { return api.Effect{Kind: api.FFree, Object: o, N: id} }
func tried(o string, id int) api.Effect {
	return api.Effect{Kind: api.FFree, Object: o, N: id, Tried: true}
}
func next(n int) api.Effect { return api.Effect{Kind: api.FNext, N: n} }

// free and taken are messages that nobody has and that somebody has.
func free(id, pri, retry int) api.Msg {
	return api.Msg{Id: id, Pri: pri, Retry: retry, Corr: fmt.Sprint("c", id), Body: fmt.Sprint("b", id)}
}

func taken(id, pri, retry int) api.Msg {
	m := free(id, pri, retry)
	m.Claimed = true
	return m
}

// msgs, objects, effects and rowsOf are what is handed over, as a list.
func msgs(l ...api.Msg) []api.Msg          { return l }
func objects(l ...api.Object) []api.Object { return l }
func effects(l ...api.Effect) []api.Effect { return l }
func rowsOf(texts ...string) (l []api.Row) {
	for i := 0; i+1 < len(texts); i += 2 {
		l = append(l, api.Row{Key: texts[i], Value: texts[i+1]})
	}
	return l
}

// good is a state that is Right and has some of everything: two queues, two
// tables, and messages in all places in which one may be.
func good() api.State {
	return api.State{Next: 20, Objects: objects(
		api.Object{Name: "a", Kind: api.KTable, Rows: rowsOf("k1", "v1", "k2", "", "k3", "v3")},
		api.Object{
			Name: "b", Kind: api.KQueue, Limit: 2,
			Msgs: msgs(taken(9, -5, 0), free(2, 0, 1), taken(4, 0, 1), taken(7, 0, 7), free(3, 8, 0)),
			Dead: msgs(free(6, 0, 2), free(1, 0, 3)),
		},
		api.Object{Name: "c", Kind: api.KTable},
		api.Object{Name: "d", Kind: api.KQueue, Limit: 1000, Msgs: msgs(taken(8, 0, 999), taken(19, 0, 998))},
		api.Object{Name: "e", Kind: api.KQueue, Limit: 1, Dead: msgs(free(5, 1, 1))},
	)}
}

// deep is a state of its own that says the same.
func deep(s api.State) api.State {
	s.Objects = append([]api.Object(nil), s.Objects...)
	for i := range s.Objects {
		o := &s.Objects[i]
		o.Rows = append([]api.Row(nil), o.Rows...)
		o.Msgs = append([]api.Msg(nil), o.Msgs...)
		o.Dead = append([]api.Msg(nil), o.Dead...)
	}
	return s
}

// turned is the good state with one thing turned.
func turned(turn func(s *api.State)) api.State {
	s := good()
	turn(&s)
	return s
}

func sameObject(a, b api.Object) bool {
	return a.Name == b.Name && a.Kind == b.Kind && a.Limit == b.Limit &&
		slices.Equal(a.Rows, b.Rows) && slices.Equal(a.Msgs, b.Msgs) && slices.Equal(a.Dead, b.Dead)
}

// same tells whether two states say the same, nil and an empty list alike.
func same(a, b api.State) bool {
	return a.Next == b.Next && slices.EqualFunc(a.Objects, b.Objects, sameObject)
}

// behind tells whether m stands behind other, by chapter 1.
func behind(m, other api.Msg) bool {
	if m.Pri == other.Pri {
		return m.Id > other.Id
	}
	return m.Pri > other.Pri
}

func plainMsgRight(m api.Msg) bool {
	return m.Id >= 1 && m.Id <= 1<<40 && m.Pri >= -1000 && m.Pri <= 1000 && m.Retry >= 0 && m.Retry <= 1000 &&
		len(m.Corr) <= 40 && len(m.Body) <= 100
}

func plainTableRight(o api.Object) bool {
	for i, r := range o.Rows {
		if len(r.Key) < 1 || len(r.Key) > 40 || len(r.Value) > 100 {
			return false
		}
		if i > 0 && strings.Compare(o.Rows[i-1].Key, r.Key) >= 0 {
			return false
		}
	}
	return o.Limit == 0 && len(o.Msgs) == 0 && len(o.Dead) == 0
}

func plainQueueRight(o api.Object) bool {
	for i, m := range o.Msgs {
		if !plainMsgRight(m) || i > 0 && !behind(m, o.Msgs[i-1]) {
			return false
		}
	}
	for _, m := range o.Dead {
		if !plainMsgRight(m) || m.Claimed {
			return false
		}
	}
	return o.Limit >= 1 && o.Limit <= 1000 && len(o.Rows) == 0
}

// plainRight is the chapter's sentence on Right, piece by piece.
func plainRight(s api.State) bool {
	if s.Next < 1 || s.Next > 1<<40 || len(s.Objects) > 20 {
		return false
	}
	var all []int
	for i, o := range s.Objects {
		if len(o.Name) < 1 || len(o.Name) > 16 || i > 0 && strings.Compare(s.Objects[i-1].Name, o.Name) >= 0 {
			return false
		}
		if o.Kind == 1 && !plainTableRight(o) || o.Kind == 2 && !plainQueueRight(o) || o.Kind < 1 || o.Kind > 2 {
			return false
		}
		for _, m := range slices.Concat(o.Msgs, o.Dead) {
			if m.Id >= s.Next || slices.Contains(all, m.Id) {
				return false
			}
			all = append(all, m.Id)
		}
	}
	return true
}

func plainFind(s api.State, name string) int {
	for i, o := range s.Objects {
		if o.Name == name {
			return i
		}
	}
	return -1
}

func plainSize(s api.State) int {
	size := 16
	for _, o := range s.Objects {
		size += 50 + len(o.Name) + 20*len(o.Rows) + 60*(len(o.Msgs)+len(o.Dead))
		for _, r := range o.Rows {
			size += len(r.Key + r.Value)
		}
		for _, m := range slices.Concat(o.Dead, o.Msgs) {
			size += len(m.Corr + m.Body)
		}
	}
	return size
}

func plainClaims(s api.State) (l []api.Effect) {
	for _, o := range s.Objects {
		for _, m := range o.Msgs {
			if m.Claimed {
				l = append(l, tried(o.Name, m.Id))
			}
		}
	}
	return l
}

// plainEffectRight is the sentence of P1801 on Right.
func plainEffectRight(e api.Effect) bool {
	name := len(e.Object) >= 1 && len(e.Object) <= 16
	key := len(e.Key) >= 1 && len(e.Key) <= 40
	id := e.N >= 1 && e.N <= 1<<40
	switch e.Kind {
	case 1:
		return name && (e.N == 1 && e == table(e.Object) || e.N == 2 && e.Limit >= 1 && e.Limit <= 1000 && e == queueOf(e.Object, e.Limit))
	case 2:
		return name && key && len(e.Value) <= 100 && e == put(e.Object, e.Key, e.Value)
	case 3:
		return name && key && e == del(e.Object, e.Key)
	case 4:
		return name && plainMsgRight(e.Msg) && e == add(e.Object, e.Msg)
	case 5:
		return name && id && e == take(e.Object, e.N)
	case 6:
		return name && id && e == claim(e.Object, e.N)
	case 7:
		return name && id && (e == tried(e.Object, e.N) || e == giveBack(e.Object, e.N))
	case 8:
		return id && e == next(e.N)
	}
	return false
}

// thing is an object without an order: rows by key, messages by number; only
// what was set aside has an order of its own.
type thing struct {
	kind, limit int
	rows        map[string]string
	msgs        map[int]api.Msg
	dead        []api.Msg
}

// world is a state without an order, as the chapter's words go over it.
type world struct {
	next   int
	things map[string]*thing
}

func newThing(kind, limit int) *thing {
	return &thing{kind: kind, limit: limit, rows: map[string]string{}, msgs: map[int]api.Msg{}}
}

func worldOf(s api.State) *world {
	w := &world{next: s.Next, things: map[string]*thing{}}
	for _, o := range s.Objects {
		t := newThing(o.Kind, o.Limit)
		for _, r := range o.Rows {
			t.rows[r.Key] = r.Value
		}
		for _, m := range o.Msgs {
			t.msgs[m.Id] = m
		}
		t.dead = append(t.dead, o.Dead...)
		w.things[o.Name] = t
	}
	return w
}

// state is the world in its order.
func (w *world) state() api.State {
	s := api.State{Next: w.next}
	for name, t := range w.things {
		o := api.Object{Name: name, Kind: t.kind, Limit: t.limit, Dead: slices.Clone(t.dead)}
		for k, v := range t.rows {
			o.Rows = append(o.Rows, api.Row{Key: k, Value: v})
		}
		for _, m := range t.msgs {
			o.Msgs = append(o.Msgs, m)
		}
		sort.Slice(o.Rows, func(i, j int) bool { return o.Rows[i].Key < o.Rows[j].Key })
		sort.Slice(o.Msgs, func(i, j int) bool { return behind(o.Msgs[j], o.Msgs[i]) })
		s.Objects = append(s.Objects, o)
	}
	sort.Slice(s.Objects, func(i, j int) bool { return s.Objects[i].Name < s.Objects[j].Name })
	return s
}

// has tells whether a message of that number is anywhere.
func (w *world) has(id int) bool {
	for _, t := range w.things {
		if _, ok := t.msgs[id]; ok {
			return true
		}
		for _, m := range t.dead {
			if m.Id == id {
				return true
			}
		}
	}
	return false
}

// do is the chapter's P1902 on one effect.
func (w *world) do(e api.Effect) api.Errno {
	if !plainEffectRight(e) {
		return api.ErrArg
	}
	t := w.things[e.Object]
	switch {
	case e.Kind == 8 && e.N < w.next:
		return api.ErrArg
	case e.Kind == 8:
		w.next = e.N
		return api.OK
	case e.Kind == 1 && t != nil:
		return api.ErrTwice
	case e.Kind == 1 && len(w.things) == 20:
		return api.ErrLong
	case e.Kind == 1:
		w.things[e.Object] = newThing(e.N, e.Limit)
		return api.OK
	case t == nil:
		return api.ErrName
	case (e.Kind <= 3) != (t.kind == 1):
		return api.ErrKind
	case e.Kind == 2:
		t.rows[e.Key] = e.Value
		return api.OK
	case e.Kind == 3:
		_, ok := t.rows[e.Key]
		delete(t.rows, e.Key)
		return noneUnless(ok)
	case e.Kind == 4 && (e.Msg.Id >= w.next || e.Msg.Claimed):
		return api.ErrArg
	case e.Kind == 4 && w.has(e.Msg.Id):
		return api.ErrTwice
	case e.Kind == 4:
		t.msgs[e.Msg.Id] = e.Msg
		return api.OK
	}
	return t.turn(e)
}

// turn does an effect on a message that must be there.
func (t *thing) turn(e api.Effect) api.Errno {
	m, ok := t.msgs[e.N]
	switch {
	case !ok:
		return api.ErrNone
	case e.Kind == 5:
		delete(t.msgs, e.N)
		return api.OK
	case e.Kind == 6 && m.Claimed:
		return api.ErrState
	case e.Kind == 6:
		m.Claimed = true
	case !m.Claimed:
		return api.ErrNone
	default:
		m.Claimed = false
		if e.Tried && m.Retry < 1000 {
			m.Retry++
		}
		if e.Tried && m.Retry >= t.limit {
			delete(t.msgs, e.N)
			t.dead = append(t.dead, m)
			return api.OK
		}
	}
	t.msgs[e.N] = m
	return api.OK
}

func noneUnless(ok bool) api.Errno {
	if !ok {
		return api.ErrNone
	}
	return api.OK
}

// plainApply is P1902: all, or none.
func plainApply(s api.State, l ...api.Effect) (api.State, api.Errno) {
	if !plainRight(s) {
		return api.State{}, api.ErrArg
	}
	w := worldOf(s)
	for _, e := range l {
		if err := w.do(e); err != api.OK {
			return api.State{}, err
		}
	}
	return w.state(), api.OK
}

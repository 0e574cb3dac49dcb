package image_test

import (
	"fmt"
	"math/rand"
	"slices"
	"sort"
	"strings"

	"poste/api"
	"poste/image"
	"poste/state"
)

// piece is one Int, Text or Flag of an image; kind tells which, and "count" an
// Int that tells how many there are.
type piece struct{ kind, text string }

// anInt is a number as chapter 2 spells it.
func anInt(n int) string {
	b := make([]byte, 8)
	for i := range b {
		b[i] = byte(uint64(n) >> (8 * i))
	}
	return string(b)
}

// aText is a text as chapter 2 spells it.
func aText(s string) string {
	return string([]byte{byte(len(s) % 256), byte(len(s) / 256)}) + s
}

// aFlag is a flag as chapter 2 spells it.
func aFlag(ok bool) string {
	if ok {
		return "\x01"
	}
	return "\x00"
}

// pieces is the chapter's sentence on Bytes, piece by piece: of any state, so
// that one which is not Right is spelled, too.
func pieces(s api.State) []piece {
	l := []piece{{"int", anInt(s.Next)}, {"count", anInt(len(s.Objects))}}
	for _, o := range s.Objects {
		l = append(l, piece{"text", aText(o.Name)}, piece{"int", anInt(o.Kind)}, piece{"int", anInt(o.Limit)}, piece{"count", anInt(len(o.Rows))})
		for _, r := range o.Rows {
			l = append(l, piece{"text", aText(r.Key)}, piece{"text", aText(r.Value)})
		}
		for _, some := range [][]api.Msg{o.Msgs, o.Dead} {
			l = append(l, piece{"count", anInt(len(some))})
			for _, m := range some {
				l = append(l,
					piece{"int", anInt(m.Id)}, piece{"int", anInt(m.Pri)}, piece{"int", anInt(m.Retry)},
					piece{"flag", aFlag(m.Claimed)}, piece{"text", aText(m.Corr)}, piece{"text", aText(m.Body)})
			}
		}
	}
	return l
}

// joined is all pieces, one behind the other.
func joined(l []piece) string {
	var b strings.Builder
	for _, p := range l {
		b.WriteString(p.text)
	}
	return b.String()
}

// spelled is the image of s.
func spelled(s api.State) string { return joined(pieces(s)) }

// teller tells an image's pieces, each cut off its beginning.
type teller struct {
	left string
	bad  bool
}

func (t *teller) cut(n int) string {
	if t.bad || n > len(t.left) {
		t.bad = true
		return strings.Repeat("\x00", n)
	}
	head := t.left[:n]
	t.left = t.left[n:]
	return head
}

func (t *teller) number(size int) int {
	n := uint64(0)
	for i, c := range []byte(t.cut(size)) {
		n += uint64(c) << (8 * i)
	}
	return int(n)
}

func (t *teller) text() string { return t.cut(t.number(2)) }

// count tells how many there are: no more than a byte each is left.
func (t *teller) count() int {
	n := t.number(8)
	if n < 0 || n > len(t.left) {
		t.bad = true
		return 0
	}
	return n
}

func (t *teller) msgs() (l []api.Msg) {
	for range t.count() {
		m := api.Msg{Id: t.number(8), Pri: t.number(8), Retry: t.number(8)}
		claimed := t.number(1)
		m.Claimed, t.bad = claimed == 1, t.bad || claimed > 1
		m.Corr, m.Body = t.text(), t.text()
		if l = append(l, m); t.bad {
			return nil
		}
	}
	return l
}

// plainRead is the chapter's sentence on Read.
func plainRead(b string) (api.State, bool) {
	t := &teller{left: b}
	s := api.State{Next: t.number(8)}
	for range t.count() {
		o := api.Object{Name: t.text(), Kind: t.number(8), Limit: t.number(8)}
		for range t.count() {
			if o.Rows = append(o.Rows, api.Row{Key: t.text(), Value: t.text()}); t.bad {
				return api.State{}, false
			}
		}
		o.Msgs, o.Dead = t.msgs(), t.msgs()
		if s.Objects = append(s.Objects, o); t.bad {
			return api.State{}, false
		}
	}
	if t.bad || t.left != "" || !state.Right(s) {
		return api.State{}, false
	}
	return s, true
}

func sameObject(a, b api.Object) bool {
	return a.Name == b.Name && a.Kind == b.Kind && a.Limit == b.Limit &&
		slices.Equal(a.Rows, b.Rows) && slices.Equal(a.Msgs, b.Msgs) && slices.Equal(a.Dead, b.Dead)
}

// same tells whether two states say the same, nil and an empty list alike.
func same(a, b api.State) bool {
	return a.Next == b.Next && slices.EqualFunc(a.Objects, b.Objects, sameObject)
}

// short is so much of something as an error tells.
func short(what any) string { return fmt.Sprintf("%.400q", fmt.Sprint(what)) }

// refused tells what is wrong where b must be ErrBytes.
func refused(b string) string {
	if s, err := image.Read([]byte(b)); err != api.ErrBytes || s.Next != 0 || len(s.Objects) != 0 {
		return fmt.Sprintf("Read: %s, %d, want ErrBytes", short(s), err)
	}
	return ""
}

// taken tells what is wrong where b must be s.
func taken(b string, s api.State) string {
	if got, err := image.Read([]byte(b)); err != api.OK || !same(got, s) {
		return fmt.Sprintf("Read: %s, %d, want %s", short(got), err, short(s))
	}
	return ""
}

// as tells what is wrong where b must be what the chapter says of it.
func as(b string) (wrong string, right bool) {
	s, right := plainRead(b)
	if right {
		return taken(b, s), true
	}
	return refused(b), false
}

// msgs, objects and rowsOf are what is handed over, as a list.
func msgs(l ...api.Msg) []api.Msg          { return l }
func objects(l ...api.Object) []api.Object { return l }
func rowsOf(texts ...string) (l []api.Row) {
	for i := 0; i+1 < len(texts); i += 2 {
		l = append(l, api.Row{Key: texts[i], Value: texts[i+1]})
	}
	return l
}

// table and queue are objects.
func table(name string, texts ...string) api.Object {
	return api.Object{Name: name, Kind: api.KTable, Rows: rowsOf(texts...)}
}

func queue(name string, limit int, in, dead []api.Msg) api.Object {
	return api.Object{Name: name, Kind: api.KQueue, Limit: limit, Msgs: in, Dead: dead}
}

// msg is a message that nobody has.
func msg(id, pri, retry int) api.Msg {
	return api.Msg{Id: id, Pri: pri, Retry: retry, Corr: fmt.Sprint("c", id), Body: fmt.Sprint("body ", id)}
}

// claimed is a message that somebody has.
func claimed(id, pri, retry int) api.Msg {
	m := msg(id, pri, retry)
	m.Claimed = true
	return m
}

// good is a state that is Right and has some of everything, and each list empty
// somewhere.
func good() api.State {
	return api.State{Next: 300, Objects: objects(
		queue("a", 2, msgs(claimed(9, -5, 0), msg(2, 0, 1), claimed(4, 0, 1), msg(3, 8, 0)), msgs(msg(259, 0, 2), msg(1, 0, 3))),
		table("b", "k1", "v1", "k2", "", "k3", "v3"),
		queue("c", 1000, nil, msgs(msg(5, 1, 1000))),
		table("d"),
		queue("e", 1, msgs(claimed(8, 0, 999), msg(19, 0, 998)), nil),
		queue("f", 7, nil, nil),
	)}
}

// widest is a state of the greatest number of objects, each one with fields at
// their greatest.
func widest() api.State {
	s := api.State{Next: api.MaxIds}
	long := strings.Repeat("\xff", 100)
	for i := range 20 {
		name := string([]byte{byte(i)}) + long[:15]
		id := api.MaxIds - 100 - 10*i
		most := api.Msg{Id: id, Pri: 1000, Retry: 1000, Corr: long[:40], Body: long}
		taken, least := most, api.Msg{Id: id + 1, Pri: -1000}
		taken.Id, taken.Claimed = id+2, true
		if i%2 == 0 {
			s.Objects = append(s.Objects, table(name, "\x00", "", long[:39], "\x00", long[:40], long))
		} else {
			last := most
			last.Id = api.MaxIds - i
			s.Objects = append(s.Objects, queue(name, 1000, msgs(least, most, taken), msgs(last)))
		}
	}
	return s
}

// rightStates are states that are Right, with fields at their edges.
func rightStates() []api.State {
	l := []api.State{good(), widest(), {Next: 1}, {Next: 2}, {Next: 255}, {Next: 256}, {Next: 1 << 32}, {Next: 1<<40 - 1}, {Next: 1 << 40}}
	for _, o := range slices.Concat(good().Objects, objects(
		table("\x00"), table("\xff\xfe\xfd"), table(strings.Repeat("\u00e9", 8)), table("t", "\x00\x00", "\x01", "\xff", "\x00"),
		queue("q", 1, msgs(api.Msg{Id: 1}), nil), queue("q", 1, nil, msgs(api.Msg{Id: 1})),
		queue("q", 1, msgs(api.Msg{Id: 299, Claimed: true}), msgs(api.Msg{Id: 298, Pri: -1}, api.Msg{Id: 1, Pri: 1})),
		queue("q", 256, msgs(api.Msg{Id: 1, Corr: "\x00", Body: "\xc3"}, api.Msg{Id: 2, Retry: 256, Body: "\u00e9"}), nil),
	)) {
		l = append(l, api.State{Next: 300, Objects: objects(o)})
	}
	return l
}

// wrongStates are states that are not Right, each by one thing.
func wrongStates() []api.State {
	l := []api.State{{}, {Next: -1}, {Next: 1<<40 + 1}, {Next: 1 << 62}}
	long := strings.Repeat("x", 101)
	for _, turn := range []func(s *api.State){
		func(s *api.State) { s.Next = 0 },
		func(s *api.State) { s.Next = 259 },
		func(s *api.State) { s.Next = 1<<40 + 1 },
		func(s *api.State) { s.Objects = append(slices.Clone(widest().Objects), table("\xff")) },
		func(s *api.State) { s.Objects[0], s.Objects[1] = s.Objects[1], s.Objects[0] },
		func(s *api.State) { s.Objects[3].Name = "c" },
		func(s *api.State) { s.Objects[0].Name = "" },
		func(s *api.State) { s.Objects[5].Name = "f" + long[:16] },
		func(s *api.State) { s.Objects[3].Kind = 0 },
		func(s *api.State) { s.Objects[3].Kind = 3 },
		func(s *api.State) { s.Objects[3].Kind = 1 << 32 },
		func(s *api.State) { s.Objects[3].Kind = api.KQueue },
		func(s *api.State) { s.Objects[5].Kind = api.KTable },
		func(s *api.State) { s.Objects[5].Kind = -2 },
		func(s *api.State) { s.Objects[3].Limit = 1 },
		func(s *api.State) { s.Objects[5].Limit = 0 },
		func(s *api.State) { s.Objects[5].Limit = 1001 },
		func(s *api.State) { s.Objects[5].Limit = -1 },
		func(s *api.State) { s.Objects[1].Rows[1].Key = "k3" },
		func(s *api.State) { s.Objects[1].Rows[2].Key = "k0" },
		func(s *api.State) { s.Objects[1].Rows[0].Key = "" },
		func(s *api.State) { s.Objects[1].Rows[2].Key = "k" + long[:40] },
		func(s *api.State) { s.Objects[1].Rows[0].Value = long },
		func(s *api.State) { s.Objects[3].Msgs = msgs(msg(10, 0, 0)) },
		func(s *api.State) { s.Objects[3].Dead = msgs(msg(10, 0, 0)) },
		func(s *api.State) { s.Objects[5].Rows = rowsOf("k", "v") },
		func(s *api.State) { s.Objects[0].Msgs[0].Pri = 9 },
		func(s *api.State) { s.Objects[0].Msgs[0].Pri = -1001 },
		func(s *api.State) { s.Objects[0].Msgs[3].Pri = 1001 },
		func(s *api.State) { s.Objects[0].Msgs[1].Id = 4 },
		func(s *api.State) { s.Objects[0].Msgs[1].Id = 0 },
		func(s *api.State) { s.Objects[0].Msgs[3].Id = 9 },
		func(s *api.State) { s.Objects[0].Msgs[3].Id = 300 },
		func(s *api.State) { s.Objects[0].Msgs[1].Retry = -1 },
		func(s *api.State) { s.Objects[0].Msgs[1].Retry = 1001 },
		func(s *api.State) { s.Objects[0].Msgs[1].Corr = long[:41] },
		func(s *api.State) { s.Objects[0].Msgs[1].Body = long },
		func(s *api.State) { s.Objects[0].Dead[1].Claimed = true },
		func(s *api.State) { s.Objects[0].Dead[1].Id = 2 },
		func(s *api.State) { s.Objects[0].Dead[1].Id = 259 },
		func(s *api.State) { s.Objects[0].Dead[1].Id = 300 },
		func(s *api.State) { s.Objects[2].Dead[0].Id = 8 },
		func(s *api.State) { s.Objects[2].Dead[0].Retry = 1001 },
		func(s *api.State) { s.Objects[2].Dead[0].Body = long },
		func(s *api.State) { s.Objects[4].Msgs[1].Id = 259 },
	} {
		s := good()
		turn(&s)
		l = append(l, s)
	}
	return l
}

// textBy is a text by chance, of any bytes.
func textBy(chance *rand.Rand, least, most int) string {
	b := make([]byte, least+chance.Intn(most-least+1))
	for i := range b {
		b[i] = byte(chance.Intn(256))
	}
	return string(b)
}

// msgBy is a message by chance, of that Id.
func msgBy(chance *rand.Rand, id int) api.Msg {
	return api.Msg{
		Id: id, Pri: chance.Intn(2001) - 1000, Retry: chance.Intn(1001),
		Corr: textBy(chance, 0, api.MaxKey), Body: textBy(chance, 0, api.MaxValue),
	}
}

// stateBy is a state by chance that is Right, with lists of at most most.
func stateBy(chance *rand.Rand, most int) api.State {
	var names []string
	for range chance.Intn(api.MaxObjects + 1) {
		names = append(names, textBy(chance, 1, api.MaxName))
	}
	slices.Sort(names)
	s := api.State{}
	id := 0
	for _, name := range slices.Compact(names) {
		o := api.Object{Name: name, Kind: 1 + chance.Intn(2)}
		if o.Kind == api.KQueue {
			o.Limit = 1 + chance.Intn(1000)
			o.Msgs, o.Dead = msgsBy(chance, most, &id), msgsBy(chance, most, &id)
			sort.Slice(o.Msgs, func(i, j int) bool {
				a, b := o.Msgs[i], o.Msgs[j]
				return a.Pri < b.Pri || a.Pri == b.Pri && a.Id < b.Id
			})
			for i := range o.Msgs {
				o.Msgs[i].Claimed = chance.Intn(2) == 0
			}
		} else {
			o.Rows = rowsBy(chance, most)
		}
		s.Objects = append(s.Objects, o)
	}
	s.Next = id + 1 + chance.Intn(1000)
	return s
}

// msgsBy are messages by chance, of Ids behind id, in any order.
func msgsBy(chance *rand.Rand, most int, id *int) (l []api.Msg) {
	for range chance.Intn(most + 1) {
		*id += 1 + chance.Intn(1<<chance.Intn(20))
		l = append(l, msgBy(chance, *id))
	}
	chance.Shuffle(len(l), func(i, j int) { l[i], l[j] = l[j], l[i] })
	return l
}

// rowsBy are rows by chance, rising.
func rowsBy(chance *rand.Rand, most int) (l []api.Row) {
	for range chance.Intn(most + 1) {
		l = append(l, api.Row{Key: textBy(chance, 1, api.MaxKey), Value: textBy(chance, 0, api.MaxValue)})
	}
	sort.Slice(l, func(i, j int) bool { return l[i].Key < l[j].Key })
	return slices.CompactFunc(l, func(a, b api.Row) bool { return a.Key == b.Key })
}

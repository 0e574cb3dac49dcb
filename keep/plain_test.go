package keep_test

import (
	"bytes"
	"encoding/binary"
	"fmt"
	"math/rand"
	"slices"
	"strings"
	"testing"

	"poste/api"
	"poste/effect"
	"poste/image"
	"poste/keep"
	"poste/sectors"
	"poste/state"
)

// Where all lies, as chapters 5, 6 and 21 spell it: two roots, two areas of 96
// sectors, a log of 160.
const (
	areasAt = 2
	areaLen = 96
	logAt   = 194
	logLen  = 160
	need    = 354
)

// most is how many bytes a record may have that an empty log holds.
const most = 159 * 64

// The effects, each by the fields that its kind has.
func table(o string) api.Effect { return api.Effect{Kind: api.FMake, Object: o, N: api.KTable} }
func queueOf(o string, limit int) api.Effect {
	return api.Effect{Kind: api.FMake, Object: o, N: api.KQueue, Limit: limit}
}
func put(o, key, value string) api.Effect {
	return api.Effect{Kind: api.FPut, Object: o, Key: key, Value: value}
}
func del(o, key string) api.Effect { return api.Effect{Kind: api.FDel, Object: o, Key: key} }
func add(o string, id, pri int) api.Effect {
	return api.Effect{Kind: api.FAdd, Object: o, Msg: free(id, pri, 0)}
}
func take(o string, id int) api.Effect     { return api.Effect{Kind: api.FTake, Object: o, N: id} }
func claim(o string, id int) api.Effect    { return api.Effect{Kind: api.FClaim, Object: o, N: id} }
func giveBack(o string, id int) api.Effect { return api.Effect{Kind: api.FFree, Object: o, N: id} }
func tried(o string, id int) api.Effect {
	return api.Effect{Kind: api.FFree, Object: o, N: id, Tried: true}
}
func next(n int) api.Effect { return api.Effect{Kind: api.FNext, N: n} }

// free and taken are messages that nobody has and that somebody has.
func free(id, pri, retry int) api.Msg {
	return api.Msg{Id: id, Pri: pri, Retry: retry, Corr: fmt.Sprint("c", id), Body: fmt.Sprint("b", id)}
}

func taken(id, pri, retry int) api.Msg {
	m := free(id, pri, retry)
	m.Claimed = true
	return m
}

// msgs, objects, effects and runs are what is handed over, as a list.
func msgs(l ...api.Msg) []api.Msg          { return l }
func objects(l ...api.Object) []api.Object { return l }
func effects(l ...api.Effect) []api.Effect { return l }
func runs(l ...[]api.Effect) [][]api.Effect {
	return l
}

// first is the state of a new disk.
func first() api.State { return api.State{Next: 1} }

// good is a state with some of everything, and claims in two queues.
func good() api.State {
	return api.State{Next: 20, Objects: objects(
		api.Object{Name: "a", Kind: api.KTable, Rows: []api.Row{{Key: "k1", Value: "v1"}, {Key: "k2"}, {Key: "k3", Value: "v3"}}},
		api.Object{
			Name: "b", Kind: api.KQueue, Limit: 2,
			Msgs: msgs(taken(9, -5, 0), free(2, 0, 1), taken(4, 0, 1), taken(7, 0, 7), free(3, 8, 0)),
			Dead: msgs(free(6, 0, 2), free(1, 0, 3)),
		},
		api.Object{Name: "c", Kind: api.KTable},
		api.Object{Name: "d", Kind: api.KQueue, Limit: 1000, Msgs: msgs(taken(8, 0, 999), taken(19, 0, 998))},
		api.Object{Name: "e", Kind: api.KQueue, Limit: 1, Dead: msgs(free(5, 1, 1))},
	)}
}

// goodFreed is the good state with each claimed message freed, tried once more,
// spelled out.
func goodFreed() api.State {
	s := good()
	s.Objects[1].Msgs = msgs(free(9, -5, 1), free(2, 0, 1), free(3, 8, 0))
	s.Objects[1].Dead = msgs(free(6, 0, 2), free(1, 0, 3), free(4, 0, 2), free(7, 0, 8))
	s.Objects[3].Msgs = msgs(free(19, 0, 999))
	s.Objects[3].Dead = msgs(free(8, 0, 1000))
	return s
}

func sameObject(a, b api.Object) bool {
	return a.Name == b.Name && a.Kind == b.Kind && a.Limit == b.Limit &&
		slices.Equal(a.Rows, b.Rows) && slices.Equal(a.Msgs, b.Msgs) && slices.Equal(a.Dead, b.Dead)
}

// same tells whether two states say the same, nil and an empty list alike.
func same(a, b api.State) bool {
	return a.Next == b.Next && slices.EqualFunc(a.Objects, b.Objects, sameObject)
}

// applied is s with the effects done, which must go.
func applied(t testing.TB, s api.State, l ...api.Effect) api.State {
	t.Helper()
	got, err := state.Apply(s, l...)
	if err != api.OK {
		t.Fatalf("%+v can't be done: %d", l, err)
	}
	return got
}

// freed is s with each claimed message freed, tried once more.
func freed(s api.State) api.State {
	got, _ := state.Apply(s, state.Claims(s)...)
	return got
}

// root is the sector of a root, byte by byte as the document says.
func root(epoch, n int) []byte { return sector("\x04\x00root", epoch, n) }

// head is the sector of a record's head.
func head(epoch, number, n int) []byte { return sector("\x03\x00rec", epoch, number, n) }

func sector(tag string, l ...int) []byte {
	b := []byte(tag)
	for _, n := range l {
		b = binary.LittleEndian.AppendUint64(b, uint64(n))
	}
	return filled(b)
}

// filled is b with bytes 0 behind, up to whole sectors.
func filled(b []byte) []byte {
	b = slices.Clone(b)
	for len(b)%64 != 0 {
		b = append(b, 0)
	}
	return b
}

// dirt is n sectors that no store has written.
func dirt(n int) []byte { return bytes.Repeat([]byte{0xEE}, n*64) }

// place puts whole sectors into the bytes of a disk.
func place(disk []byte, at int, b []byte) { copy(disk[at*64:], b) }

// placeImage puts an image and its root into the bytes of a disk.
func placeImage(disk []byte, epoch int, b []byte) {
	place(disk, areasAt+epoch&1*areaLen, filled(b))
	place(disk, epoch&1, root(epoch, len(b)))
}

// placeRecords puts records of an epoch into the log of a disk.
func placeRecords(disk []byte, epoch int, l ...[]byte) {
	at := logAt
	for i, b := range l {
		place(disk, at, append(head(epoch, i+1, len(b)), filled(b)...))
		at += 1 + (len(b)+63)/64
	}
}

// disk is a new one with these bytes, all sure.
func disk(t testing.TB, b []byte) *sectors.Disk {
	t.Helper()
	d := sectors.New(len(b) / 64)
	for i := range d.Len() {
		if !d.Write(i, b[i*64:(i+1)*64]) {
			t.Fatalf("sector %d can't be written", i)
		}
	}
	if !d.Sync() {
		t.Fatal("Sync: false")
	}
	return d
}

// all is what is on a disk.
func all(d *sectors.Disk) []byte {
	var b []byte
	for i := range d.Len() {
		b = append(b, d.Read(i)...)
	}
	return b
}

// otherwise tells in which sectors two disks are not the same.
func otherwise(a, b []byte) string {
	if len(a) != len(b) {
		return "another length"
	}
	var l strings.Builder
	for i := 0; i < len(a); i += 64 {
		if !bytes.Equal(a[i:i+64], b[i:i+64]) {
			fmt.Fprintf(&l, "sector %d: %q, want %q; ", i/64, a[i:i+64], b[i:i+64])
		}
	}
	return l.String()
}

// mustOpen opens what must go.
func mustOpen(t testing.TB, d *sectors.Disk) *keep.Store {
	t.Helper()
	s, err := keep.Open(d)
	if err != api.OK || s == nil {
		t.Fatalf("Open: %d", err)
	}
	return s
}

// mustDo does what must go.
func mustDo(t testing.TB, s *keep.Store, l ...api.Effect) {
	t.Helper()
	if err := s.Do(l...); err != api.OK {
		t.Fatalf("Do of %+v: %d", l, err)
	}
}

// tells checks all that a store tells.
func tells(t testing.TB, what string, s *keep.Store, epoch int, want api.State) {
	t.Helper()
	if got := s.State(); !same(got, want) {
		t.Errorf("%s: State: %+v, want %+v", what, got, want)
	}
	if got := s.Epoch(); got != epoch {
		t.Errorf("%s: Epoch: %d, want %d", what, got, epoch)
	}
}

// opensAs opens a disk, and checks all that the store tells.
func opensAs(t testing.TB, what string, d *sectors.Disk, epoch int, want api.State) {
	t.Helper()
	s, err := keep.Open(d)
	if err != api.OK {
		t.Errorf("%s: Open: %d", what, err)
		return
	}
	tells(t, what, s, epoch, want)
}

// plain is a store as the document's words spell it, on bytes of its own that
// are all sure.
type plain struct {
	b            []byte
	s            api.State
	epoch        int
	used, number int // of the log: sectors, records
}

// openPlain opens what lies on the bytes, of which all is as a store has left it.
func openPlain(b []byte) *plain {
	p := &plain{b: b, s: first()}
	for turn := range 2 {
		epoch, n := int(binary.LittleEndian.Uint64(b[turn*64+6:])), int(binary.LittleEndian.Uint64(b[turn*64+14:]))
		if epoch > p.epoch && bytes.Equal(b[turn*64:turn*64+64], root(epoch, n)) {
			p.epoch = epoch
			p.s, _ = image.Read(b[(areasAt+turn*areaLen)*64:][:n])
		}
	}
	for p.used < logLen {
		at := b[(logAt+p.used)*64:]
		n := int(binary.LittleEndian.Uint64(at[21:]))
		if !bytes.Equal(at[:64], head(p.epoch, p.number+1, n)) {
			break
		}
		l, _ := effect.Read(at[64:][:n])
		p.s, _ = state.Apply(p.s, l...)
		p.number++
		p.used += 1 + (n+63)/64
	}
	if len(state.Claims(p.s)) > 0 || p.epoch == 0 {
		p.s = freed(p.s)
		p.renew()
	}
	return p
}

func (p *plain) renew() {
	p.epoch++
	p.used, p.number = 0, 0
	placeImage(p.b, p.epoch, image.Bytes(p.s))
}

// do does the effects on a disk that does not break.
func (p *plain) do(l ...api.Effect) api.Errno {
	s, err := state.Apply(p.s, l...)
	if err != api.OK {
		return err
	}
	b := effect.Bytes(l...)
	if state.Size(s) > 6000 || len(b) > most {
		return api.ErrFull
	}
	if len(l) == 0 {
		return api.OK
	}
	takes := 1 + (len(b)+63)/64
	if p.used+takes > logLen {
		p.renew()
	}
	p.number++
	place(p.b, logAt+p.used, append(head(p.epoch, p.number, len(b)), filled(b)...))
	p.used += takes
	if p.used < logLen {
		place(p.b, logAt+p.used, make([]byte, 64))
	}
	p.s = s
	return api.OK
}

// someEffect is an effect by chance, of which about as many can be done on s as
// not.
func someEffect(chance *rand.Rand, s api.State) api.Effect {
	o := string(rune('a' + chance.Intn(5)))
	id := 1 + chance.Intn(max(s.Next, 2))
	if i := state.Find(s, o); i >= 0 && chance.Intn(3) > 0 && len(s.Objects[i].Msgs) > 0 {
		id = s.Objects[i].Msgs[chance.Intn(len(s.Objects[i].Msgs))].Id
	}
	switch chance.Intn(12) {
	case 0:
		if chance.Intn(2) == 0 {
			return queueOf(o, 1+chance.Intn(3))
		}
		return table(o)
	case 1, 2:
		return put(o, string(rune('k'+chance.Intn(9))), strings.Repeat("v", chance.Intn(101)))
	case 3:
		return del(o, string(rune('k'+chance.Intn(9))))
	case 4, 5, 6:
		return add(o, id, chance.Intn(5)-2)
	case 7:
		return take(o, id)
	case 8:
		return claim(o, id)
	case 9:
		return giveBack(o, id)
	case 10:
		return tried(o, id)
	}
	return next(s.Next + chance.Intn(5) - 1)
}

// someRun is effects by chance: most of these runs can be done, a few are so
// many that they fill a good part of a log, or more than that.
func someRun(chance *rand.Rand, s api.State) (l []api.Effect) {
	switch chance.Intn(8) {
	case 0:
		return effects(someEffect(chance, s))
	case 1:
		tables := slices.DeleteFunc(slices.Clone(s.Objects), func(o api.Object) bool { return o.Kind != api.KTable })
		if len(tables) > 0 {
			o := tables[chance.Intn(len(tables))].Name
			return slices.Repeat(effects(put(o, "k", "v"), put(o, "l", strings.Repeat("w", chance.Intn(101)))), 1+chance.Intn(100))
		}
	}
	for range chance.Intn(6) {
		e := someEffect(chance, s)
		if turned, err := state.Apply(s, e); err == api.OK {
			s = turned
		} else if chance.Intn(20) > 0 {
			continue
		}
		l = append(l, e)
	}
	return l
}

package effect_test

import (
	"fmt"
	"math"
	"math/rand"
	"slices"
	"strings"
	"sync"
	"testing"

	"poste/api"
	"poste/effect"
)

// mostRead is how many effects the chapter lets bytes tell.
const mostRead = 10000

// msg is a message that is Right, each field another one than 0.
func msg() api.Msg {
	return api.Msg{Id: 7, Pri: -3, Retry: 2, Claimed: true, Corr: "corr", Body: "a body"}
}

// list is the effects that are handed over.
func list(l ...api.Effect) []api.Effect { return l }

// good has an effect that is Right of each kind, and of each way in which one
// of a kind may be.
func good() []api.Effect {
	return list(
		api.Effect{Kind: api.FMake, Object: "t", N: api.KTable},
		api.Effect{Kind: api.FMake, Object: "q", N: api.KQueue, Limit: 3},
		api.Effect{Kind: api.FPut, Object: "t", Key: "k", Value: "v"},
		api.Effect{Kind: api.FPut, Object: "t", Key: "k"},
		api.Effect{Kind: api.FDel, Object: "t", Key: "k"},
		api.Effect{Kind: api.FAdd, Object: "q", Msg: msg()},
		api.Effect{Kind: api.FAdd, Object: "q", Msg: api.Msg{Id: 1}},
		api.Effect{Kind: api.FTake, Object: "q", N: 4},
		api.Effect{Kind: api.FClaim, Object: "q", N: 5},
		api.Effect{Kind: api.FFree, Object: "q", N: 6},
		api.Effect{Kind: api.FFree, Object: "q", N: 6, Tried: true},
		api.Effect{Kind: api.FNext, N: 9},
	)
}

// widest has effects that are Right and of the greatest fields.
func widest() []api.Effect {
	long := strings.Repeat("\xff", 100)
	m := api.Msg{Id: 1 << 40, Pri: 1000, Retry: 1000, Claimed: true, Corr: long[:40], Body: long}
	return list(
		api.Effect{Kind: 1, Object: long[:16], N: 1},
		api.Effect{Kind: 1, Object: long[:16], N: 2, Limit: 1000},
		api.Effect{Kind: 2, Object: long[:16], Key: long[:40], Value: long},
		api.Effect{Kind: 3, Object: long[:16], Key: long[:40]},
		api.Effect{Kind: 4, Object: long[:16], Msg: m},
		api.Effect{Kind: 5, Object: long[:16], N: 1 << 40},
		api.Effect{Kind: 6, Object: long[:16], N: 1 << 40},
		api.Effect{Kind: 7, Object: long[:16], N: 1 << 40, Tried: true},
		api.Effect{Kind: 8, N: 1 << 40},
	)
}

// edgeInts are numbers at the edges of fields, and of all numbers.
func edgeInts() []int {
	return []int{
		math.MinInt, -1 << 40, -1001, -1000, -256, -1, 0, 1, 2, 3, 4, 5, 6, 7, 8, 9, 255, 256,
		999, 1000, 1001, 9999, 10000, 10001, 65535, 65536, 1<<31 - 1, 1 << 32,
		1<<40 - 1, 1 << 40, 1<<40 + 1, math.MaxInt,
	}
}

// edgeTexts are texts of any bytes, and of lengths at the edges of fields.
func edgeTexts() []string {
	l := []string{"", "a", "\x00", "\xff", "\u00e9\U00010000"}
	for _, n := range []int{15, 16, 17, 39, 40, 41, 99, 100, 101, 65535} {
		l = append(l, strings.Repeat("t", n-1)+"\xfe")
	}
	return append(l, strings.Repeat("\u00e9", 8), strings.Repeat("\u00e9", 9), strings.Repeat("\u00e9", 20), strings.Repeat("\u00e9", 21))
}

// edgeMsgs are messages that are Right, or have one field that is not.
func edgeMsgs() []api.Msg {
	l := []api.Msg{{}, {Id: 1}, {Pri: 1}, {Retry: 1}, {Claimed: true}, {Corr: "c"}, {Body: "b"}}
	for _, set := range []func(m *api.Msg){
		func(m *api.Msg) {},
		func(m *api.Msg) { m.Id = 0 },
		func(m *api.Msg) { m.Id = -1 },
		func(m *api.Msg) { m.Id = 1 << 40 },
		func(m *api.Msg) { m.Id = 1<<40 + 1 },
		func(m *api.Msg) { m.Pri = -1000 },
		func(m *api.Msg) { m.Pri = -1001 },
		func(m *api.Msg) { m.Pri = 1001 },
		func(m *api.Msg) { m.Retry = -1 },
		func(m *api.Msg) { m.Retry = 1001 },
		func(m *api.Msg) { m.Claimed = false },
		func(m *api.Msg) { m.Corr = strings.Repeat("c", 41) },
		func(m *api.Msg) { m.Body = strings.Repeat("b", 101) },
	} {
		m := msg()
		set(&m)
		l = append(l, m)
	}
	return l
}

// field sets one field to each of its edges.
type field struct {
	name string
	set  []func(e *api.Effect)
}

// fields are all fields of an effect.
func fields() []field {
	ints := func(of func(e *api.Effect) *int) (l []func(*api.Effect)) {
		for _, n := range edgeInts() {
			l = append(l, func(e *api.Effect) { *of(e) = n })
		}
		return l
	}
	texts := func(of func(e *api.Effect) *string) (l []func(*api.Effect)) {
		for _, s := range edgeTexts() {
			l = append(l, func(e *api.Effect) { *of(e) = s })
		}
		return l
	}
	msgs := []func(*api.Effect){}
	for _, m := range edgeMsgs() {
		msgs = append(msgs, func(e *api.Effect) { e.Msg = m })
	}
	return []field{
		{"Kind", ints(func(e *api.Effect) *int { return &e.Kind })},
		{"Object", texts(func(e *api.Effect) *string { return &e.Object })},
		{"Key", texts(func(e *api.Effect) *string { return &e.Key })},
		{"Value", texts(func(e *api.Effect) *string { return &e.Value })},
		{"N", ints(func(e *api.Effect) *int { return &e.N })},
		{"Limit", ints(func(e *api.Effect) *int { return &e.Limit })},
		{"Tried", []func(*api.Effect){func(e *api.Effect) { e.Tried = false }, func(e *api.Effect) { e.Tried = true }}},
		{"Msg", msgs},
	}
}

// edges are effects of all kinds, each of which has one or two fields at an
// edge.
func edges() []api.Effect {
	l := slices.Concat(good(), widest(), list(api.Effect{}))
	all := fields()
	for _, e := range slices.Concat(good(), widest(), list(api.Effect{})) {
		for i, one := range all {
			for _, set := range one.set {
				once := e
				set(&once)
				l = append(l, once)
				other := all[(i+1)%len(all)].set
				twice := once
				other[len(l)%len(other)](&twice)
				l = append(l, twice)
			}
		}
	}
	return l
}

// plainMsgRight is the sentence of chapter 14.
func plainMsgRight(m api.Msg) bool {
	if m.Id < 1 || m.Id > 1<<40 || m.Pri < -1000 || m.Pri > 1000 || m.Retry < 0 || m.Retry > 1000 {
		return false
	}
	return len(m.Corr) <= 40 && len(m.Body) <= 100
}

// plainRight is the chapter's sentence on Right, field by field.
func plainRight(e api.Effect) bool {
	name := len(e.Object) >= 1 && len(e.Object) <= 16
	key := len(e.Key) >= 1 && len(e.Key) <= 40
	value := len(e.Value) <= 100
	id := e.N >= 1 && e.N <= 1<<40
	limit := e.N == 1 && e.Limit == 0 || e.N == 2 && e.Limit >= 1 && e.Limit <= 1000
	noName, noKey, noValue := e.Object == "", e.Key == "", e.Value == ""
	noN, noLimit, noMsg := e.N == 0, e.Limit == 0, e.Msg == api.Msg{}
	switch e.Kind {
	case 1:
		return name && limit && noKey && noValue && !e.Tried && noMsg
	case 2:
		return name && key && value && noN && noLimit && !e.Tried && noMsg
	case 3:
		return name && key && noValue && noN && noLimit && !e.Tried && noMsg
	case 4:
		return name && plainMsgRight(e.Msg) && noKey && noValue && noN && noLimit && !e.Tried
	case 5, 6:
		return name && id && noKey && noValue && noLimit && !e.Tried && noMsg
	case 7:
		return name && id && noKey && noValue && noLimit && noMsg
	case 8:
		return noName && id && noKey && noValue && noLimit && !e.Tried && noMsg
	}
	return false
}

// plainInt is a number as chapter 2 spells it.
func plainInt(n int) string {
	b := make([]byte, 8)
	for i := range b {
		b[i] = byte(uint64(n) >> (8 * i))
	}
	return string(b)
}

// plainText is a text as chapter 2 spells it.
func plainText(s string) string {
	s = s[:min(len(s), 65535)]
	return string([]byte{byte(len(s) % 256), byte(len(s) / 256)}) + s
}

// plainFlag is a flag as chapter 2 spells it.
func plainFlag(ok bool) string {
	if ok {
		return "\x01"
	}
	return "\x00"
}

// plainOne is an effect as the chapter spells it.
func plainOne(e api.Effect) string {
	m := e.Msg
	return plainInt(e.Kind) + plainText(e.Object) + plainText(e.Key) + plainText(e.Value) +
		plainInt(e.N) + plainInt(e.Limit) + plainFlag(e.Tried) +
		plainInt(m.Id) + plainInt(m.Pri) + plainInt(m.Retry) + plainFlag(m.Claimed) + plainText(m.Corr) + plainText(m.Body)
}

// told is a count, whatever it claims, and these effects behind it.
func told(count int, l ...api.Effect) string {
	var b strings.Builder
	b.WriteString(plainInt(count))
	for _, e := range l {
		b.WriteString(plainOne(e))
	}
	return b.String()
}

// refused tells what is wrong where b must be ErrBytes.
func refused(b string) string {
	if l, err := effect.Read([]byte(b)); err != api.ErrBytes || len(l) != 0 {
		return fmt.Sprintf("Read: %d effects, %d, want ErrBytes", len(l), err)
	}
	return ""
}

// taken tells what is wrong where b must be l.
func taken(b string, l []api.Effect) string {
	got, err := effect.Read([]byte(b))
	if err != api.OK || !slices.Equal(got, l) {
		return fmt.Sprintf("Read: %+v, %d, want %+v", got, err, l)
	}
	return ""
}

func TestP1801RightOfEachKind(t *testing.T) {
	for _, e := range slices.Concat(good(), widest()) {
		if !effect.Right(e) {
			t.Errorf("%+v is not Right", e)
		}
	}
	for _, kind := range []int{math.MinInt, -8, -1, 0, 9, 10, 256 + 1, 1<<32 + 2, math.MaxInt} {
		for _, e := range slices.Concat(good(), widest(), list(api.Effect{})) {
			e.Kind = kind
			if effect.Right(e) {
				t.Errorf("%+v is Right", e)
			}
		}
	}
}

func TestP1801Right(t *testing.T) {
	long := strings.Repeat
	for _, x := range []struct {
		what string
		e    api.Effect
		want bool
	}{
		{"the zero effect", api.Effect{}, false},

		{"FMake of no name", api.Effect{Kind: 1, N: 1}, false},
		{"FMake of a name of 16", api.Effect{Kind: 1, Object: long("n", 16), N: 1}, true},
		{"FMake of a name of 17", api.Effect{Kind: 1, Object: long("n", 17), N: 1}, false},
		{"FMake of a name of 16 bytes, 8 runes", api.Effect{Kind: 1, Object: long("\u00e9", 8), N: 1}, true},
		{"FMake of a name of 18 bytes, 9 runes", api.Effect{Kind: 1, Object: long("\u00e9", 9), N: 1}, false},
		{"FMake of a name of a byte 0", api.Effect{Kind: 1, Object: "\x00", N: 1}, true},
		{"FMake of kind 0", api.Effect{Kind: 1, Object: "o"}, false},
		{"FMake of kind 0 with a limit", api.Effect{Kind: 1, Object: "o", Limit: 1}, false},
		{"FMake of kind 3", api.Effect{Kind: 1, Object: "o", N: 3, Limit: 1}, false},
		{"FMake of kind 3 without a limit", api.Effect{Kind: 1, Object: "o", N: 3}, false},
		{"FMake of kind -1", api.Effect{Kind: 1, Object: "o", N: -1, Limit: 1}, false},
		{"FMake of a table with limit 1", api.Effect{Kind: 1, Object: "o", N: 1, Limit: 1}, false},
		{"FMake of a table with limit -1", api.Effect{Kind: 1, Object: "o", N: 1, Limit: -1}, false},
		{"FMake of a table with limit 1000", api.Effect{Kind: 1, Object: "o", N: 1, Limit: 1000}, false},
		{"FMake of a queue with limit 0", api.Effect{Kind: 1, Object: "o", N: 2}, false},
		{"FMake of a queue with limit -1", api.Effect{Kind: 1, Object: "o", N: 2, Limit: -1}, false},
		{"FMake of a queue with limit 1", api.Effect{Kind: 1, Object: "o", N: 2, Limit: 1}, true},
		{"FMake of a queue with limit 1000", api.Effect{Kind: 1, Object: "o", N: 2, Limit: 1000}, true},
		{"FMake of a queue with limit 1001", api.Effect{Kind: 1, Object: "o", N: 2, Limit: 1001}, false},
		{"FMake of a queue with the least limit", api.Effect{Kind: 1, Object: "o", N: 2, Limit: math.MinInt}, false},
		{"FMake of a queue with the greatest limit", api.Effect{Kind: 1, Object: "o", N: 2, Limit: math.MaxInt}, false},

		{"FPut of no name", api.Effect{Kind: 2, Key: "k", Value: "v"}, false},
		{"FPut of a name of 17", api.Effect{Kind: 2, Object: long("n", 17), Key: "k"}, false},
		{"FPut of no key", api.Effect{Kind: 2, Object: "o", Value: "v"}, false},
		{"FPut of a key of 40", api.Effect{Kind: 2, Object: "o", Key: long("k", 40)}, true},
		{"FPut of a key of 41", api.Effect{Kind: 2, Object: "o", Key: long("k", 41)}, false},
		{"FPut of a value of 100", api.Effect{Kind: 2, Object: "o", Key: "k", Value: long("v", 100)}, true},
		{"FPut of a value of 101", api.Effect{Kind: 2, Object: "o", Key: "k", Value: long("v", 101)}, false},

		{"FDel of no name", api.Effect{Kind: 3, Key: "k"}, false},
		{"FDel of no key", api.Effect{Kind: 3, Object: "o"}, false},
		{"FDel of a key of 40", api.Effect{Kind: 3, Object: "o", Key: long("\x00", 40)}, true},
		{"FDel of a key of 41", api.Effect{Kind: 3, Object: "o", Key: long("\x00", 41)}, false},
		{"FDel with a value", api.Effect{Kind: 3, Object: "o", Key: "k", Value: "v"}, false},

		{"FAdd of no name", api.Effect{Kind: 4, Msg: msg()}, false},
		{"FAdd of no message", api.Effect{Kind: 4, Object: "o"}, false},
		{"FAdd of a claimed message", api.Effect{Kind: 4, Object: "o", Msg: api.Msg{Id: 1, Claimed: true}}, true},
		{"FAdd of a message of no Id", api.Effect{Kind: 4, Object: "o", Msg: api.Msg{Body: "b"}}, false},
		{"FAdd of a body of 101", api.Effect{Kind: 4, Object: "o", Msg: api.Msg{Id: 1, Body: long("b", 101)}}, false},
		{"FAdd with its number in N", api.Effect{Kind: 4, Object: "o", N: 7, Msg: msg()}, false},

		{"FTake of no name", api.Effect{Kind: 5, N: 1}, false},
		{"FTake of number 0", api.Effect{Kind: 5, Object: "o"}, false},
		{"FTake of number 1", api.Effect{Kind: 5, Object: "o", N: 1}, true},
		{"FTake of MaxIds", api.Effect{Kind: 5, Object: "o", N: api.MaxIds}, true},
		{"FTake of one more", api.Effect{Kind: 5, Object: "o", N: api.MaxIds + 1}, false},
		{"FTake, Tried", api.Effect{Kind: 5, Object: "o", N: 1, Tried: true}, false},

		{"FClaim of no name", api.Effect{Kind: 6, N: 1}, false},
		{"FClaim of number -1", api.Effect{Kind: 6, Object: "o", N: -1}, false},
		{"FClaim of MaxIds", api.Effect{Kind: 6, Object: "o", N: api.MaxIds}, true},
		{"FClaim of one more", api.Effect{Kind: 6, Object: "o", N: api.MaxIds + 1}, false},
		{"FClaim, Tried", api.Effect{Kind: 6, Object: "o", N: 1, Tried: true}, false},
		{"FClaim with a message", api.Effect{Kind: 6, Object: "o", N: 7, Msg: msg()}, false},

		{"FFree of no name", api.Effect{Kind: 7, N: 1, Tried: true}, false},
		{"FFree of number 0", api.Effect{Kind: 7, Object: "o", Tried: true}, false},
		{"FFree of MaxIds", api.Effect{Kind: 7, Object: "o", N: api.MaxIds, Tried: true}, true},
		{"FFree of one more", api.Effect{Kind: 7, Object: "o", N: api.MaxIds + 1, Tried: true}, false},
		{"FFree, not Tried", api.Effect{Kind: 7, Object: "o", N: 1}, true},
		{"FFree with a limit", api.Effect{Kind: 7, Object: "o", N: 1, Limit: 1, Tried: true}, false},

		{"FNext of 0", api.Effect{Kind: 8}, false},
		{"FNext of 1", api.Effect{Kind: 8, N: 1}, true},
		{"FNext of MaxIds", api.Effect{Kind: 8, N: api.MaxIds}, true},
		{"FNext of one more", api.Effect{Kind: 8, N: api.MaxIds + 1}, false},
		{"FNext of the least number", api.Effect{Kind: 8, N: math.MinInt}, false},
		{"FNext with a name", api.Effect{Kind: 8, Object: "o", N: 1}, false},
		{"FNext, Tried", api.Effect{Kind: 8, N: 1, Tried: true}, false},
	} {
		if effect.Right(x.e) != x.want {
			t.Errorf("%s: Right is %t", x.what, !x.want)
		}
	}
}

// A field that the kind has not is zero: any other value of it is not Right.
func TestP1801RightOfNothingBeside(t *testing.T) {
	has := map[int]string{
		api.FMake: "Object N Limit", api.FPut: "Object Key Value", api.FDel: "Object Key", api.FAdd: "Object Msg",
		api.FTake: "Object N", api.FClaim: "Object N", api.FFree: "Object N Tried", api.FNext: "N",
	}
	for _, e := range slices.Concat(good(), widest()) {
		for _, f := range fields() {
			if f.name == "Kind" || slices.Contains(strings.Fields(has[e.Kind]), f.name) {
				continue
			}
			for i, set := range f.set {
				with := e
				set(&with)
				if effect.Right(with) != (with == e) {
					t.Errorf("Kind %d, edge %d of %s: Right is %t", e.Kind, i, f.name, with != e)
				}
			}
		}
	}
}

func TestP1801RightOfMany(t *testing.T) {
	count := map[bool]int{}
	check := func(e api.Effect) {
		want := plainRight(e)
		count[want]++
		if effect.Right(e) != want {
			t.Fatalf("Right of %+v: %t", e, !want)
		}
	}
	for _, e := range edges() {
		check(e)
	}
	long := strings.Repeat("x", 101)
	msgs := []api.Msg{{}, msg(), {Id: 1}, {Claimed: true}, {Id: 1, Body: long}}
	for kind := -1; kind <= 10; kind++ {
		for _, name := range []string{"", "o", long[:16], long[:17]} {
			for _, key := range []string{"", "k", long[:40], long[:41]} {
				for _, value := range []string{"", "v", long[:100], long} {
					for _, n := range []int{-1, 0, 1, 2, 3, 1 << 40, 1<<40 + 1} {
						for _, limit := range []int{-1, 0, 1, 1000, 1001} {
							for _, m := range msgs {
								e := api.Effect{Kind: kind, Object: name, Key: key, Value: value, N: n, Limit: limit, Msg: m}
								check(e)
								e.Tried = true
								check(e)
							}
						}
					}
				}
			}
		}
	}
	if count[true] < 50 || count[false] < 1000 {
		t.Errorf("the effects are too much alike: %v", count)
	}
}

func TestP1801Bytes(t *testing.T) {
	zero := "\x00\x00\x00\x00\x00\x00\x00\x00"
	one := "\x01\x00\x00\x00\x00\x00\x00\x00"
	for _, x := range []struct {
		l    []api.Effect
		want string
	}{
		{nil, zero},
		{list(api.Effect{}), one + zero + "\x00\x00\x00\x00\x00\x00" + zero + zero + "\x00" + strings.Repeat("\x00", 29)},
		{
			list(api.Effect{
				Kind: 2, Object: "ob", Key: "key", Value: "v", N: 258, Limit: -2, Tried: true,
				Msg: api.Msg{Id: 5, Pri: -1, Retry: 3, Claimed: true, Corr: "c", Body: "xyz"},
			}),
			one + "\x02\x00\x00\x00\x00\x00\x00\x00" + "\x02\x00ob" + "\x03\x00key" + "\x01\x00v" +
				"\x02\x01\x00\x00\x00\x00\x00\x00" + "\xfe\xff\xff\xff\xff\xff\xff\xff" + "\x01" +
				"\x05\x00\x00\x00\x00\x00\x00\x00" + "\xff\xff\xff\xff\xff\xff\xff\xff" + "\x03\x00\x00\x00\x00\x00\x00\x00" +
				"\x01" + "\x01\x00c" + "\x03\x00xyz",
		},
		{
			list(api.Effect{Kind: 8, N: 9}, api.Effect{Kind: 5, Object: "q", N: 4}),
			"\x02\x00\x00\x00\x00\x00\x00\x00" +
				"\x08\x00\x00\x00\x00\x00\x00\x00" + "\x00\x00\x00\x00\x00\x00" +
				"\x09\x00\x00\x00\x00\x00\x00\x00" + zero + "\x00" + strings.Repeat("\x00", 29) +
				"\x05\x00\x00\x00\x00\x00\x00\x00" + "\x01\x00q\x00\x00\x00\x00" +
				"\x04\x00\x00\x00\x00\x00\x00\x00" + zero + "\x00" + strings.Repeat("\x00", 29),
		},
	} {
		if got := string(effect.Bytes(x.l...)); got != x.want {
			t.Errorf("Bytes of %+v: %q, want %q", x.l, got, x.want)
		}
	}
}

// All are written as they are, also those that are not Right, and texts that
// are too long for their head are cut by the Writer.
func TestP1801BytesOfMany(t *testing.T) {
	l := edges()
	for _, n := range []int{65536, 70000} {
		s := strings.Repeat("s", n)
		l = append(l, api.Effect{Object: s}, api.Effect{Key: s}, api.Effect{Value: s}, api.Effect{Object: s, Key: s, Value: s, Msg: api.Msg{Corr: s, Body: s}})
	}
	for _, e := range l {
		if got := string(effect.Bytes(e)); got != told(1, e) {
			t.Fatalf("Bytes of %.300q: %.300q", fmt.Sprint(e), got)
		}
	}
	for at := 0; at < len(l); at += 100 {
		some := l[at:min(at+100, len(l))]
		if got := string(effect.Bytes(some...)); got != told(len(some), some...) {
			t.Fatalf("Bytes of %d effects, from %d on: %d bytes", len(some), at, len(got))
		}
	}
}

// The effects are handed over one by one, as a list, or not at all.
func TestP1801BytesOfAny(t *testing.T) {
	l := good()
	for _, x := range []struct {
		got  []byte
		want string
	}{
		{effect.Bytes(), told(0)},
		{effect.Bytes(nil...), told(0)},
		{effect.Bytes(list()...), told(0)},
		{effect.Bytes(l[0]), told(1, l[0])},
		{effect.Bytes(l[0], l[0]), told(2, l[0], l[0])},
		{effect.Bytes(l[3], l[5], l[1]), told(3, l[3], l[5], l[1])},
		{effect.Bytes(l...), told(len(l), l...)},
	} {
		if string(x.got) != x.want {
			t.Errorf("Bytes: %q, want %q", x.got, x.want)
		}
	}
}

func TestP1801ReadOfNothing(t *testing.T) {
	for _, b := range [][]byte{nil, {}, make([]byte, 0, 8)} {
		if l, err := effect.Read(b); err != api.ErrBytes || len(l) != 0 {
			t.Errorf("Read of nothing: %+v, %d", l, err)
		}
	}
}

func TestP1801ReadBack(t *testing.T) {
	all := slices.Concat(good(), widest())
	if wrong := taken(told(0), nil); wrong != "" {
		t.Error(wrong)
	}
	if wrong := taken(told(len(all), all...), all); wrong != "" {
		t.Error(wrong)
	}
	for _, a := range all {
		if wrong := taken(told(1, a), list(a)); wrong != "" {
			t.Error(wrong)
		}
		for _, b := range all {
			if wrong := taken(told(2, a, b), list(a, b)); wrong != "" {
				t.Error(wrong)
			}
		}
	}
}

// One that is not Right is refused, wherever it stands; so what is answered is
// Right, each of it.
func TestP1801ReadOfWhatIsNotRight(t *testing.T) {
	first, last := good()[0], good()[11]
	for _, e := range edges() {
		if plainRight(e) {
			if wrong := taken(told(3, first, e, last), list(first, e, last)); wrong != "" {
				t.Fatal(wrong)
			}
			continue
		}
		for _, b := range []string{told(1, e), told(2, e, last), told(2, first, e), told(3, first, e, last), told(2, e, e)} {
			if wrong := refused(b); wrong != "" {
				t.Fatalf("%+v: %s", e, wrong)
			}
		}
	}
}

func TestP1801ReadOfWhatIsCut(t *testing.T) {
	for _, a := range slices.Concat(good(), widest()) {
		for _, l := range [][]api.Effect{list(a), list(a, good()[11]), list(good()[9], a)} {
			whole := told(len(l), l...)
			for n := range len(whole) {
				if wrong := refused(whole[:n]); wrong != "" {
					t.Fatalf("%d of %d bytes of %+v: %s", n, len(whole), l, wrong)
				}
			}
		}
	}
	for n := range 8 {
		if wrong := refused(told(0)[:n]); wrong != "" {
			t.Errorf("%d bytes of a count: %s", n, wrong)
		}
	}
}

func TestP1801ReadOfBytesBehind(t *testing.T) {
	for _, l := range [][]api.Effect{nil, good()[:1], good()} {
		whole := told(len(l), l...)
		for b := range 256 {
			if wrong := refused(whole + string([]byte{byte(b)})); wrong != "" {
				t.Errorf("a byte %d behind %d effects: %s", b, len(l), wrong)
			}
		}
		for _, behind := range []string{told(0), plainOne(good()[0]), whole, strings.Repeat("\x00", 5000)} {
			if wrong := refused(whole + behind); wrong != "" {
				t.Errorf("%d bytes behind %d effects: %s", len(behind), len(l), wrong)
			}
		}
	}
}

func TestP1801ReadOfAFlagThatIsNone(t *testing.T) {
	for i, e := range good() {
		whole := told(1, e)
		msgLen := 29 + len(e.Msg.Corr) + len(e.Msg.Body)
		tried := len(whole) - msgLen - 1
		claimed := len(whole) - msgLen + 24
		for _, at := range []int{tried, claimed} {
			for b := 2; b < 256; b++ {
				odd := []byte(whole)
				odd[at] = byte(b)
				if wrong := refused(string(odd)); wrong != "" {
					t.Fatalf("effect %d, a byte %d at %d: %s", i, b, at, wrong)
				}
			}
		}
	}
}

// A count that is not that of the effects behind it is refused, and a great one
// costs nothing.
func TestP1801ReadOfAnotherCount(t *testing.T) {
	for _, l := range [][]api.Effect{nil, good()[:1], good()[:3], good()} {
		for _, count := range append(edgeInts(), len(l)-1, len(l)+1, 1<<56, 1<<62, math.MinInt+len(l), 1<<32+len(l), 1<<16+len(l), 256+len(l)) {
			if count == len(l) {
				continue
			}
			if wrong := refused(told(count, l...)); wrong != "" {
				t.Errorf("count %d of %d effects: %s", count, len(l), wrong)
			}
		}
	}
}

// many are n effects that are Right.
func many(n int) []api.Effect {
	l := make([]api.Effect, n)
	all := good()
	for i := range l {
		l[i] = all[i%len(all)]
	}
	return l
}

func TestP1801ReadOfTheMost(t *testing.T) {
	for _, n := range []int{mostRead - 1, mostRead} {
		if wrong := taken(told(n, many(n)...), many(n)); wrong != "" {
			t.Errorf("%d effects: %.200s", n, wrong)
		}
	}
	for _, n := range []int{mostRead + 1, mostRead + 2, 2 * mostRead, 65536 + 3} {
		if wrong := refused(told(n, many(n)...)); wrong != "" {
			t.Errorf("%d effects: %s", n, wrong)
		}
	}
	odd := many(mostRead)
	odd[mostRead-1].Tried = !odd[mostRead-1].Tried
	if odd[mostRead-1].Kind == api.FFree {
		t.Fatal("the last one is still Right")
	}
	if wrong := refused(told(mostRead, odd...)); wrong != "" {
		t.Errorf("the last one of %d is not Right: %s", mostRead, wrong)
	}
}

// Whatever bytes there are, Read answers effects that are Right and whose bytes
// these are, or ErrBytes.
func TestP1801ReadOfAnyBytes(t *testing.T) {
	chance := rand.New(rand.NewSource(1801))
	count := map[api.Errno]int{}
	for range 30000 {
		l := many(1 + chance.Intn(3))
		for i := range l {
			l[i] = good()[chance.Intn(len(good()))]
		}
		b := []byte(told(len(l), l...))
		for range 1 + chance.Intn(2) {
			b[chance.Intn(len(b))] = byte(chance.Intn(256) >> chance.Intn(9))
		}
		got, err := effect.Read(b)
		count[err]++
		switch {
		case err == api.OK && told(len(got), got...) == string(b) && !slices.ContainsFunc(got, func(e api.Effect) bool { return !plainRight(e) }):
		case err == api.ErrBytes && len(got) == 0:
		default:
			t.Fatalf("Read of %q: %+v, %d", b, got, err)
		}
	}
	if count[api.OK] < 500 || count[api.ErrBytes] < 500 {
		t.Errorf("the bytes are too much alike: %v", count)
	}
}

// anyRight is an effect by chance that is Right.
func anyRight(chance *rand.Rand) api.Effect {
	text := func(least, most int) string {
		b := make([]byte, least+chance.Intn(most-least+1))
		for i := range b {
			b[i] = byte(chance.Intn(256))
		}
		return string(b)
	}
	id := func() int { return 1 + chance.Intn(1<<chance.Intn(41)) }
	e := api.Effect{Kind: 1 + chance.Intn(8)}
	if e.Kind != api.FNext {
		e.Object = text(1, api.MaxName)
	}
	switch e.Kind {
	case api.FMake:
		if e.N = 1 + chance.Intn(2); e.N == api.KQueue {
			e.Limit = 1 + chance.Intn(1000)
		}
	case api.FPut:
		e.Key, e.Value = text(1, api.MaxKey), text(0, api.MaxValue)
	case api.FDel:
		e.Key = text(1, api.MaxKey)
	case api.FAdd:
		e.Msg = api.Msg{
			Id: id(), Pri: chance.Intn(2001) - 1000, Retry: chance.Intn(1001), Claimed: chance.Intn(2) == 0,
			Corr: text(0, api.MaxKey), Body: text(0, api.MaxValue),
		}
	case api.FFree:
		e.N, e.Tried = id(), chance.Intn(2) == 0
	default:
		e.N = id()
	}
	return e
}

func TestP1802ReadOfBytes(t *testing.T) {
	chance := rand.New(rand.NewSource(1802))
	for n := range 200 {
		var l []api.Effect
		for range n {
			e := anyRight(chance)
			if !effect.Right(e) {
				t.Fatalf("%+v is not Right", e)
			}
			l = append(l, e)
		}
		if wrong := taken(string(effect.Bytes(l...)), l); wrong != "" {
			t.Fatal(wrong)
		}
	}
	if wrong := taken(string(effect.Bytes(many(mostRead)...)), many(mostRead)); wrong != "" {
		t.Errorf("%d effects: %.200s", mostRead, wrong)
	}
	if wrong := refused(string(effect.Bytes(many(mostRead + 1)...))); wrong != "" {
		t.Errorf("%d effects: %s", mostRead+1, wrong)
	}
}

// fill writes over a list and all of its spare room.
func fill(l []api.Effect) {
	l = l[:cap(l)]
	for i := range l {
		l[i] = api.Effect{Kind: -99, Object: "fill", Key: "fill", Value: "fill", N: -99, Limit: -99, Tried: true, Msg: api.Msg{Id: -99, Body: "fill"}}
	}
}

// fillBytes writes over bytes and all of their spare room.
func fillBytes(b []byte) {
	b = b[:cap(b)]
	for i := range b {
		b[i] = 'x'
	}
}

// The list stands in the middle of a greater one: so a call that writes ahead
// of it, in it, or in its spare room is seen.
func TestP1802BytesOfWhatIsHandedIn(t *testing.T) {
	all := good()
	for n := range len(all) {
		room := slices.Clone(all)
		b := effect.Bytes(room[min(1, n):n]...)
		if !slices.Equal(room, all) {
			t.Fatalf("Bytes of %d effects changes what was handed in: %+v", n, room)
		}
		want := string(b)
		fill(room)
		if string(b) != want {
			t.Fatalf("Bytes of %d effects changes with what was handed in", n)
		}
	}
}

func TestP1802ReadOfWhatIsHandedIn(t *testing.T) {
	for n := range len(good()) {
		l := good()[:n]
		for _, whole := range []string{told(n, l...), told(n+1, l...), told(n, l...) + "\x00"} {
			room := []byte("ahead" + whole + "behind")
			given := room[5 : 5+len(whole)]
			got, err := effect.Read(given)
			if string(room) != "ahead"+whole+"behind" {
				t.Fatalf("Read of %d effects changes what was handed in: %q", n, room)
			}
			fillBytes(room)
			if err == api.OK && !slices.Equal(got, l) {
				t.Fatalf("what was read changes with the bytes: %+v", got)
			}
			if again, other := effect.Read([]byte(whole)); other != err || !slices.Equal(again, got) {
				t.Fatalf("Read again: %+v, %d", again, other)
			}
		}
	}
}

func TestP1802AnswersAreNewMemory(t *testing.T) {
	for n := range len(good()) {
		l := good()[:n]
		want := told(n, l...)
		a, b := effect.Bytes(l...), effect.Bytes(l...)
		fillBytes(a)
		if string(b) != want || string(effect.Bytes(l...)) != want {
			t.Fatalf("the bytes of two calls lie in one place, of %d effects", n)
		}
		given := []byte(want)
		c, _ := effect.Read(given)
		d, _ := effect.Read(given)
		fill(c)
		e, err := effect.Read(given)
		if !slices.Equal(d, l) || !slices.Equal(e, l) || err != api.OK || string(given) != want {
			t.Fatalf("the effects of two calls lie in one place, of %d", n)
		}
	}
}

// Many at once, with one list: each one is told what it was told alone.
func TestP1802AnswersHangOnArgumentsAlone(t *testing.T) {
	l := good()[:9]
	whole := []byte(told(len(l), l...))
	all := edges()
	var workers sync.WaitGroup
	for i := range 8 {
		workers.Go(func() {
			for at := i; at < len(all); at += 3 {
				e := all[at]
				one := effect.Bytes(e)
				back, err := effect.Read(one)
				if right := plainRight(e); effect.Right(e) != right || (err == api.OK) != right || right && back[0] != e {
					t.Errorf("other answers side by side, of %+v: %+v, %d", e, back, err)
				}
				if string(one) != told(1, e) || string(effect.Bytes(l...)) != string(whole) {
					t.Errorf("other bytes side by side, of %+v", e)
				}
				if got, err := effect.Read(whole); err != api.OK || !slices.Equal(got, l) {
					t.Errorf("Read side by side: %+v, %d", got, err)
				}
			}
		})
	}
	workers.Wait()
}

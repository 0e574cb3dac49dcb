package state_test

import (
	"fmt"
	"math"
	"math/rand"
	"slices"
	"strings"
	"testing"

	"poste/api"
	"poste/state"
)

func TestP1901RightOfLittle(t *testing.T) {
	if state.Right(api.State{}) {
		t.Error("the zero State is Right")
	}
	for _, x := range []struct {
		next int
		want bool
	}{
		{math.MinInt, false}, {-1, false}, {0, false}, {1, true}, {2, true}, {1 << 32, true}, {1<<40 - 1, true},
		{api.MaxIds, true}, {api.MaxIds + 1, false}, {1 << 41, false}, {math.MaxInt, false},
	} {
		if state.Right(api.State{Next: x.next}) != x.want || state.Right(api.State{Next: x.next, Objects: objects()}) != x.want {
			t.Errorf("Next %d: Right is not %t", x.next, x.want)
		}
	}
	if !state.Right(good()) {
		t.Error("a state with some of everything is not Right")
	}
}

// named are n tables, whose names rise.
func named(n int) []api.Object {
	l := make([]api.Object, n)
	for i := range l {
		l[i] = api.Object{Name: fmt.Sprintf("n%03d", i), Kind: api.KTable}
	}
	return l
}

func TestP1901RightOfObjects(t *testing.T) {
	for n := range 45 {
		if got := state.Right(api.State{Next: 1, Objects: named(n)}); got != (n <= 20) {
			t.Errorf("%d objects: Right is %t", n, got)
		}
	}
	long := strings.Repeat("n", 17)
	for _, x := range []struct {
		names []string
		want  bool
	}{
		{[]string{""}, false}, {[]string{"", "a"}, false}, {[]string{"a"}, true}, {[]string{"\x00"}, true}, {[]string{"\xff\xfe"}, true},
		{[]string{long[:16]}, true}, {[]string{long}, false}, {[]string{strings.Repeat("\u00e9", 8)}, true}, {[]string{strings.Repeat("\u00e9", 9)}, false},
		{[]string{"a", "a"}, false}, {[]string{"b", "a"}, false}, {[]string{"a", "b", "a"}, false}, {[]string{"a", "c", "b"}, false}, {[]string{"a", "b", "b"}, false},
		{[]string{"a", "a\x00"}, true}, {[]string{"a\x00", "a"}, false}, {[]string{"a", "ab", "b"}, true}, {[]string{"ab", "a"}, false},
		{[]string{"Z", "a"}, true}, {[]string{"a", "Z"}, false}, {[]string{"10", "9"}, true}, {[]string{"9", "10"}, false},
		{[]string{"\x7f", "\x80"}, true}, {[]string{"\x80", "\x7f"}, false}, {[]string{"\uffff", "\U00010000"}, true},
	} {
		for _, o := range []api.Object{{Kind: api.KTable}, {Kind: api.KQueue, Limit: 3}} {
			s := api.State{Next: 1}
			for _, name := range x.names {
				o.Name = name
				s.Objects = append(s.Objects, o)
			}
			if got := state.Right(s); got != x.want {
				t.Errorf("kind %d, named %q: Right is %t", o.Kind, x.names, got)
			}
		}
	}
}

func TestP1901RightOfKindAndLimit(t *testing.T) {
	for _, kind := range []int{math.MinInt, -1, 0, 1, 2, 3, 4, 257, 258, 1<<32 + 1, math.MaxInt} {
		for _, limit := range []int{math.MinInt, -1, 0, 1, 2, 999, 1000, 1001, 1<<32 + 1, math.MaxInt} {
			want := kind == 1 && limit == 0 || kind == 2 && limit >= 1 && limit <= 1000
			if got := state.Right(api.State{Next: 1, Objects: objects(api.Object{Name: "o", Kind: kind, Limit: limit})}); got != want {
				t.Errorf("kind %d, limit %d: Right is %t", kind, limit, got)
			}
		}
	}
}

func TestP1901RightOfTables(t *testing.T) {
	long := strings.Repeat("x", 101)
	for _, x := range []struct {
		what string
		o    api.Object
		want bool
	}{
		{"rows", api.Object{Rows: rowsOf("a", "1", "b", "", "c", "1")}, true},
		{"greatest row", api.Object{Rows: rowsOf(long[:40], long[:100])}, true},
		{"bytes that are no text", api.Object{Rows: rowsOf("\x00", "\xff", "\xff", "\x00")}, true},
		{"no Key", api.Object{Rows: rowsOf("", "1")}, false},
		{"no Key ahead of others", api.Object{Rows: rowsOf("", "1", "a", "1")}, false},
		{"Key too long", api.Object{Rows: rowsOf(long[:41], "1")}, false},
		{"Value too long", api.Object{Rows: rowsOf("a", long)}, false},
		{"last Value too long", api.Object{Rows: rowsOf("a", "", "b", "", "c", long)}, false},
		{"a Key twice", api.Object{Rows: rowsOf("a", "1", "a", "2")}, false},
		{"falls", api.Object{Rows: rowsOf("b", "1", "a", "1")}, false},
		{"falls at the end", api.Object{Rows: rowsOf("a", "", "b", "", "d", "", "c", "")}, false},
		{"longer ahead", api.Object{Rows: rowsOf("ab", "", "a", "")}, false},
		{"a message", api.Object{Msgs: msgs(free(1, 0, 0))}, false},
		{"a claimed message", api.Object{Msgs: msgs(taken(1, 0, 0))}, false},
		{"a message in Dead", api.Object{Dead: msgs(free(1, 0, 0))}, false},
		{"a row and a message", api.Object{Rows: rowsOf("a", ""), Msgs: msgs(free(1, 0, 0))}, false},
		{"a row and a message in Dead", api.Object{Rows: rowsOf("a", ""), Dead: msgs(free(1, 0, 0))}, false},
	} {
		x.o.Name, x.o.Kind = "o", api.KTable
		other := api.Object{Name: "p", Kind: api.KQueue, Limit: 1}
		if got := state.Right(api.State{Next: 20, Objects: objects(x.o, other)}); got != x.want {
			t.Errorf("%s: Right is %t", x.what, got)
		}
	}
}

// Each field of a message, in Msgs and in Dead, from both sides of its bounds.
func TestP1901RightOfMessages(t *testing.T) {
	long := strings.Repeat("x", 101)
	for _, x := range []struct {
		m    api.Msg
		want bool
	}{
		{api.Msg{}, false}, {api.Msg{Id: 1}, true}, {api.Msg{Id: -1}, false}, {api.Msg{Id: math.MinInt}, false},
		{api.Msg{Id: 1, Pri: -1000}, true}, {api.Msg{Id: 1, Pri: -1001}, false}, {api.Msg{Id: 1, Pri: 1000}, true}, {api.Msg{Id: 1, Pri: 1001}, false},
		{api.Msg{Id: 1, Retry: -1}, false}, {api.Msg{Id: 1, Retry: 1000}, true}, {api.Msg{Id: 1, Retry: 1001}, false},
		{api.Msg{Id: 1, Corr: long[:40]}, true}, {api.Msg{Id: 1, Corr: long[:41]}, false},
		{api.Msg{Id: 1, Body: long[:100]}, true}, {api.Msg{Id: 1, Body: long}, false},
	} {
		o := api.Object{Name: "o", Kind: api.KQueue, Limit: 1}
		inMsgs, inDead := o, o
		inMsgs.Msgs, inDead.Dead = msgs(x.m), msgs(x.m)
		for _, o := range objects(inMsgs, inDead) {
			if got := state.Right(api.State{Next: 20, Objects: objects(o)}); got != x.want {
				t.Errorf("%+v: Right is %t", o, got)
			}
		}
		inMsgs.Msgs = msgs(free(2, -1000, 0), x.m)
		inDead.Dead = msgs(free(2, -1000, 0), x.m)
		for _, o := range objects(inMsgs, inDead) {
			want := x.want && (x.m.Pri > -1000 || len(o.Dead) > 0)
			if got := state.Right(api.State{Next: 20, Objects: objects(o)}); got != want {
				t.Errorf("%+v: Right is %t", o, got)
			}
		}
	}
}

func TestP1901RightOfQueues(t *testing.T) {
	for _, x := range []struct {
		what string
		o    api.Object
		want bool
	}{
		{"rising", api.Object{Msgs: msgs(free(9, -1, 0), taken(1, 0, 5), free(3, 0, 0), taken(2, 1, 0))}, true},
		{"a row", api.Object{Rows: rowsOf("a", "")}, false},
		{"a row and a message", api.Object{Rows: rowsOf("a", ""), Msgs: msgs(free(1, 0, 0))}, false},
		{"Pri falls", api.Object{Msgs: msgs(free(1, 1, 0), free(2, 0, 0))}, false},
		{"Id falls", api.Object{Msgs: msgs(free(2, 0, 0), free(1, 0, 0))}, false},
		{"falls at the end", api.Object{Msgs: msgs(free(1, 0, 0), free(2, 0, 0), free(4, 0, 0), free(3, 0, 0))}, false},
		{"the same twice", api.Object{Msgs: msgs(free(1, 0, 0), free(1, 0, 0))}, false},
		{"an Id twice, of other Pri", api.Object{Msgs: msgs(free(1, 0, 0), free(1, 1, 0))}, false},
		{"an Id twice, far away", api.Object{Msgs: msgs(free(1, 0, 0), free(2, 0, 0), free(3, 0, 0), free(1, 1, 0))}, false},
		{"Dead in any order", api.Object{Dead: msgs(free(3, 5, 9), free(1, -1, 0), free(2, 9, 0))}, true},
		{"Dead claimed", api.Object{Dead: msgs(taken(1, 0, 0))}, false},
		{"the last of Dead claimed", api.Object{Dead: msgs(free(3, 0, 0), free(2, 0, 0), taken(1, 0, 0))}, false},
		{"Dead twice", api.Object{Dead: msgs(free(1, 0, 0), free(1, 0, 0))}, false},
		{"Dead twice, of other Pri", api.Object{Dead: msgs(free(1, 0, 0), free(2, 0, 0), free(1, 5, 3))}, false},
		{"in both", api.Object{Msgs: msgs(free(1, 0, 0)), Dead: msgs(free(1, 0, 0))}, false},
		{"in both, unlike", api.Object{Msgs: msgs(free(2, 0, 0), taken(3, 0, 0)), Dead: msgs(free(4, 0, 0), free(3, 7, 1))}, false},
		{"the last below Next", api.Object{Msgs: msgs(free(19, 0, 0))}, true},
		{"at Next", api.Object{Msgs: msgs(free(20, 0, 0))}, false},
		{"above Next", api.Object{Msgs: msgs(free(1, 0, 0), free(1<<33, 0, 0))}, false},
		{"Dead, the last below Next", api.Object{Dead: msgs(free(19, 0, 0))}, true},
		{"Dead, at Next", api.Object{Dead: msgs(free(20, 0, 0))}, false},
		{"Dead, above Next", api.Object{Dead: msgs(free(1, 0, 0), free(1<<40, 0, 0))}, false},
		{"more tries than Limit", api.Object{Msgs: msgs(free(1, 0, 1000)), Dead: msgs(free(2, 0, 0))}, true},
	} {
		x.o.Name, x.o.Kind, x.o.Limit = "o", api.KQueue, 2
		if got := state.Right(api.State{Next: 20, Objects: objects(x.o)}); got != x.want {
			t.Errorf("%s: Right is %t", x.what, got)
		}
	}
	top := func(next int) api.State {
		return api.State{Next: next, Objects: objects(api.Object{Name: "o", Kind: api.KQueue, Limit: 1, Msgs: msgs(free(1<<40-1, 0, 0))})}
	}
	if !state.Right(top(1<<40)) || state.Right(top(1<<40-1)) {
		t.Error("the greatest Id of all")
	}
}

// An Id of one queue is in no list of another one, be that next to it or not.
func TestP1901RightOfOtherQueues(t *testing.T) {
	in := func(name string, dead bool, id int) api.Object {
		o := api.Object{Name: name, Kind: api.KQueue, Limit: 2}
		own := free(100+int(name[0]), 0, 0)
		if dead {
			o.Dead = msgs(own, free(id, 3, 1))
		} else {
			o.Msgs = msgs(free(id, 0, 0), own)
		}
		return o
	}
	between := api.Object{Name: "m", Kind: api.KTable, Rows: rowsOf("a", "")}
	for _, far := range []bool{false, true} {
		for _, one := range []bool{false, true} {
			for _, other := range []bool{false, true} {
				for id := 1; id <= 3; id++ {
					s := api.State{Next: 1000, Objects: objects(in("f", one, 2), in("p", other, id))}
					if far {
						s.Objects = slices.Insert(s.Objects, 1, between, in("n", one, 9))
					}
					if got := state.Right(s); got != (id != 2) {
						t.Errorf("2 and %d, in Dead %t and %t, others between %t: Right is %t", id, one, other, far, got)
					}
				}
			}
		}
	}
}

// someState is a state by chance, of few numbers, so that about as many are
// Right as not.
func someState(chance *rand.Rand) api.State {
	s := api.State{Next: 1 + chance.Intn(30)}
	for i := range chance.Intn(4) {
		o := api.Object{Name: string(rune('a' + i)), Kind: 1 + chance.Intn(2)}
		if o.Kind == api.KTable {
			for k := range chance.Intn(4) {
				o.Rows = append(o.Rows, api.Row{Key: string(rune('a' + k + chance.Intn(2))), Value: "v"})
			}
		} else {
			o.Limit = 1 + chance.Intn(3)
			for id := range 8 {
				m := api.Msg{Id: 1 + 8*i + id, Pri: id / 2, Retry: chance.Intn(3), Claimed: chance.Intn(2) == 0, Body: "b"}
				switch chance.Intn(6) {
				case 0:
					o.Msgs = append(o.Msgs, m)
				case 1:
					m.Claimed = false
					o.Dead = append([]api.Msg{m}, o.Dead...)
				}
			}
		}
		s.Objects = append(s.Objects, o)
	}
	for range chance.Intn(2) {
		spoil(chance, &s)
	}
	return s
}

// spoil turns one thing of a state, which may be Right all the same.
func spoil(chance *rand.Rand, s *api.State) {
	if len(s.Objects) == 0 {
		return
	}
	o := &s.Objects[chance.Intn(len(s.Objects))]
	switch chance.Intn(9) {
	case 0:
		o.Name = string(rune('a' + chance.Intn(3)))
	case 1:
		o.Kind = chance.Intn(4)
	case 2:
		o.Limit = chance.Intn(4) - 1
	case 3:
		o.Rows = append(o.Rows, api.Row{Key: strings.Repeat("z", 39+chance.Intn(3))})
	case 4:
		o.Msgs = append(o.Msgs, api.Msg{Id: chance.Intn(30), Pri: chance.Intn(9)})
	case 5:
		o.Dead = append(o.Dead, api.Msg{Id: chance.Intn(30), Claimed: chance.Intn(2) == 0})
	case 6:
		for i := range o.Dead {
			o.Dead[i].Id = 1 + chance.Intn(30)
		}
	case 7:
		for i := range o.Msgs {
			o.Msgs[i].Id = 1 + chance.Intn(30)
		}
	case 8:
		for i := range o.Msgs {
			o.Msgs[i].Retry = 999 + chance.Intn(3)
		}
	}
}

func TestP1901RightByChance(t *testing.T) {
	chance := rand.New(rand.NewSource(1901))
	count := map[bool]int{}
	for range 60000 {
		s := someState(chance)
		want := plainRight(s)
		count[want]++
		if got := state.Right(s); got != want {
			t.Fatalf("Right of %+v: %t", s, got)
		}
	}
	if count[true] < 5000 || count[false] < 5000 {
		t.Errorf("the states are too much alike: %v", count)
	}
}

// Nothing hangs on how many rows and messages there are; what is wrong is found
// wherever it stands.
func TestP1901RightOfMany(t *testing.T) {
	const n = 100000
	s := api.State{Next: 3*n + 1, Objects: objects(
		api.Object{Name: "q", Kind: api.KQueue, Limit: 1},
		api.Object{Name: "r", Kind: api.KQueue, Limit: 1},
		api.Object{Name: "t", Kind: api.KTable},
	)}
	for i := range n {
		s.Objects[0].Msgs = append(s.Objects[0].Msgs, api.Msg{Id: 1 + i, Pri: i / 1000})
		s.Objects[0].Dead = append(s.Objects[0].Dead, api.Msg{Id: 1 + n + i})
		s.Objects[1].Msgs = append(s.Objects[1].Msgs, api.Msg{Id: 1 + 2*n + i})
		s.Objects[2].Rows = append(s.Objects[2].Rows, api.Row{Key: fmt.Sprintf("%06d", i)})
	}
	if !state.Right(s) {
		t.Fatal("many are not Right")
	}
	for _, at := range []int{0, n / 2, n - 1} {
		for i, turn := range []func(s *api.State){
			func(s *api.State) { s.Objects[0].Msgs[at].Retry = -1 },
			func(s *api.State) { s.Objects[0].Dead[at].Id = 1 + (at+1)%n },
			func(s *api.State) { s.Objects[0].Dead[at].Claimed = true },
			func(s *api.State) { s.Objects[1].Msgs[at].Id = 1 + n },
			func(s *api.State) { s.Objects[2].Rows[at].Key = fmt.Sprintf("%06d", (at+n/3)%n) },
			func(s *api.State) { s.Next = 2*n + 1 + at },
		} {
			odd := deep(s)
			turn(&odd)
			if state.Right(odd) {
				t.Errorf("at %d, turn %d: Right", at, i)
			}
		}
	}
}

func TestP1901Find(t *testing.T) {
	s := good()
	for _, x := range []struct {
		name string
		want int
	}{
		{"a", 0}, {"b", 1}, {"c", 2}, {"d", 3}, {"e", 4}, {"f", -1}, {"", -1}, {"A", -1}, {"a\x00", -1}, {"aa", -1}, {"\xff", -1}, {strings.Repeat("a", 70000), -1},
	} {
		if got := state.Find(s, x.name); got != x.want {
			t.Errorf("Find of %q: %d", x.name, got)
		}
	}
	for _, name := range []string{"", "a", strings.Repeat("n", 17)} {
		if got := state.Find(api.State{}, name); got != -1 {
			t.Errorf("Find of %q in the zero State: %d", name, got)
		}
	}
}

// Also a state that is not Right has places; of those of one name, the first.
func TestP1901FindInAnyState(t *testing.T) {
	names := []string{"", "a", "ab", "b", strings.Repeat("n", 17)}
	var walk func(s api.State, n int)
	walk = func(s api.State, n int) {
		for _, name := range append(names, "c") {
			if got, want := state.Find(s, name), plainFind(s, name); got != want {
				t.Fatalf("Find of %q in %+v: %d, want %d", name, s, got, want)
			}
		}
		if n == 0 {
			return
		}
		for _, name := range names {
			walk(api.State{Objects: append(slices.Clone(s.Objects), api.Object{Name: name, Kind: n})}, n-1)
		}
	}
	walk(api.State{}, 4)
	for n := range 45 {
		all := api.State{Objects: named(n)}
		for i, o := range all.Objects {
			if got := state.Find(all, o.Name); got != i {
				t.Fatalf("Find of %q among %d: %d", o.Name, n, got)
			}
		}
		if got := state.Find(all, fmt.Sprintf("n%03d", n)); got != -1 {
			t.Fatalf("Find behind %d: %d", n, got)
		}
	}
}

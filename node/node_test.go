package node_test

import (
	"fmt"
	"math/rand"
	"slices"
	"strconv"
	"strings"
	"sync"
	"testing"

	"poste/api"
	"poste/node"
)

// rows has one row of each key; the value tells its place.
func rows(keys ...string) []api.Row {
	var l []api.Row
	for i, k := range keys {
		l = append(l, api.Row{Key: k, Value: "v" + strconv.Itoa(i)})
	}
	return l
}

// fewKeys are keys at the edges of bytes, rising.
func fewKeys() []string { return []string{"", "\x00", "a", "a\x00", "b", "\x80", "\xff"} }

// allLists are all lists of at most n rows of these keys, those that rise and
// those that do not.
func allLists(keys []string, n int) [][]api.Row {
	all := [][]api.Row{nil}
	last := all
	for range n {
		var longer [][]api.Row
		for _, l := range last {
			for _, k := range keys {
				longer = append(longer, append(slices.Clone(l), api.Row{Key: k, Value: "v" + strconv.Itoa(len(l))}))
			}
		}
		all = append(all, longer...)
		last = longer
	}
	return all
}

// plainFind is the document's sentence, word by word.
func plainFind(l []api.Row, key string) (int, bool) {
	place := 0
	for place < len(l) && l[place].Key < key {
		place++
	}
	return place, place < len(l) && l[place].Key == key
}

// plainPut lays the rows one by one.
func plainPut(l []api.Row, r api.Row) []api.Row {
	at, found := plainFind(l, r.Key)
	var want []api.Row
	for i := range l {
		if i == at {
			want = append(want, r)
		}
		if i != at || !found {
			want = append(want, l[i])
		}
	}
	if at == len(l) {
		want = append(want, r)
	}
	return want
}

// plainCut lays the rows one by one.
func plainCut(l []api.Row, key string) ([]api.Row, bool) {
	at, found := plainFind(l, key)
	var want []api.Row
	for i := range l {
		if i != at || !found {
			want = append(want, l[i])
		}
	}
	return want, found
}

// plainRises asks each two that stand side by side.
func plainRises(l []api.Row) bool {
	falls := 0
	for i := range l {
		if i > 0 && l[i-1].Key >= l[i].Key {
			falls++
		}
	}
	return falls == 0
}

func TestP701FindOrdinary(t *testing.T) {
	l := rows("b", "d", "f")
	for _, x := range []struct {
		l     []api.Row
		key   string
		at    int
		found bool
	}{
		{nil, "", 0, false},
		{nil, "a", 0, false},
		{[]api.Row{}, "a", 0, false},
		{rows(""), "", 0, true},
		{rows(""), "a", 1, false},
		{rows("a"), "", 0, false},
		{l, "", 0, false},
		{l, "a", 0, false},
		{l, "b", 0, true},
		{l, "b\x00", 1, false},
		{l, "c", 1, false},
		{l, "d", 1, true},
		{l, "e", 2, false},
		{l, "f", 2, true},
		{l, "g", 3, false},
		{l, "f\x00", 3, false},
		{l, "\xff", 3, false},
		{l, "D", 0, false},
		{l, "v1", 3, false},
	} {
		if at, found := node.Find(x.l, x.key); at != x.at || found != x.found {
			t.Errorf("Find(%v, %q): %d, %t, want %d, %t", x.l, x.key, at, found, x.at, x.found)
		}
	}
}

// Keys are held against each other byte by byte: no letters, no numbers.
func TestP701FindByBytes(t *testing.T) {
	rising := []string{
		"", "\x00", "\x00\x00", "\x01", "10", "9", "B", "a", "a\x00", "a ", "ab", "b", "\x7f",
		"\x80", "\xc3\xa9", "\xef\xbf\xbf", "\xf0\x90\x80\x80", "\xff", "\xff\xff",
	}
	l := rows(rising...)
	for i, k := range rising {
		if at, found := node.Find(l, k); at != i || !found {
			t.Errorf("Find of %q: %d, %t, want %d", k, at, found, i)
		}
		without := slices.Delete(slices.Clone(l), i, i+1)
		if at, found := node.Find(without, k); at != i || found {
			t.Errorf("Find of %q, which is not there: %d, %t, want %d", k, at, found, i)
		}
	}
}

// Where rows do not rise, it is the first place that meets what is said.
func TestP701FindFirstPlace(t *testing.T) {
	for _, x := range []struct {
		keys  []string
		key   string
		at    int
		found bool
	}{
		{[]string{"c", "a", "b"}, "b", 0, false},
		{[]string{"c", "a", "b"}, "a", 0, false},
		{[]string{"c", "a", "b"}, "c", 0, true},
		{[]string{"c", "a", "b"}, "d", 3, false},
		{[]string{"a", "c", "b"}, "b", 1, false},
		{[]string{"a", "c", "b", "d", "d"}, "d", 3, true},
		{[]string{"b", "b", "b"}, "b", 0, true},
		{[]string{"b", "b", "b"}, "a", 0, false},
		{[]string{"b", "b", "b"}, "c", 3, false},
		{[]string{"a", "b", "b", "b", "b", "b", "b"}, "b", 1, true},
		{[]string{"a", "a", "z", "a", "a", "a", "b"}, "b", 2, false},
		{[]string{"z", "y", "x", "w", "v"}, "w", 0, false},
		{[]string{"b", "a", "a", "a", "a", "a", "a", "a"}, "b", 0, true},
	} {
		if at, found := node.Find(rows(x.keys...), x.key); at != x.at || found != x.found {
			t.Errorf("Find(%q, %q): %d, %t, want %d, %t", x.keys, x.key, at, found, x.at, x.found)
		}
	}
}

func TestP701PutOrdinary(t *testing.T) {
	for _, x := range []struct {
		keys []string
		put  string
		want string
	}{
		{nil, "b", "b=new"},
		{nil, "", "=new"},
		{[]string{"b", "d"}, "", "=new b=v0 d=v1"},
		{[]string{"b", "d"}, "a", "a=new b=v0 d=v1"},
		{[]string{"b", "d"}, "b", "b=new d=v1"},
		{[]string{"b", "d"}, "c", "b=v0 c=new d=v1"},
		{[]string{"b", "d"}, "d", "b=v0 d=new"},
		{[]string{"b", "d"}, "e", "b=v0 d=v1 e=new"},
		{[]string{""}, "", "=new"},
		{[]string{"c", "a", "b"}, "b", "b=new c=v0 a=v1 b=v2"},
		{[]string{"c", "a", "b"}, "c", "c=new a=v1 b=v2"},
		{[]string{"c", "a", "b"}, "d", "c=v0 a=v1 b=v2 d=new"},
		{[]string{"b", "b", "b"}, "b", "b=new b=v1 b=v2"},
		{[]string{"b", "b", "b"}, "c", "b=v0 b=v1 b=v2 c=new"},
	} {
		if got := told(node.Put(rows(x.keys...), api.Row{Key: x.put, Value: "new"})); got != x.want {
			t.Errorf("Put of %q in %q: %s, want %s", x.put, x.keys, got, x.want)
		}
	}
}

// told is a list as a text.
func told(l []api.Row) string {
	var texts []string
	for _, r := range l {
		texts = append(texts, r.Key+"="+r.Value)
	}
	return strings.Join(texts, " ")
}

// The value is taken as it is, an empty one too, and is never asked.
func TestP701PutValues(t *testing.T) {
	for _, was := range []string{"", "v", "\x00", strings.Repeat("w", 1000)} {
		for _, is := range []string{"", "v", "\xff", strings.Repeat("x", 1000)} {
			l := []api.Row{{Key: "a"}, {Key: "b", Value: was}, {Key: "c"}}
			want := []api.Row{{Key: "a"}, {Key: "b", Value: is}, {Key: "c"}}
			if got := node.Put(l, api.Row{Key: "b", Value: is}); !slices.Equal(got, want) {
				t.Errorf("Put of %q over %q: %q", is, was, got)
			}
		}
	}
}

func TestP701CutOrdinary(t *testing.T) {
	for _, x := range []struct {
		keys []string
		cut  string
		want string
		ok   bool
	}{
		{nil, "", "", false},
		{nil, "a", "", false},
		{[]string{""}, "", "", true},
		{[]string{"a"}, "a", "", true},
		{[]string{"a"}, "", "a=v0", false},
		{[]string{"a"}, "b", "a=v0", false},
		{[]string{"a", "b", "c"}, "a", "b=v1 c=v2", true},
		{[]string{"a", "b", "c"}, "b", "a=v0 c=v2", true},
		{[]string{"a", "b", "c"}, "c", "a=v0 b=v1", true},
		{[]string{"a", "b", "c"}, "aa", "a=v0 b=v1 c=v2", false},
		{[]string{"a", "b", "c"}, "d", "a=v0 b=v1 c=v2", false},
		{[]string{"c", "a", "b"}, "b", "c=v0 a=v1 b=v2", false},
		{[]string{"c", "a", "b"}, "c", "a=v1 b=v2", true},
		{[]string{"b", "b", "b"}, "b", "b=v1 b=v2", true},
		{[]string{"a", "b", "a", "b"}, "b", "a=v0 a=v2 b=v3", true},
	} {
		got, ok := node.Cut(rows(x.keys...), x.cut)
		if told(got) != x.want || ok != x.ok {
			t.Errorf("Cut of %q from %q: %s, %t, want %s, %t", x.cut, x.keys, told(got), ok, x.want, x.ok)
		}
	}
}

func TestP701Halves(t *testing.T) {
	var l []api.Row
	for n := range 40 {
		first, others := node.Halves(l)
		if half := n/2 + n%2; !slices.Equal(first, l[:half]) || !slices.Equal(others, l[half:]) {
			t.Errorf("Halves of %d: %v and %v", n, first, others)
		}
		l = append(l, api.Row{Key: strconv.Itoa(n * 7 % 10), Value: strconv.Itoa(n)})
	}
}

func TestP701Rises(t *testing.T) {
	for _, x := range []struct {
		keys []string
		want bool
	}{
		{nil, true},
		{[]string{""}, true},
		{[]string{"a"}, true},
		{[]string{"", ""}, false},
		{[]string{"", "\x00"}, true},
		{[]string{"\x00", ""}, false},
		{[]string{"a", "b"}, true},
		{[]string{"b", "a"}, false},
		{[]string{"a", "a"}, false},
		{[]string{"a", "a\x00"}, true},
		{[]string{"a\x00", "a"}, false},
		{[]string{"9", "10"}, false},
		{[]string{"B", "a"}, true},
		{[]string{"\x7f", "\x80"}, true},
		{[]string{"\x80", "\x7f"}, false},
		{[]string{"a", "b", "c", "d"}, true},
		{[]string{"b", "a", "c", "d"}, false},
		{[]string{"a", "c", "b", "d"}, false},
		{[]string{"a", "b", "d", "c"}, false},
		{[]string{"a", "b", "c", "c"}, false},
		{[]string{"a", "a", "b", "c"}, false},
		{[]string{"a", "b", "c", "a"}, false},
	} {
		if got := node.Rises(rows(x.keys...)); got != x.want {
			t.Errorf("Rises(%q): %t", x.keys, got)
		}
	}
	for _, values := range [][]string{{"x", "x"}, {"y", "x"}, {"x", ""}} {
		if !node.Rises([]api.Row{{Key: "a", Value: values[0]}, {Key: "b", Value: values[1]}}) {
			t.Errorf("Rises looks at the values %q", values)
		}
		if node.Rises([]api.Row{{Key: "a", Value: values[1]}, {Key: "a", Value: values[0]}}) {
			t.Errorf("Rises looks at the values %q of one key", values)
		}
	}
}

// as checks all calls with this list and this key against the plain ones.
func as(l []api.Row, key string) string {
	at, found := node.Find(l, key)
	if wat, wfound := plainFind(l, key); at != wat || found != wfound {
		return fmt.Sprintf("Find(%q, %q): %d, %t, want %d, %t", l, key, at, found, wat, wfound)
	}
	r := api.Row{Key: key, Value: "new"}
	if got, want := node.Put(l, r), plainPut(l, r); !slices.Equal(got, want) {
		return fmt.Sprintf("Put(%q, %q): %q, want %q", l, key, got, want)
	}
	got, ok := node.Cut(l, key)
	if want, wok := plainCut(l, key); !slices.Equal(got, want) || ok != wok {
		return fmt.Sprintf("Cut(%q, %q): %q, %t, want %q, %t", l, key, got, ok, want, wok)
	}
	if got, want := node.Rises(l), plainRises(l); got != want {
		return fmt.Sprintf("Rises(%q): %t", l, got)
	}
	return ""
}

func TestP701Exhaustively(t *testing.T) {
	lists := append(allLists(fewKeys(), 4), allLists([]string{"a", "b", "c"}, 7)...)
	for _, l := range lists {
		for _, k := range append(fewKeys(), "a\xff", "c", "\xff\xff") {
			if wrong := as(l, k); wrong != "" {
				t.Fatal(wrong)
			}
		}
	}
}

// Rows that rise go on rising, whatever is put in and cut out; halves of them
// rise, and together they are the whole.
func TestP701ByChance(t *testing.T) {
	for seed := range 100 {
		chance := rand.New(rand.NewSource(int64(seed)))
		var l []api.Row
		values := map[string]string{}
		for step := range 200 {
			key, value := strconv.Itoa(chance.Intn(60)), strconv.Itoa(step)
			_, had := values[key]
			if chance.Intn(3) > 0 {
				l = node.Put(l, api.Row{Key: key, Value: value})
				values[key] = value
			} else {
				cut, ok := node.Cut(l, key)
				if ok != had {
					t.Fatalf("seed %d: Cut of %q: %t", seed, key, ok)
				}
				l = cut
				delete(values, key)
			}
			if !node.Rises(l) || len(l) != len(values) {
				t.Fatalf("seed %d: %q, want %q", seed, l, values)
			}
			for i, r := range l {
				if at, found := node.Find(l, r.Key); at != i || !found || values[r.Key] != r.Value {
					t.Fatalf("seed %d: Find of %q: %d, %t, %q", seed, r.Key, at, found, r.Value)
				}
			}
			first, others := node.Halves(l)
			if !node.Rises(first) || !node.Rises(others) || !slices.Equal(append(first, others...), l) {
				t.Fatalf("seed %d: Halves of %q: %q and %q", seed, l, first, others)
			}
		}
	}
}

// Nothing hangs on how many rows there are, nor on how long a key is.
func TestP701Many(t *testing.T) {
	const n = 100000
	long := strings.Repeat("k", 1<<20)
	var l []api.Row
	for i := range n {
		l = append(l, api.Row{Key: fmt.Sprintf("%08d", 2*i)})
	}
	l = append(l, api.Row{Key: long}, api.Row{Key: long + "b"})
	if !node.Rises(l) || node.Rises(append(slices.Clone(l), api.Row{Key: long + "a"})) {
		t.Error("Rises of many rows")
	}
	for _, k := range []string{"", "00000000", "00000001", "00099999", "00100000", "00199998", "00199999", long, long + "a", long + "b", long + "c"} {
		if wrong := as(l, k); wrong != "" {
			t.Errorf("many rows, a key of %d bytes: another answer", len(k))
		}
	}
	first, others := node.Halves(l)
	if len(first) != n/2+1 || !slices.Equal(append(first, others...), l) {
		t.Errorf("Halves of many rows: %d and %d", len(first), len(others))
	}
}

// lists has what all calls answer of a list and a key.
func lists(l []api.Row, key string) map[string][]api.Row {
	cut, _ := node.Cut(l, key)
	first, others := node.Halves(l)
	return map[string][]api.Row{"Put": node.Put(l, api.Row{Key: key, Value: "new"}), "Cut": cut, "first": first, "others": others}
}

// fill writes over a list and all of its spare room.
func fill(l []api.Row) {
	l = l[:cap(l)]
	for i := range l {
		l[i] = api.Row{Key: "fill", Value: "fill"}
	}
}

// The list stands in the middle of a greater one: so a call that writes ahead
// of it, in it, or in its spare room is seen.
func TestP702WhatIsHandedIn(t *testing.T) {
	for _, l := range allLists(fewKeys(), 3) {
		for _, key := range fewKeys() {
			for _, spare := range []int{0, 1, 5} {
				room := slices.Concat(rows("ahead"), l, rows("p", "q", "r", "s", "t")[:spare])
				was := slices.Clone(room)
				given := room[1 : 1+len(l)]
				node.Find(given, key)
				node.Rises(given)
				for name, got := range lists(given, key) {
					fill(got)
					if !slices.Equal(room, was) {
						t.Fatalf("%s of %q, %q shares what was handed in, or changes it: %q", name, l, key, room)
					}
				}
			}
		}
	}
}

// What was handed in is not kept: it changes, and no answer does.
func TestP702NotKept(t *testing.T) {
	for _, l := range allLists(fewKeys(), 3) {
		for _, key := range fewKeys() {
			given := append(slices.Clone(l), rows("p", "q")...)[:len(l)]
			got, want := lists(given, key), lists(slices.Clone(l), key)
			fill(given)
			for name := range want {
				if !slices.Equal(got[name], want[name]) {
					t.Fatalf("%s of %q, %q changes with what was handed in: %q", name, l, key, got[name])
				}
			}
		}
	}
}

// No two answers share memory, the two of Halves neither.
func TestP702AnswersAreNewMemory(t *testing.T) {
	for _, l := range allLists(fewKeys(), 3) {
		for _, key := range fewKeys() {
			want := lists(slices.Clone(l), key)
			for changed := range want {
				got, again := lists(l, key), lists(l, key)
				fill(got[changed])
				for name := range want {
					if name != changed && !slices.Equal(got[name], want[name]) {
						t.Fatalf("%q, %q: %s changes with %s", l, key, name, changed)
					}
					if !slices.Equal(again[name], want[name]) {
						t.Fatalf("%q, %q: %s of two calls is shared", l, key, name)
					}
				}
			}
		}
	}
}

// nil, an empty list, and one whose room lies ready mean the same.
func TestP702Nil(t *testing.T) {
	for _, l := range [][]api.Row{nil, {}, make([]api.Row, 0, 4), rows("a", "b")[:0], rows("a", "b")[2:]} {
		for _, key := range fewKeys() {
			if wrong := as(l, key); wrong != "" {
				t.Error(wrong)
			}
			if at, found := node.Find(l, key); at != 0 || found {
				t.Errorf("Find of nothing: %d, %t", at, found)
			}
		}
		if first, others := node.Halves(l); len(first) != 0 || len(others) != 0 {
			t.Errorf("Halves of nothing: %q and %q", first, others)
		}
		if !node.Rises(l) {
			t.Error("nothing does not rise")
		}
	}
}

// Many at once, with one list: each one is told what it was told alone.
func TestP702HangsOnArguments(t *testing.T) {
	l := rows("b", "d", "f", "f", "a")[:4]
	tell := func() string {
		var b strings.Builder
		for _, key := range []string{"", "a", "b", "c", "f", "g"} {
			at, found := node.Find(l, key)
			cut, ok := node.Cut(l, key)
			first, others := node.Halves(l)
			fmt.Fprint(&b, at, found, node.Put(l, api.Row{Key: key}), cut, ok, first, others, node.Rises(l), node.Rises(l[:3]))
		}
		return b.String()
	}
	want := tell()
	got := make([]string, 16)
	var group sync.WaitGroup
	for i := range got {
		group.Add(1)
		go func() {
			defer group.Done()
			node.Put(rows("x", strconv.Itoa(i)), api.Row{Key: "other"})
			got[i] = tell()
		}()
	}
	group.Wait()
	for i := range got {
		if got[i] != want {
			t.Errorf("call %d answers %s, the first one %s", i, got[i], want)
		}
	}
}

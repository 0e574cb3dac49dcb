package rows_test

import (
	"fmt"
	"maps"
	"math/rand"
	"slices"
	"strconv"
	"strings"
	"sync"
	"testing"

	"poste/api"
	"poste/rows"
)

// table has one row of each key; the value tells its place.
func table(keys ...string) []api.Row {
	var l []api.Row
	for i, k := range keys {
		l = append(l, api.Row{Key: k, Value: "v" + strconv.Itoa(i)})
	}
	return l
}

// told is a list as a text.
func told(l []api.Row) string {
	var texts []string
	for _, r := range l {
		texts = append(texts, r.Key+"="+r.Value)
	}
	return strings.Join(texts, " ")
}

// edgeKeys are keys at the edges of bytes, rising.
func edgeKeys() []string { return []string{"", "\x00", "a", "a\x00", "b", "\x80", "\xff"} }

// tables are all lists of at most n rows of these keys, those that rise and
// those that do not.
func tables(keys []string, n int) [][]api.Row {
	all := [][]api.Row{nil}
	for from := 0; n > 0; n-- {
		to := len(all)
		for _, l := range all[from:to] {
			for _, k := range keys {
				all = append(all, append(slices.Clone(l), api.Row{Key: k, Value: "v" + strconv.Itoa(len(l))}))
			}
		}
		from = to
	}
	return all
}

// place is the first place whose Key is not ahead of key, and whether it is
// key, looked for from the end on.
func place(l []api.Row, key string) (int, bool) {
	at := len(l)
	for i := len(l) - 1; i >= 0; i-- {
		if l[i].Key >= key {
			at = i
		}
	}
	return at, at < len(l) && l[at].Key == key
}

// plainRange is the document's words: from from up to to, an empty to behind
// all.
func plainRange(l []api.Row, from, to string) []api.Row {
	l = slices.Clone(l)
	return slices.DeleteFunc(l, func(r api.Row) bool {
		return r.Key < from || to != "" && r.Key >= to
	})
}

// as checks all calls but Range and Right with this list and this key.
func as(l []api.Row, key string) string {
	at, there := place(l, key)
	value := ""
	with, without := slices.Clone(l), slices.Clone(l)
	r := api.Row{Key: key, Value: "new"}
	if there {
		value = l[at].Value
		with[at] = r
		without = slices.Delete(without, at, at+1)
	} else {
		with = slices.Insert(with, at, r)
	}
	if got, ok := rows.Get(l, key); got != value || ok != there {
		return fmt.Sprintf("Get(%q, %q): %q, %t, want %q, %t", l, key, got, ok, value, there)
	}
	if got := rows.Put(l, r); !slices.Equal(got, with) {
		return fmt.Sprintf("Put(%q, %q): %q, want %q", l, key, got, with)
	}
	if got, ok := rows.Cut(l, key); !slices.Equal(got, without) || ok != there {
		return fmt.Sprintf("Cut(%q, %q): %q, %t, want %q, %t", l, key, got, ok, without, there)
	}
	return ""
}

func TestP1701GetOrdinary(t *testing.T) {
	l := table("b", "d", "f")
	for _, x := range []struct {
		l     []api.Row
		key   string
		value string
		ok    bool
	}{
		{nil, "", "", false},
		{nil, "a", "", false},
		{[]api.Row{}, "a", "", false},
		{l, "", "", false},
		{l, "a", "", false},
		{l, "b", "v0", true},
		{l, "b\x00", "", false},
		{l, "c", "", false},
		{l, "d", "v1", true},
		{l, "e", "", false},
		{l, "f", "v2", true},
		{l, "ff", "", false},
		{l, "g", "", false},
		{l, "D", "", false},
		{l, "v1", "", false},
		{table(""), "", "v0", true},
		{table("", "a"), "a", "v1", true},
		{[]api.Row{{Key: "a"}}, "a", "", true},
		{[]api.Row{{Key: "a", Value: "\x00\xff"}}, "a", "\x00\xff", true},
		{table("b", "b", "b"), "b", "v0", true},
		{table("c", "a", "b"), "c", "v0", true},
		{table("c", "a", "b"), "a", "", false},
		{table("c", "a", "b"), "b", "", false},
		{table("a", "c", "b", "d", "d"), "d", "v3", true},
	} {
		if value, ok := rows.Get(x.l, x.key); value != x.value || ok != x.ok {
			t.Errorf("Get(%q, %q): %q, %t, want %q, %t", x.l, x.key, value, ok, x.value, x.ok)
		}
	}
}

func TestP1701PutOrdinary(t *testing.T) {
	for _, x := range []struct {
		keys []string
		put  string
		want string
	}{
		{nil, "b", "b=new"},
		{nil, "", "=new"},
		{[]string{"b", "d"}, "", "=new b=v0 d=v1"},
		{[]string{"b", "d"}, "a", "a=new b=v0 d=v1"},
		{[]string{"b", "d"}, "b", "b=new d=v1"},
		{[]string{"b", "d"}, "b\x00", "b=v0 b\x00=new d=v1"},
		{[]string{"b", "d"}, "c", "b=v0 c=new d=v1"},
		{[]string{"b", "d"}, "d", "b=v0 d=new"},
		{[]string{"b", "d"}, "e", "b=v0 d=v1 e=new"},
		{[]string{"10", "9"}, "8", "10=v0 8=new 9=v1"},
		{[]string{"a", "\x7f"}, "\x80", "a=v0 \x7f=v1 \x80=new"},
		{[]string{"c", "a", "b"}, "b", "b=new c=v0 a=v1 b=v2"},
		{[]string{"b", "b", "b"}, "b", "b=new b=v1 b=v2"},
	} {
		if got := told(rows.Put(table(x.keys...), api.Row{Key: x.put, Value: "new"})); got != x.want {
			t.Errorf("Put of %q in %q: %q, want %q", x.put, x.keys, got, x.want)
		}
	}
}

// A row is put in as it is, also one that is not Right.
func TestP1701PutAsItIs(t *testing.T) {
	for _, r := range []api.Row{
		{}, {Key: "a"}, {Key: "a", Value: "\xff"}, {Value: "v"},
		{Key: strings.Repeat("k", api.MaxKey+1), Value: strings.Repeat("v", api.MaxValue+1)},
	} {
		if got := rows.Put(nil, r); !slices.Equal(got, []api.Row{r}) {
			t.Errorf("Put of %q: %q", r, got)
		}
		over := []api.Row{{Key: r.Key, Value: "was"}}
		if got := rows.Put(over, r); !slices.Equal(got, []api.Row{r}) {
			t.Errorf("Put of %q over another one: %q", r, got)
		}
		if value, ok := rows.Get([]api.Row{r}, r.Key); value != r.Value || !ok {
			t.Errorf("Get of %q: %q, %t", r, value, ok)
		}
	}
}

func TestP1701CutOrdinary(t *testing.T) {
	for _, x := range []struct {
		keys []string
		cut  string
		want string
		ok   bool
	}{
		{nil, "", "", false},
		{nil, "a", "", false},
		{[]string{""}, "", "", true},
		{[]string{"a"}, "a", "", true},
		{[]string{"a"}, "", "a=v0", false},
		{[]string{"a"}, "a\x00", "a=v0", false},
		{[]string{"a", "b", "c"}, "a", "b=v1 c=v2", true},
		{[]string{"a", "b", "c"}, "b", "a=v0 c=v2", true},
		{[]string{"a", "b", "c"}, "c", "a=v0 b=v1", true},
		{[]string{"a", "b", "c"}, "aa", "a=v0 b=v1 c=v2", false},
		{[]string{"a", "b", "c"}, "d", "a=v0 b=v1 c=v2", false},
		{[]string{"c", "a", "b"}, "b", "c=v0 a=v1 b=v2", false},
		{[]string{"b", "b", "b"}, "b", "b=v1 b=v2", true},
		{[]string{"a", "b", "a", "b"}, "b", "a=v0 a=v2 b=v3", true},
	} {
		got, ok := rows.Cut(table(x.keys...), x.cut)
		if told(got) != x.want || ok != x.ok {
			t.Errorf("Cut of %q from %q: %q, %t, want %q, %t", x.cut, x.keys, told(got), ok, x.want, x.ok)
		}
	}
}

func TestP1701RangeOrdinary(t *testing.T) {
	l := []string{"b", "d", "d\x00", "f", "\xff"}
	for _, x := range []struct {
		keys     []string
		from, to string
		want     string
	}{
		{nil, "", "", ""},
		{nil, "a", "b", ""},
		{l, "", "", "b=v0 d=v1 d\x00=v2 f=v3 \xff=v4"},
		{l, "", "b", ""},
		{l, "", "b\x00", "b=v0"},
		{l, "", "e", "b=v0 d=v1 d\x00=v2"},
		{l, "b", "d", "b=v0"},
		{l, "b", "d\x00", "b=v0 d=v1"},
		{l, "b\x00", "f", "d=v1 d\x00=v2"},
		{l, "d", "d", ""},
		{l, "d", "d\x00", "d=v1"},
		{l, "d\x00", "d", ""},
		{l, "d\x00", "d\x00\x00", "d\x00=v2"},
		{l, "f", "b", ""},
		{l, "f", "", "f=v3 \xff=v4"},
		{l, "c", "\xff", "d=v1 d\x00=v2 f=v3"},
		{l, "c", "\xff\x00", "d=v1 d\x00=v2 f=v3 \xff=v4"},
		{l, "\xff", "", "\xff=v4"},
		{l, "\xff\x00", "", ""},
		{l, "a", "a", ""},
		{[]string{"", "a"}, "", "", "=v0 a=v1"},
		{[]string{"", "a"}, "", "\x00", "=v0"},
		{[]string{"", "a"}, "\x00", "", "a=v1"},
		{[]string{"10", "9"}, "1", "2", "10=v0"},
		{[]string{"B", "a", "b"}, "A", "b", "B=v0 a=v1"},
		{[]string{"\x7f", "\x80"}, "\x7f", "\x80", "\x7f=v0"},
		{[]string{"f", "b", "d", "a", "d"}, "b", "e", "b=v1 d=v2 d=v4"},
		{[]string{"z", "a", "z", "b"}, "a", "c", "a=v1 b=v3"},
		{[]string{"c", "a", "c"}, "b", "", "c=v0 c=v2"},
	} {
		if got := told(rows.Range(table(x.keys...), x.from, x.to)); got != x.want {
			t.Errorf("Range of %q from %q to %q: %q, want %q", x.keys, x.from, x.to, got, x.want)
		}
	}
}

// Lengths are counted in bytes, whatever they spell.
func TestP1701Right(t *testing.T) {
	long := strings.Repeat
	for _, x := range []struct {
		name       string
		key, value string
		want       bool
	}{
		{"the zero row", "", "", false},
		{"no key", "", "v", false},
		{"one byte", "k", "", true},
		{"a byte 0", "\x00", "\x00", true},
		{"a byte 255", "\xff", "\xff", true},
		{"a key one short of the most", long("k", api.MaxKey-1), "v", true},
		{"the longest key", long("k", api.MaxKey), "", true},
		{"a key of one byte more", long("k", api.MaxKey+1), "", false},
		{"a key as long as a value may be", long("k", api.MaxValue), "", false},
		{"a value as long as a key may be", "k", long("v", api.MaxKey), true},
		{"a value longer than a key", "k", long("v", api.MaxKey+1), true},
		{"a value one short of the most", "k", long("v", api.MaxValue-1), true},
		{"the longest value", "k", long("v", api.MaxValue), true},
		{"a value of one byte more", "k", long("v", api.MaxValue+1), false},
		{"both the longest", long("k", api.MaxKey), long("v", api.MaxValue), true},
		{"both too long", long("k", api.MaxKey+1), long("v", api.MaxValue+1), false},
		{"no key and the longest value", "", long("v", api.MaxValue), false},
		{"the most bytes in fewer letters", long("é", api.MaxKey/2), long("é", api.MaxValue/2), true},
		{"a key of few letters and too many bytes", long("é", api.MaxKey/2) + "k", "", false},
		{"a value of few letters and too many bytes", "k", long("é", api.MaxValue/2) + "v", false},
		{"the longest of bytes 0", long("\x00", api.MaxKey), long("\x00", api.MaxValue), true},
		{"too many bytes 0", long("\x00", api.MaxKey+1), "", false},
		{"a great key", long("k", 1<<20), "", false},
		{"a great value", "k", long("v", 1<<20), false},
	} {
		if got := rows.Right(api.Row{Key: x.key, Value: x.value}); got != x.want {
			t.Errorf("Right of %s: %t", x.name, got)
		}
	}
}

func TestP1701RightEachLength(t *testing.T) {
	for k := range 2 * api.MaxKey {
		for v := range 2 * api.MaxValue {
			r := api.Row{Key: strings.Repeat("k", k), Value: strings.Repeat("v", v)}
			want := k >= 1 && k <= 40 && v <= 100
			if got := rows.Right(r); got != want {
				t.Fatalf("Right of %d and %d bytes: %t", k, v, got)
			}
		}
	}
}

func TestP1701Exhaustively(t *testing.T) {
	keys := append(edgeKeys(), "a\xff", "\xff\xff")
	for _, l := range append(tables(edgeKeys(), 4), tables([]string{"a", "b"}, 8)...) {
		for _, key := range keys {
			if wrong := as(l, key); wrong != "" {
				t.Fatal(wrong)
			}
			for _, to := range keys {
				if got, want := rows.Range(l, key, to), plainRange(l, key, to); !slices.Equal(got, want) {
					t.Fatalf("Range(%q, %q, %q): %q, want %q", l, key, to, got, want)
				}
			}
		}
	}
}

// Long runs beside a map: rows that rise go on rising, whatever is put in and
// cut out, and a range of them has just those of the map that are in it.
func TestP1701ByChance(t *testing.T) {
	for seed := range 60 {
		chance := rand.New(rand.NewSource(int64(seed)))
		some := func() string { return strconv.FormatInt(chance.Int63n(81), 3) }
		var l []api.Row
		values := map[string]string{}
		for step := range 200 {
			key, value := some(), strconv.Itoa(step)
			was, had := values[key]
			if got, ok := rows.Get(l, key); got != was || ok != had {
				t.Fatalf("seed %d: Get of %q: %q, %t", seed, key, got, ok)
			}
			if chance.Intn(3) > 0 {
				l, values[key] = rows.Put(l, api.Row{Key: key, Value: value}), value
			} else {
				cut, ok := rows.Cut(l, key)
				if ok != had {
					t.Fatalf("seed %d: Cut of %q: %t", seed, key, ok)
				}
				delete(values, key)
				l = cut
			}
			from, to := some(), some()
			var want []api.Row
			for _, k := range slices.Sorted(maps.Keys(values)) {
				if from <= k && k < to {
					want = append(want, api.Row{Key: k, Value: values[k]})
				}
			}
			if got := rows.Range(l, from, to); !slices.Equal(got, want) {
				t.Fatalf("seed %d: Range from %q to %q: %q, want %q", seed, from, to, got, want)
			}
			if got := rows.Range(l, "", ""); !slices.Equal(got, l) || len(l) != len(values) {
				t.Fatalf("seed %d: Range of all: %q, want %q", seed, got, values)
			}
		}
	}
}

// Nothing hangs on how many rows there are, nor on how long a key is.
func TestP1701Many(t *testing.T) {
	const n = 100000
	long := strings.Repeat("k", 1<<20)
	var l []api.Row
	for i := range n {
		l = append(l, api.Row{Key: fmt.Sprintf("%08d", 2*i), Value: strconv.Itoa(i)})
	}
	l = append(l, api.Row{Key: long, Value: "long"}, api.Row{Key: long + "b"})
	for _, k := range []string{"", "00000000", "00000001", "00099998", "00199998", "00199999", long, long + "a", long + "b", long + "c"} {
		if as(l, k) != "" {
			t.Errorf("many rows, a key of %d bytes: another answer", len(k))
		}
	}
	for _, x := range []struct {
		from, to string
		at, n    int
	}{
		{"", "", 0, n + 2}, {"", "00000001", 0, 1}, {"00000001", "00199998", 1, n - 2},
		{"00199998", long, n - 1, 1}, {long, long + "b", n, 1}, {long + "a", "", n + 1, 1},
	} {
		if got := rows.Range(l, x.from, x.to); !slices.Equal(got, l[x.at:x.at+x.n]) {
			t.Errorf("a Range of many rows that should have %d: %d", x.n, len(got))
		}
	}
}

// lists has what all calls answer of a list and a key.
func lists(l []api.Row, key string) map[string][]api.Row {
	cut, _ := rows.Cut(l, key)
	return map[string][]api.Row{
		"Put":              rows.Put(l, api.Row{Key: key, Value: "new"}),
		"Cut":              cut,
		"Range from":       rows.Range(l, key, ""),
		"Range up to":      rows.Range(l, "", key),
		"Range of all":     rows.Range(l, "", ""),
		"Range of nothing": rows.Range(l, "b", "a"),
	}
}

// fill writes over a list and all of its spare room.
func fill(l []api.Row) {
	l = l[:cap(l)]
	for i := range l {
		l[i] = api.Row{Key: "fill", Value: "fill"}
	}
}

// The list stands in the middle of a greater one: so a call that writes ahead
// of it, in it, or in its spare room is seen, and so is an answer that shares.
func TestP1702WhatIsHandedIn(t *testing.T) {
	for _, l := range tables(edgeKeys(), 3) {
		for _, key := range edgeKeys() {
			for _, spare := range []int{0, 1, 5} {
				room := slices.Concat(table("ahead"), l, table("p", "q", "r", "s", "t")[:spare])
				was := slices.Clone(room)
				given := room[1 : 1+len(l)]
				rows.Get(given, key)
				for name, got := range lists(given, key) {
					fill(got)
					if !slices.Equal(room, was) {
						t.Fatalf("%s of %q, %q shares what was handed in, or changes it: %q", name, l, key, room)
					}
				}
			}
		}
	}
}

// What was handed in is not kept: it changes, and no answer does.
func TestP1702NotKept(t *testing.T) {
	for _, l := range tables(edgeKeys(), 3) {
		for _, key := range edgeKeys() {
			given := append(slices.Clone(l), table("p", "q")...)[:len(l)]
			got, want := lists(given, key), lists(slices.Clone(l), key)
			fill(given)
			for name := range want {
				if !slices.Equal(got[name], want[name]) {
					t.Fatalf("%s of %q, %q changes with what was handed in: %q", name, l, key, got[name])
				}
			}
		}
	}
}

// No two answers share memory.
func TestP1702AnswersAreNewMemory(t *testing.T) {
	for _, l := range tables(edgeKeys(), 3) {
		for _, key := range edgeKeys() {
			want := lists(slices.Clone(l), key)
			for changed := range want {
				got := lists(l, key)
				fill(got[changed])
				for name := range want {
					if name != changed && !slices.Equal(got[name], want[name]) {
						t.Fatalf("%q, %q: %s changes with %s", l, key, name, changed)
					}
				}
			}
		}
	}
}

// nil, an empty list, and one whose room lies ready mean the same.
func TestP1702Nil(t *testing.T) {
	for _, l := range [][]api.Row{nil, {}, make([]api.Row, 0, 4), table("a", "b")[:0], table("a", "b")[2:]} {
		for _, key := range edgeKeys() {
			if wrong := as(l, key); wrong != "" {
				t.Error(wrong)
			}
			if value, ok := rows.Get(l, key); value != "" || ok {
				t.Errorf("Get of nothing: %q, %t", value, ok)
			}
			if got := slices.Concat(rows.Range(l, key, ""), rows.Range(l, "", key)); len(got) != 0 {
				t.Errorf("Range of nothing: %q", got)
			}
		}
	}
}

// Many at once, with one list: each one is told what it was told alone.
func TestP1702HangsOnArguments(t *testing.T) {
	l := table("b", "d", "f", "f", "a")[:4]
	tell := func() string {
		var b strings.Builder
		for _, key := range []string{"", "a", "b", "c", "f", "g"} {
			value, ok := rows.Get(l, key)
			_, cut := rows.Cut(l, key)
			fmt.Fprint(&b, value, ok, cut, lists(l, key), rows.Right(api.Row{Key: key}))
		}
		return b.String()
	}
	want := tell()
	got := make([]string, 16)
	var group sync.WaitGroup
	for i := range got {
		group.Go(func() {
			rows.Put(table("x", strconv.Itoa(i)), api.Row{Key: "other"})
			got[i] = tell()
		})
	}
	group.Wait()
	for i := range got {
		if got[i] != want {
			t.Errorf("call %d answers %s, the first one %s", i, got[i], want)
		}
	}
}

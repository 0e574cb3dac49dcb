package tree_test

import (
	"fmt"
	"slices"
	"strconv"
	"strings"
	"sync"
	"testing"

	"poste/api"
	"poste/tree"
)

// rows has one row of each key; the value tells its place.
func rows(keys ...string) []api.Row {
	var l []api.Row
	for i, k := range keys {
		l = append(l, api.Row{Key: k, Value: "v" + strconv.Itoa(i)})
	}
	return l
}

// many has n rows, rising.
func many(n int) []api.Row {
	var l []api.Row
	for i := range n {
		l = append(l, api.Row{Key: fmt.Sprintf("%06d", i), Value: strconv.Itoa(i)})
	}
	return l
}

// told is a list as a text.
func told(l []api.Row) string {
	var texts []string
	for _, r := range l {
		texts = append(texts, r.Key+"="+r.Value)
	}
	return strings.Join(texts, " ")
}

// fill writes over a list and all of its spare room.
func fill(l []api.Row) {
	l = l[:cap(l)]
	for i := range l {
		l[i] = api.Row{Key: "fill", Value: "fill"}
	}
}

func TestP801New(t *testing.T) {
	for _, x := range []struct {
		keys []string
		want string
	}{
		{nil, ""},
		{[]string{""}, "=v0"},
		{[]string{"b"}, "b=v0"},
		{[]string{"b", "a", "c"}, "a=v1 b=v0 c=v2"},
		{[]string{"b", "b"}, "b=v1"},
		{[]string{"b", "a", "b", "a", "b"}, "a=v3 b=v4"},
		{[]string{"", "a", ""}, "=v2 a=v1"},
		{[]string{"f", "e", "d", "c", "b", "a", "g", "c"}, "a=v5 b=v4 c=v7 d=v2 e=v1 f=v0 g=v6"},
	} {
		l := tree.New(rows(x.keys...)...)
		if got := told(l.All()); got != x.want || l.Len() != len(l.All()) {
			t.Errorf("New of %q: %s, Len %d", x.keys, got, l.Len())
		}
	}
	if got := told(tree.New(api.Row{Key: "b"}, api.Row{Key: "a", Value: "x"}).All()); got != "a=x b=" {
		t.Errorf("New of two rows: %s", got)
	}
}

func TestP801PutAndGet(t *testing.T) {
	l := tree.New()
	for i, x := range []struct {
		key, value string
		fresh      bool
		want       string
	}{
		{"b", "1", true, "b=1"},
		{"b", "2", false, "b=2"},
		{"b", "2", false, "b=2"},
		{"b", "", false, "b="},
		{"a", "", true, "a= b="},
		{"", "0", true, "=0 a= b="},
		{"", "00", false, "=00 a= b="},
		{"b\x00", "3", true, "=00 a= b= b\x00=3"},
		{"B", "4", true, "=00 B=4 a= b= b\x00=3"},
		{"\xff", "5", true, "=00 B=4 a= b= b\x00=3 \xff=5"},
		{"\xff\xff", "6", true, "=00 B=4 a= b= b\x00=3 \xff=5 \xff\xff=6"},
		{"a", "7", false, "=00 B=4 a=7 b= b\x00=3 \xff=5 \xff\xff=6"},
	} {
		if fresh := l.Put(api.Row{Key: x.key, Value: x.value}); fresh != x.fresh {
			t.Errorf("Put %d: %t", i, fresh)
		}
		if got := told(l.All()); got != x.want {
			t.Errorf("Put %d: %q, want %q", i, got, x.want)
		}
		if got, ok := l.Get(x.key); got != x.value || !ok {
			t.Errorf("Get %d: %q, %t", i, got, ok)
		}
	}
}

func TestP801GetOfNone(t *testing.T) {
	full := tree.New(many(100)...)
	for _, x := range []struct {
		l   *tree.Tree
		key string
	}{
		{tree.New(), ""},
		{tree.New(), "a"},
		{tree.New(rows("b")...), ""},
		{tree.New(rows("b")...), "a"},
		{tree.New(rows("b")...), "c"},
		{tree.New(rows("b")...), "b\x00"},
		{tree.New(rows("b")...), "B"},
		{tree.New(rows("b")...), "v0"},
		{full, ""},
		{full, "000000\x00"},
		{full, "00005"},
		{full, "000049a"},
		{full, "0000990"},
		{full, "000100"},
		{full, "\xff"},
	} {
		before := told(x.l.All())
		if got, ok := x.l.Get(x.key); got != "" || ok {
			t.Errorf("Get of %q: %q, %t", x.key, got, ok)
		}
		if x.l.Cut(x.key) {
			t.Errorf("Cut of %q: true", x.key)
		}
		if told(x.l.All()) != before {
			t.Errorf("Cut of %q: another tree", x.key)
		}
	}
}

func TestP801Cut(t *testing.T) {
	l := tree.New(rows("", "a", "a\x00", "b", "\xff")...)
	for i, x := range []struct {
		key  string
		had  bool
		want string
	}{
		{"a", true, "=v0 a\x00=v2 b=v3 \xff=v4"},
		{"a", false, "=v0 a\x00=v2 b=v3 \xff=v4"},
		{"", true, "a\x00=v2 b=v3 \xff=v4"},
		{"", false, "a\x00=v2 b=v3 \xff=v4"},
		{"\xff", true, "a\x00=v2 b=v3"},
		{"b", true, "a\x00=v2"},
		{"a\x00", true, ""},
		{"a\x00", false, ""},
	} {
		if had := l.Cut(x.key); had != x.had {
			t.Errorf("Cut %d: %t", i, had)
		}
		if got := told(l.All()); got != x.want || l.Len() != len(l.All()) {
			t.Errorf("Cut %d: %q, Len %d, want %q", i, got, l.Len(), x.want)
		}
		if got, ok := l.Get(x.key); got != "" || ok {
			t.Errorf("Get %d behind Cut: %q, %t", i, got, ok)
		}
	}
	if !l.Put(api.Row{Key: "a", Value: "again"}) || told(l.All()) != "a=again" {
		t.Errorf("Put behind Cut: %s", told(l.All()))
	}
}

// A row that is put over another one, anywhere in a deep tree, turns nothing
// but its value.
func TestP801PutOver(t *testing.T) {
	want := many(300)
	l := tree.New(want...)
	height := l.Height()
	for i := range want {
		want[i].Value = "new"
		if l.Put(want[i]) {
			t.Fatalf("Put over %q: true", want[i].Key)
		}
		if l.Height() != height || l.Len() != len(want) || !slices.Equal(l.All(), want) {
			t.Fatalf("Put over %q: another tree", want[i].Key)
		}
	}
}

func TestP801Rising(t *testing.T) {
	keys := []string{
		"", "\x00", "\x00\x00", "\x01", "10", "9", "B", "a", "a\x00", "a ", "ab", "b", "\x7f",
		"\x80", "\xc3\xa9", "\xef\xbf\xbf", "\xf0\x90\x80\x80", "\xff", "\xff\xff",
	}
	for turn := range keys {
		l := tree.New(rows(slices.Concat(keys[turn:], keys[:turn])...)...)
		var got []string
		for _, r := range l.All() {
			got = append(got, r.Key)
		}
		if !slices.Equal(got, keys) {
			t.Errorf("turned by %d: %q", turn, got)
		}
	}
}

// From begins at each place, between each two, and ends where it is told to.
func TestFrom(t *testing.T) {
	for n := range 60 {
		l, want := tree.New(many(n)...), many(n)
		if got := slices.Collect(l.From("")); !slices.Equal(got, want) {
			t.Fatalf("From the first of %d rows on: %v", n, got)
		}
		for at, r := range want {
			if got := slices.Collect(l.From(r.Key)); !slices.Equal(got, want[at:]) {
				t.Fatalf("From row %d of %d on: %v", at, n, got)
			}
			if got := slices.Collect(l.From(r.Key + "\x00")); !slices.Equal(got, want[at+1:]) {
				t.Fatalf("From behind row %d of %d on: %v", at, n, got)
			}
			var got []api.Row
			for r := range l.From("") {
				got = append(got, r)
				if len(got) > at {
					break
				}
			}
			if !slices.Equal(got, want[:at+1]) {
				t.Fatalf("From, ended at row %d of %d: %v", at, n, got)
			}
		}
	}
	var none *tree.Tree
	for r := range none.From("") {
		t.Errorf("From a nil tree: %v", r)
	}
}

// Rows that come and go on the way turn nothing of what From goes over.
func TestFromOfATreeThatChanges(t *testing.T) {
	l, want := tree.New(many(100)...), many(100)
	var got []api.Row
	for r := range l.From("") {
		got = append(got, r)
		l.Cut(r.Key)
		l.Put(api.Row{Key: r.Key + "x"})
	}
	if !slices.Equal(got, want) || l.Len() != len(want) {
		t.Errorf("From: %v", got)
	}
}

// Nothing is refused: keys and values may be longer than those of tables.
func TestP801Long(t *testing.T) {
	long := strings.Repeat("k", 1<<20)
	l := tree.New()
	for _, behind := range []string{"c", "", "b", "a"} {
		if !l.Put(api.Row{Key: long + behind, Value: long + "v" + behind}) {
			t.Errorf("Put of a long key and %q", behind)
		}
	}
	for i, behind := range []string{"", "a", "b", "c"} {
		if v, ok := l.Get(long + behind); v != long+"v"+behind || !ok {
			t.Errorf("Get of a long key and %q", behind)
		}
		if l.All()[i].Key != long+behind {
			t.Errorf("All: another row at %d", i)
		}
	}
	if l.Cut(long+"d") || !l.Cut(long) || l.Len() != 3 {
		t.Error("Cut of a long key")
	}
}

// bound is the greatest height that the document has of n rows.
func bound(n int) int {
	often := 0
	for ; n > 0; n /= api.Fan / 2 {
		often++
	}
	return 2 + often
}

func TestP801Height(t *testing.T) {
	if got := tree.New().Height(); got != 1 {
		t.Errorf("Height of a new one: %d", got)
	}
	for _, l := range [][]api.Row{many(5000), backwards(many(5000))} {
		up := tree.New()
		for i, r := range l {
			up.Put(r)
			if got := up.Height(); got > bound(i+1) || (got == 1) != (i < api.Fan) {
				t.Fatalf("Height with %d rows: %d", i+1, got)
			}
		}
		for i, r := range l {
			up.Cut(r.Key)
			if got := up.Height(); got > bound(len(l)-i-1) || got > 1 && up.Len() < api.Fan {
				t.Fatalf("Height with %d rows left: %d", up.Len(), got)
			}
		}
		if up.Height() != 1 {
			t.Errorf("Height without rows: %d", up.Height())
		}
	}
}

func backwards(l []api.Row) []api.Row {
	slices.Reverse(l)
	return l
}

func TestP801HeightOfMany(t *testing.T) {
	const n = 200000
	l := tree.New(many(n)...)
	if got := l.Height(); got < 7 || got > 11 || l.Len() != n {
		t.Errorf("Height of %d rows: %d", l.Len(), got)
	}
	if got := l.All(); !slices.Equal(got, many(n)) {
		t.Errorf("All of %d rows: %d", n, len(got))
	}
}

func TestP802Nil(t *testing.T) {
	var none *tree.Tree
	if none.Put(api.Row{Key: "a"}) || none.Cut("a") || none.Cut("") {
		t.Error("a nil tree takes rows")
	}
	if v, ok := none.Get("a"); v != "" || ok {
		t.Errorf("Get of a nil tree: %q, %t", v, ok)
	}
	if none.Len() != 0 || len(none.All()) != 0 || none.Height() != 1 {
		t.Errorf("a nil tree: %d, %v, %d", none.Len(), none.All(), none.Height())
	}
}

// A tree that New did not make is an empty one.
func TestP802Zero(t *testing.T) {
	var zero tree.Tree
	if v, ok := zero.Get(""); v != "" || ok || zero.Cut("") || zero.Len() != 0 || len(zero.All()) != 0 || zero.Height() != 1 {
		t.Error("a zero tree is not empty")
	}
	if !zero.Put(api.Row{Key: "a", Value: "v"}) || told(zero.All()) != "a=v" {
		t.Errorf("a zero tree with a row: %s", told(zero.All()))
	}
}

func TestP802TwoTrees(t *testing.T) {
	l := many(100)
	a, b := tree.New(l...), tree.New(l...)
	for i := range l {
		if i%3 == 0 {
			a.Cut(l[i].Key)
		} else {
			a.Put(api.Row{Key: l[i].Key, Value: "other"})
		}
		a.Put(api.Row{Key: l[i].Key + "x"})
	}
	if !slices.Equal(b.All(), l) {
		t.Errorf("one tree changes with another: %v", b.All())
	}
	c := tree.New(b.All()...)
	for i := range l {
		b.Cut(l[i].Key)
	}
	if b.Len() != 0 || !slices.Equal(c.All(), l) {
		t.Errorf("a tree changes with the one whose rows it got: %v", c.All())
	}
}

// A Tree that was copied goes its own way, too.
func TestP802Copied(t *testing.T) {
	l := many(100)
	a := tree.New(l...)
	b := *a
	for i := range l {
		a.Cut(l[i].Key)
		a.Put(api.Row{Key: l[i].Key + "x", Value: "a"})
	}
	if !slices.Equal(b.All(), l) || b.Len() != len(l) {
		t.Errorf("a copy changes with the tree: %v", b.All())
	}
}

// What is handed to New stays as it is, its spare room too, and is not kept.
func TestP802WhatIsHandedIn(t *testing.T) {
	for n := range 20 {
		for _, spare := range []int{0, 1, 5} {
			room := slices.Concat(rows("ahead"), backwards(many(n)), rows("p", "q", "r", "s", "t")[:spare])
			was := slices.Clone(room)
			l := tree.New(room[1 : 1+n]...)
			l.Put(api.Row{Key: "z", Value: "z"})
			l.Cut("000000")
			l.Put(api.Row{Key: "000001", Value: "z"})
			if !slices.Equal(room, was) {
				t.Fatalf("New of %d rows changes what was handed in: %v", n, room)
			}
			want := l.All()
			fill(room)
			if !slices.Equal(l.All(), want) {
				t.Fatalf("New of %d rows kept what was handed in: %v", n, l.All())
			}
		}
	}
}

// What All answers is new memory: it changes, and no tree does; a tree changes,
// and it does not.
func TestP802AnswersAreNewMemory(t *testing.T) {
	for n := range 60 {
		l, want := tree.New(many(n)...), many(n)
		first, again := l.All(), l.All()
		fill(first)
		if !slices.Equal(again, want) || !slices.Equal(l.All(), want) {
			t.Fatalf("what All answers of %d rows is shared", n)
		}
		for i := range n {
			l.Put(api.Row{Key: want[i].Key, Value: "other"})
			l.Cut(want[i].Key)
			l.Put(api.Row{Key: want[i].Key + "x"})
		}
		if !slices.Equal(again, want) {
			t.Fatalf("what All answered of %d rows changes with the tree", n)
		}
	}
}

// What a tree answers hangs on what it was told, not on what others were told
// at the same time.
func TestP802HangsOnArguments(t *testing.T) {
	tell := func() string {
		var b strings.Builder
		l := tree.New(backwards(many(50))...)
		for i := range 50 {
			key := fmt.Sprintf("%06d", i*7%60)
			fresh := l.Put(api.Row{Key: key, Value: "new"})
			v, ok := l.Get(key)
			cut := i%3 == 0 && l.Cut(fmt.Sprintf("%06d", i*11%60))
			fmt.Fprint(&b, fresh, v, ok, cut, l.Len(), l.Height(), l.All())
		}
		return b.String()
	}
	want := tell()
	got := make([]string, 16)
	var group sync.WaitGroup
	for i := range got {
		group.Add(1)
		go func() {
			defer group.Done()
			tree.New(many(i)...).Cut("000003")
			got[i] = tell()
		}()
	}
	group.Wait()
	for i := range got {
		if got[i] != want {
			t.Errorf("tree %d answers otherwise than the first one", i)
		}
	}
}

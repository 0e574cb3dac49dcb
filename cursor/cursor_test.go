package cursor_test

import (
	"fmt"
	"math/rand"
	"slices"
	"strconv"
	"strings"
	"sync"
	"testing"

	"poste/api"
	"poste/cursor"
	"poste/tree"
)

// of answers a tree with a row of each key; its value tells the key.
func of(keys ...string) *tree.Tree {
	t := tree.New()
	for _, k := range keys {
		t.Put(row(k))
	}
	return t
}

func row(key string) api.Row { return api.Row{Key: key, Value: "v" + key} }

// named are n keys, rising.
func named(n int) []string {
	var keys []string
	for i := range n {
		keys = append(keys, fmt.Sprintf("%06d", i))
	}
	return keys
}

// shortKeys are all keys of at most two bytes over the edges of a byte, rising.
func shortKeys() []string {
	keys := []string{""}
	for _, a := range []byte{0, 1, 'a', 0x80, 0xff} {
		keys = append(keys, string([]byte{a}))
		for _, b := range []byte{0, 1, 'a', 0x80, 0xff} {
			keys = append(keys, string([]byte{a, b}))
		}
	}
	return keys
}

// next is what Next answers as a text: a row is told by its key.
func next(c *cursor.Cursor) string {
	r, ok := c.Next()
	if !ok {
		if r != (api.Row{}) {
			return fmt.Sprintf("none, and %v", r)
		}
		return "none"
	}
	return told([]api.Row{r})
}

// told is a list as a text, each row by its key, if it has the value of that.
func told(l []api.Row) string {
	var texts []string
	for _, r := range l {
		text := fmt.Sprintf("%q", r.Key)
		if r != row(r.Key) {
			text += " of another value: " + r.Value
		}
		texts = append(texts, text)
	}
	return strings.Join(texts, " ")
}

// rest is all that Next answers, till there is none, or far too much.
func rest(c *cursor.Cursor) string {
	var l []api.Row
	for range 1000 {
		r, ok := c.Next()
		if !ok {
			return told(l)
		}
		l = append(l, r)
	}
	return "no end"
}

// want is told of the rows of these keys.
func want(keys ...string) string {
	var l []api.Row
	for _, k := range keys {
		l = append(l, row(k))
	}
	return told(l)
}

func TestP901New(t *testing.T) {
	for _, keys := range [][]string{
		nil,
		{""},
		{"a"},
		{"a", "b"},
		{"", "a", "ab", "b"},
		{"\x00", "\x00\x00", "\x01"},
		{"B", "a", "\x7f", "\x80", "\xff", "\xff\xff"},
		named(6),
		named(7),
		named(100),
	} {
		falling := slices.Clone(keys)
		slices.Reverse(falling)
		for _, l := range []*tree.Tree{of(keys...), of(falling...)} {
			c := cursor.New(l)
			for i, k := range keys {
				if got := next(c); got != want(k) {
					t.Errorf("Next %d of %q: %s", i, keys, got)
				}
			}
			for range 3 {
				if got := next(c); got != "none" {
					t.Errorf("Next behind %q: %s", keys, got)
				}
			}
		}
	}
}

func TestP901Seek(t *testing.T) {
	for _, x := range []struct {
		keys []string
		key  string
		want string
	}{
		{nil, "", ""},
		{nil, "a", ""},
		{[]string{""}, "", want("")},
		{[]string{""}, "\x00", ""},
		{[]string{"b"}, "", want("b")},
		{[]string{"b"}, "a", want("b")},
		{[]string{"b"}, "b", want("b")},
		{[]string{"b"}, "b\x00", ""},
		{[]string{"b"}, "c", ""},
		{[]string{"b"}, "B", want("b")},
		{[]string{"b", "b\x00", "b\x00\x00", "ba"}, "b\x00", want("b\x00", "b\x00\x00", "ba")},
		{[]string{"b", "b\x00", "b\x00\x00", "ba"}, "b\x00\x00\x00", want("ba")},
		{[]string{"10", "9", "a"}, "2", want("9", "a")},
		{[]string{"a", "\x80", "\xff"}, "b", want("\x80", "\xff")},
		{[]string{"a", "\x80", "\xff"}, "\xff", want("\xff")},
		{[]string{"a", "\x80", "\xff"}, "\xff\x00", ""},
		{named(100), "000097", want("000097", "000098", "000099")},
		{named(100), "0000965", want("000097", "000098", "000099")},
		{named(100), "000099\x00", ""},
	} {
		c := cursor.New(of(x.keys...))
		c.Seek(x.key)
		if got := rest(c); got != x.want {
			t.Errorf("Seek %q of %q: %s, want %s", x.key, x.keys, got, x.want)
		}
	}
}

// A Seek goes ahead and back, from wherever the cursor stands.
func TestP901SeekAgain(t *testing.T) {
	keys := shortKeys()
	c := cursor.New(of(keys...))
	for i, first := range keys {
		for k, then := range keys {
			c.Seek(first)
			if got := next(c); got != want(keys[i]) {
				t.Fatalf("Seek %q: %s", first, got)
			}
			c.Seek(then)
			if got := next(c); got != want(keys[k]) {
				t.Fatalf("Seek %q behind %q: %s", then, first, got)
			}
			behind := "none"
			if k+1 < len(keys) {
				behind = want(keys[k+1])
			}
			if got := next(c); got != behind {
				t.Fatalf("Next behind %q: %s", then, got)
			}
		}
	}
	rest(c)
	if c.Seek(""); rest(c) != want(keys...) {
		t.Error("Seek from behind all rows")
	}
}

// Trees of some of the keys, so that keys that are there are asked, and such
// that would stand between two, in one leaf and in two.
func TestP901SeekExhaustively(t *testing.T) {
	keys := shortKeys()
	chance := rand.New(rand.NewSource(9))
	for range 300 {
		var there []string
		for _, k := range keys {
			if chance.Intn(2) == 0 {
				there = append(there, k)
			}
		}
		c := cursor.New(of(there...))
		for _, k := range keys {
			c.Seek(k)
			at := slices.IndexFunc(there, func(x string) bool { return x >= k })
			if at < 0 {
				at = len(there)
			}
			if got := rest(c); got != want(there[at:]...) {
				t.Fatalf("Seek %q of %q: %s", k, there, got)
			}
		}
	}
}

// step puts a row, cuts one, seeks a key, or tells what Next should answer.
func step(t *testing.T, l *tree.Tree, c *cursor.Cursor, s string) {
	t.Helper()
	switch key := s[1:]; s[0] {
	case '+':
		l.Put(row(key))
	case '-':
		l.Cut(key)
	case '>':
		c.Seek(key)
	case '=':
		if got := next(c); got != want(key) {
			t.Errorf("Next: %s, want %q", got, key)
		}
	case '.':
		if got := next(c); got != "none" {
			t.Errorf("Next: %s, want none", got)
		}
	}
}

func TestP901RowsComeAndGo(t *testing.T) {
	for _, x := range []struct {
		name  string
		steps string
	}{
		{"come behind", "+b +d =b +c =c =d ."},
		{"come ahead", "+b +d =b +a =d ."},
		{"come where it stands", "+b =b -b +b ."},
		{"come right behind", "+b +d =b +b\x00 =b\x00 =d ."},
		{"come ahead of the first", "+b +a =a =b ."},
		{"come ahead of all, the empty one", "+b + = =b ."},
		{"go behind", "+b +c +d =b -c =d ."},
		{"go behind, the last one", "+b +c =b -c ."},
		{"go ahead", "+a +b +c =a =b -a =c ."},
		{"go where it stands", "+a +b +c =a =b -b =c ."},
		{"go, all", "+a +b +c =a -a -b -c . +d =d ."},
		{"go, the first", "+a +b -a =b ."},
		{"go and come", "+a +b =a -b +b =b ."},
		{"come and go", "+a =a +b -b . +c =c ."},
		{"come behind the last", "+a =a . +b =b . ."},
		{"come ahead of the last", "+b =b . +a . +b\x00 =b\x00 ."},
		{"come in an empty one", ". . +b =b . +a . +c =c ."},
		{"come behind Seek", "+d >b +c =c =d ."},
		{"come at the key of Seek", "+d >b +b =b =d ."},
		{"come ahead of Seek", "+d >b +a =d ."},
		{"come behind Seek past all", "+a >b . +a\xff . +b =b ."},
		{"go at the key of Seek", "+b +c >b -b =c ."},
		{"go and come at the key of Seek", "+b +c >b -b +b =b =c ."},
		{"Seek back to what came", "+b =b +a . >a =a =b ."},
		{"Seek back to what went", "+a +b =a =b -a > =b ."},
	} {
		t.Run(x.name, func(t *testing.T) {
			l := tree.New()
			c := cursor.New(l)
			for _, s := range strings.Split(x.steps, " ") {
				step(t, l, c, s)
			}
		})
	}
}

// A row that gets another value behind where the cursor stands is met with it.
func TestP901NextTellsTheNewestValue(t *testing.T) {
	l := of("a", "b")
	c := cursor.New(l)
	c.Next()
	l.Put(api.Row{Key: "a", Value: "new"})
	l.Put(api.Row{Key: "b", Value: "new"})
	if r, ok := c.Next(); r != (api.Row{Key: "b", Value: "new"}) || !ok {
		t.Errorf("Next: %v, %t", r, ok)
	}
	if got := next(c); got != "none" {
		t.Errorf("Next: %s", got)
	}
	l.Put(api.Row{Key: "c"})
	if r, ok := c.Next(); r != (api.Row{Key: "c"}) || !ok {
		t.Errorf("Next of an empty value: %v, %t", r, ok)
	}
}

// All rows but one, or every other one, go while a cursor stands in the midst:
// the leaves around it are joined, and it goes on where it stood.
func TestP901TreeIsRebuilt(t *testing.T) {
	keys := named(120)
	for at := range keys {
		l := of(keys...)
		c := cursor.New(l)
		c.Seek(keys[at])
		c.Next()
		for i := range keys {
			if i%7 != 0 {
				l.Cut(keys[i])
			}
		}
		for i := range keys {
			if i%7 == 3 {
				l.Put(row(keys[i]))
			}
		}
		var left []string
		for i := at + 1; i < len(keys); i++ {
			if i%7 == 0 || i%7 == 3 {
				left = append(left, keys[i])
			}
		}
		if got := rest(c); got != want(left...) {
			t.Fatalf("from %q on: %s", keys[at], got)
		}
	}
}

func TestP901Range(t *testing.T) {
	letters := []string{"", "a", "a\x00", "ab", "b", "c", "\xff"}
	for _, x := range []struct {
		keys     []string
		from, to string
		want     string
	}{
		{nil, "", "", ""},
		{nil, "a", "b", ""},
		{letters, "", "", want(letters...)},
		{letters, "a", "b", want("a", "a\x00", "ab")},
		{letters, "a\x00", "ab", want("a\x00")},
		{letters, "a", "a\x00", want("a")},
		{letters, "", "\x00", want("")},
		{letters, "\x00", "", want("a", "a\x00", "ab", "b", "c", "\xff")},
		{letters, "aa", "bb", want("ab", "b")},
		{letters, "b", "b", ""},
		{letters, "c", "a", ""},
		{letters, "d", "e", ""},
		{letters, "c", "", want("c", "\xff")},
		{letters, "\xff", "", want("\xff")},
		{letters, "\xff\x00", "", ""},
		{letters, "", "\xff\xff", want(letters...)},
		{named(100), "000003", "000005", want("000003", "000004")},
		{named(100), "000098", "", want("000098", "000099")},
		{named(100), "", "000001", want("000000")},
		{named(100), "", "", want(named(100)...)},
		{named(100), "000050", "000050", ""},
	} {
		if got := told(cursor.New(of(x.keys...)).Range(x.from, x.to)); got != x.want {
			t.Errorf("Range of %q from %q to %q: %s, want %s", x.keys, x.from, x.to, got, x.want)
		}
	}
}

func TestP901RangeExhaustively(t *testing.T) {
	keys := shortKeys()
	for _, there := range [][]string{keys, keys[:5], keys[3:9], keys[6:], {keys[10]}} {
		c := cursor.New(of(there...))
		for _, from := range keys {
			for _, to := range keys {
				var in []string
				for _, k := range there {
					if k >= from && (k < to || len(to) == 0) {
						in = append(in, k)
					}
				}
				if got := told(c.Range(from, to)); got != want(in...) {
					t.Fatalf("Range of %q from %q to %q: %s", there, from, to, got)
				}
			}
		}
	}
}

// The cursor stays through any Range, wherever it stands.
func TestP901RangeStays(t *testing.T) {
	keys := named(20)
	for at := range len(keys) + 1 {
		for _, x := range [][2]string{{"", ""}, {"", keys[3]}, {keys[17], ""}, {keys[9], keys[4]}, {"z", "zz"}} {
			c := cursor.New(of(keys...))
			for range at {
				c.Next()
			}
			first := told(c.Range(x[0], x[1]))
			if got := told(c.Range(x[0], x[1])); got != first {
				t.Fatalf("Range again from %q to %q: %s, then %s", x[0], x[1], first, got)
			}
			if got := rest(c); got != want(keys[at:]...) {
				t.Fatalf("Next behind a Range, %d rows ahead: %s", at, got)
			}
			if got := told(c.Range(x[0], x[1])); got != first {
				t.Fatalf("Range from behind all: %s, first %s", got, first)
			}
		}
	}
}

func TestP901RangeSeesWhatCame(t *testing.T) {
	l := of("a", "c")
	c := cursor.New(l)
	c.Next()
	l.Put(row("b"))
	l.Cut("c")
	if got := told(c.Range("", "")); got != want("a", "b") {
		t.Errorf("Range: %s", got)
	}
	if got := rest(c); got != want("b") {
		t.Errorf("Next: %s", got)
	}
}

func TestP901Many(t *testing.T) {
	keys := named(100000)
	l := of(keys...)
	c := cursor.New(l)
	for _, k := range keys {
		if r, ok := c.Next(); r != row(k) || !ok {
			t.Fatalf("Next: %v, %t, want %q", r, ok, k)
		}
	}
	if got := next(c); got != "none" {
		t.Errorf("Next behind all: %s", got)
	}
	if got := c.Range("", ""); !slices.Equal(got, l.All()) {
		t.Errorf("Range of all: %d rows", len(got))
	}
	for i := range keys {
		c.Seek(keys[i])
		if r, ok := c.Next(); r != row(keys[i]) || !ok {
			t.Fatalf("Seek %q: %v, %t", keys[i], r, ok)
		}
		if got := c.Range(keys[i], keys[i]+"x"); len(got) != 1 || got[0] != row(keys[i]) {
			t.Fatalf("Range of %q: %v", keys[i], got)
		}
	}
}

func TestP901Long(t *testing.T) {
	long := strings.Repeat("k", 1<<20)
	keys := []string{long, long + "\x00", long + "a", long + "b"}
	c := cursor.New(of(keys...))
	for i, k := range keys {
		if r, ok := c.Next(); r.Key != k || !ok {
			t.Errorf("Next %d of long keys", i)
		}
	}
	if _, ok := c.Next(); ok {
		t.Error("Next behind long keys")
	}
	c.Seek(long + "\x01")
	if r, ok := c.Next(); r.Key != long+"a" || !ok {
		t.Error("Seek of a long key")
	}
	if got := c.Range(long, long+"b"); len(got) != 3 || got[2].Key != long+"a" {
		t.Errorf("Range of long keys: %d", len(got))
	}
}

// place is where a cursor stands, spelled out: ahead of the key, or behind it.
type place struct {
	key    string
	behind bool
}

// meets tells whether a row of that key is met from that place.
func (p place) meets(key string) bool {
	if p.behind {
		return key > p.key
	}
	return key >= p.key
}

// first is the least key that is met from that place.
func (p place) first(there map[string]api.Row) (api.Row, bool) {
	least, found := api.Row{}, false
	for k, r := range there {
		if p.meets(k) && (!found || k < least.Key) {
			least, found = r, true
		}
	}
	return least, found
}

// Some cursors over one tree, and one that comes and goes, all held against
// rows in a map and places that are spelled out.
func TestP901ByChance(t *testing.T) {
	for seed := range 40 {
		chance := rand.New(rand.NewSource(int64(seed)))
		few := 3 + chance.Intn(60)
		some := func() string { return strconv.Itoa(chance.Intn(few)) }
		l, there := tree.New(), map[string]api.Row{}
		cursors, places := make([]*cursor.Cursor, 4), make([]place, 4)
		for i := range cursors {
			cursors[i] = cursor.New(l)
		}
		for n := range 2000 {
			i := chance.Intn(len(cursors))
			switch c := cursors[i]; chance.Intn(12) {
			case 0, 1, 2:
				r := api.Row{Key: some(), Value: strconv.Itoa(n)}
				l.Put(r)
				there[r.Key] = r
			case 3, 4:
				k := some()
				l.Cut(k)
				delete(there, k)
			case 5:
				k := some()
				c.Seek(k)
				places[i] = place{k, false}
			case 6:
				cursors[i], places[i] = cursor.New(l), place{}
			case 7:
				from, to := some(), some()
				var in []api.Row
				for k, r := range there {
					if k >= from && k < to {
						in = append(in, r)
					}
				}
				slices.SortFunc(in, func(a, b api.Row) int { return strings.Compare(a.Key, b.Key) })
				if got := c.Range(from, to); !slices.Equal(got, in) {
					t.Fatalf("seed %d, step %d: Range %q to %q: %v, want %v", seed, n, from, to, got, in)
				}
			default:
				least, found := places[i].first(there)
				if got, ok := c.Next(); got != least || ok != found {
					t.Fatalf("seed %d, step %d: Next at %v: %v, %t, want %v", seed, n, places[i], got, ok, least)
				}
				if found {
					places[i] = place{least.Key, true}
				}
			}
		}
	}
}

func TestP901NilTree(t *testing.T) {
	for i, c := range []*cursor.Cursor{cursor.New(nil), {}, nil} {
		for _, key := range []string{"", "a", "\xff"} {
			if got := next(c); got != "none" {
				t.Errorf("Next over none (%d): %s", i, got)
			}
			c.Seek(key)
			if got := next(c); got != "none" {
				t.Errorf("Next over none (%d) behind Seek: %s", i, got)
			}
			if got := c.Range(key, ""); len(got) != 0 {
				t.Errorf("Range over none (%d): %v", i, got)
			}
			if got := c.Range("", key); len(got) != 0 {
				t.Errorf("Range over none (%d): %v", i, got)
			}
		}
	}
}

// A tree that is declared is an empty one: a cursor over it meets what comes.
func TestP901DeclaredTree(t *testing.T) {
	var l tree.Tree
	c := cursor.New(&l)
	if got := next(c); got != "none" {
		t.Errorf("Next: %s", got)
	}
	l.Put(row("a"))
	if got := rest(c); got != want("a") {
		t.Errorf("Next: %s", got)
	}
}

func TestP902TwoCursors(t *testing.T) {
	keys := named(30)
	l, other := of(keys...), of("other")
	for at := range keys {
		a, b, c := cursor.New(l), cursor.New(l), cursor.New(other)
		for range at {
			a.Next()
		}
		if got := next(b); got != want(keys[0]) {
			t.Fatalf("one cursor turns another: %s", got)
		}
		b.Seek(keys[len(keys)-1])
		if got := next(c); got != want("other") {
			t.Fatalf("one tree's cursor turns another's: %s", got)
		}
		if got := next(a); got != want(keys[at]) {
			t.Fatalf("one cursor turns another: %s", got)
		}
		if got := rest(b); got != want(keys[len(keys)-1]) {
			t.Fatalf("one cursor turns another: %s", got)
		}
	}
}

// A Cursor that was copied goes its own way, too.
func TestP902Copied(t *testing.T) {
	a := cursor.New(of("a", "b", "c"))
	a.Next()
	b := *a
	a.Seek("c")
	if got := rest(&b); got != want("b", "c") {
		t.Errorf("a copy is turned: %s", got)
	}
	if got := rest(a); got != want("c") {
		t.Errorf("a copy turns the other one: %s", got)
	}
}

// No call of a cursor changes the tree that it goes over.
func TestP902TheTreeStays(t *testing.T) {
	for n := range 50 {
		keys := named(n)
		l := of(keys...)
		height := l.Height()
		c := cursor.New(l)
		rest(c)
		for _, k := range append(keys, "", "none") {
			c.Seek(k)
			c.Next()
			c.Range(k, "")
		}
		if told(l.All()) != want(keys...) || l.Len() != n || l.Height() != height {
			t.Fatalf("a tree of %d rows is changed: %s", n, told(l.All()))
		}
	}
}

// What Range answers is new memory: it changes, its spare room too, and neither
// the tree nor another answer does; the tree changes, and it does not.
func TestP902AnswersAreNewMemory(t *testing.T) {
	for n := range 40 {
		keys := named(n)
		l := of(keys...)
		c := cursor.New(l)
		first, again := c.Range("", ""), c.Range("", "")
		first = first[:cap(first)]
		for i := range first {
			first[i] = api.Row{Key: "fill", Value: "fill"}
		}
		if told(again) != want(keys...) || told(c.Range("", "")) != want(keys...) || told(l.All()) != want(keys...) {
			t.Fatalf("what Range answers of %d rows is shared", n)
		}
		for _, k := range keys {
			l.Put(api.Row{Key: k, Value: "other"})
			l.Cut(k)
		}
		if told(again) != want(keys...) {
			t.Fatalf("what Range answered of %d rows changes with the tree", n)
		}
	}
}

// What a cursor answers hangs on what it and its tree were told, not on what
// others were told at the same time.
func TestP902HangsOnArguments(t *testing.T) {
	tell := func() string {
		var b strings.Builder
		l := of(named(50)...)
		c := cursor.New(l)
		for i := range 50 {
			key := fmt.Sprintf("%06d", i*7%60)
			if i%5 == 0 {
				c.Seek(key)
			}
			l.Cut(fmt.Sprintf("%06d", i*11%60))
			l.Put(row(key + "x"))
			fmt.Fprint(&b, next(c), told(c.Range(key, "000055")))
		}
		return b.String()
	}
	want := tell()
	got := make([]string, 16)
	var group sync.WaitGroup
	for i := range got {
		group.Add(1)
		go func() {
			defer group.Done()
			cursor.New(of(named(i)...)).Seek("000003")
			got[i] = tell()
		}()
	}
	group.Wait()
	for i := range got {
		if got[i] != want {
			t.Errorf("cursor %d answers otherwise than the first one", i)
		}
	}
}

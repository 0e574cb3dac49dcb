package order_test

import (
	"math"
	"strings"
	"sync"
	"testing"
	"unsafe"

	"poste/api"
	"poste/order"
)

// plainKeys is the order of keys spelled out, for comparison.
func plainKeys(a, b string) int {
	for i := 0; i < len(a) && i < len(b); i++ {
		if a[i] < b[i] {
			return -1
		}
		if a[i] > b[i] {
			return 1
		}
	}
	switch {
	case len(a) < len(b):
		return -1
	case len(a) > len(b):
		return 1
	}
	return 0
}

// shortKeys are all keys of at most three bytes over the edges of a byte.
func shortKeys() []string {
	all := []string{""}
	last := all
	for range 3 {
		var longer []string
		for _, k := range last {
			for _, c := range []byte{0, 1, 'a', 0x7f, 0x80, 0xff} {
				longer = append(longer, k+string([]byte{c}))
			}
		}
		all = append(all, longer...)
		last = longer
	}
	return all
}

// place is what an order answers of things that stand at i and k of a rising list.
func place(i, k int) int {
	switch {
	case i < k:
		return -1
	case i > k:
		return 1
	}
	return 0
}

func TestP101KeysOrdinary(t *testing.T) {
	for _, x := range []struct {
		a, b string
		want int
	}{
		{"a", "ab", -1},
		{"ab", "a", 1},
		{"a", "a", 0},
		{"", "", 0},
		{"", "a", -1},
		{"", "\x00", -1},
		{"a", "b", -1},
		{"ab", "b", -1},
		{"b", "ab", 1},
		{"B", "a", -1},
		{"10", "9", -1},
		{"a ", "a", 1},
	} {
		if got := order.Keys(x.a, x.b); got != x.want {
			t.Errorf("Keys(%q, %q) = %d, want %d", x.a, x.b, got, x.want)
		}
	}
}

func TestP101KeysAreBytes(t *testing.T) {
	rising := []string{
		"", "\x00", "\x00\x00", "\x00\x01", "\x01", "a", "a\x00", "a\x7f", "a\x80", "z", "\x7f",
		"\x80", "\xbf\x80", "\u00e9", "\uffff", "\U00010000", "\xfe", "\xff", "\xff\x00", "\xff\xff",
	}
	for i, a := range rising {
		for k, b := range rising {
			if got := order.Keys(a, b); got != place(i, k) {
				t.Errorf("Keys(%q, %q) = %d, want %d", a, b, got, place(i, k))
			}
		}
	}
}

func TestP101KeysExhaustively(t *testing.T) {
	all := shortKeys()
	for _, a := range all {
		for _, b := range all {
			if got, want := order.Keys(a, b), plainKeys(a, b); got != want {
				t.Fatalf("Keys(%q, %q) = %d, want %d", a, b, got, want)
			}
		}
	}
}

func TestP101KeysLong(t *testing.T) {
	long := strings.Repeat("k", 1<<20)
	for _, x := range []struct {
		a, b string
		want int
	}{
		{long, strings.Clone(long), 0},
		{long, long + "\x00", -1},
		{long + "b", long + "a", 1},
		{long, "l", -1},
		{long, "k", 1},
	} {
		if got := order.Keys(x.a, x.b); got != x.want {
			t.Errorf("Keys of %d and %d bytes = %d, want %d", len(x.a), len(x.b), got, x.want)
		}
	}
}

func TestP101Msgs(t *testing.T) {
	rising := []api.Msg{
		{Pri: math.MinInt, Id: math.MinInt},
		{Pri: math.MinInt, Id: math.MaxInt},
		{Pri: -2, Id: 900},
		{Pri: -1, Id: 3},
		{Pri: 0, Id: math.MinInt},
		{Pri: 0, Id: -1},
		{Pri: 0, Id: 0},
		{Pri: 0, Id: 1},
		{Pri: 0, Id: math.MaxInt},
		{Pri: 1, Id: -5},
		{Pri: 2, Id: 1},
		{Pri: 10, Id: 1},
		{Pri: math.MaxInt, Id: math.MinInt},
		{Pri: math.MaxInt, Id: math.MaxInt},
	}
	for i, a := range rising {
		for k, b := range rising {
			if got := order.Msgs(a, b); got != place(i, k) {
				t.Errorf("Msgs(%+v, %+v) = %d, want %d", a, b, got, place(i, k))
			}
		}
	}
}

func TestP101MsgsByPriAndIdAlone(t *testing.T) {
	a := api.Msg{Id: 4, Pri: 7}
	for _, b := range []api.Msg{
		{Id: 4, Pri: 7, Retry: 1},
		{Id: 4, Pri: 7, Retry: -1},
		{Id: 4, Pri: 7, Claimed: true},
		{Id: 4, Pri: 7, Corr: "c"},
		{Id: 4, Pri: 7, Body: "b"},
	} {
		if order.Msgs(a, b) != 0 || order.Msgs(b, a) != 0 {
			t.Errorf("Msgs(%+v, %+v) looks at more than Pri and Id", a, b)
		}
		ahead := b
		ahead.Id = 3
		if order.Msgs(ahead, a) != -1 || order.Msgs(a, ahead) != 1 {
			t.Errorf("Msgs(%+v, %+v) is not by Id", ahead, a)
		}
	}
}

func TestP101Next(t *testing.T) {
	all := shortKeys()
	for _, k := range all {
		n := order.Next(k)
		if n != k+"\x00" {
			t.Fatalf("Next(%q) = %q", k, n)
		}
		for _, x := range all {
			if plainKeys(k, x) < 0 && plainKeys(x, n) < 0 {
				t.Fatalf("%q stands between %q and its Next", x, k)
			}
		}
	}
	long := strings.Repeat("\xff", 1<<16)
	if order.Next(long) != long+"\x00" {
		t.Error("Next of a long key")
	}
}

func TestP101InOrdinary(t *testing.T) {
	for _, x := range []struct {
		k, from, to string
		want        bool
	}{
		{"b", "a", "c", true},
		{"a", "a", "c", true},
		{"c", "a", "c", false},
		{"a", "b", "c", false},
		{"d", "a", "c", false},
		{"b", "b", "b", false},
		{"b", "c", "a", false},
		{"b", "b", "b\x00", true},
		{"b\x00", "b", "b\x00", false},
		{"b", "", "c", true},
		{"", "", "\x00", true},
		{"", "", "", true},
		{"", "\x00", "", false},
		{"b", "c", "", false},
		{"c", "c", "", true},
		{"\xff\xff\xff", "", "", true},
		{"\xff\xff\xff", "\xff", "", true},
	} {
		if got := order.In(x.k, x.from, x.to); got != x.want {
			t.Errorf("In(%q, %q, %q) = %t", x.k, x.from, x.to, got)
		}
	}
}

func TestP101InExhaustively(t *testing.T) {
	all := shortKeys()[:43]
	for _, k := range all {
		for _, from := range all {
			for _, to := range all {
				want := plainKeys(from, k) <= 0 && (len(to) == 0 || plainKeys(k, to) < 0)
				if got := order.In(k, from, to); got != want {
					t.Fatalf("In(%q, %q, %q) = %t", k, from, to, got)
				}
			}
		}
	}
}

// answers puts what all calls say of two keys and two messages side by side.
func answers(a, b string, m, n api.Msg) [6]any {
	return [6]any{
		order.Keys(a, b), order.Msgs(m, n), order.Next(a), order.Next(b),
		order.In(a, b, ""), order.In(b, a, "z"),
	}
}

func TestP102HangsOnArgumentsAlone(t *testing.T) {
	m, n := api.Msg{Id: 1, Pri: 2}, api.Msg{Id: 2, Pri: 2, Body: "x"}
	want := answers("a", "b", m, n)
	var group sync.WaitGroup
	got := make([][6]any, 16)
	for i := range got {
		group.Add(1)
		go func() {
			defer group.Done()
			answers("other", strings.Repeat("k", i), n, m)
			got[i] = answers("a", "b", m, n)
		}()
	}
	group.Wait()
	for i := range got {
		if got[i] != want {
			t.Errorf("call %d answers %v, the first one %v", i, got[i], want)
		}
	}
}

// The key lies in bytes that the test may change, with spare room behind it: so
// an answer that shares them, and a call that writes to them, can be seen.
func TestP102NewMemory(t *testing.T) {
	room := []byte("key+spare")
	k := unsafe.String(&room[0], 3)
	n := order.Next(k)
	order.Keys(k, "key")
	order.In(k, "a", k)
	order.Msgs(api.Msg{Corr: k, Body: k}, api.Msg{Corr: k})
	if string(room) != "key+spare" {
		t.Fatalf("what was handed in is now %q", room)
	}
	copy(room, "XXXXXXXXX")
	if n != "key\x00" {
		t.Errorf("Next shares its argument's memory: %q", n)
	}
	if got := order.Next("key"); got != "key\x00" {
		t.Errorf("Next kept an earlier argument: %q", got)
	}
}

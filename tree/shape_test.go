package tree

import (
	"fmt"
	"math/rand"
	"slices"
	"strconv"
	"testing"

	"poste/api"
)

// wrongIn tells what is wrong with a part and all that is below it, "" if
// nothing is: how many rows or kids each has, how deep the leaves lie, and what
// each says of itself.
func wrongIn(p part, root bool) string {
	var width, count, level int
	var least string
	switch p := p.(type) {
	case *leaf:
		width, count, level = len(p.list), len(p.list), 1
		if count > 0 {
			least = p.list[0].Key
		}
	case *inner:
		width, least, level = len(p.kids), p.kids[0].first(), p.kids[0].height()+1
		for _, kid := range p.kids {
			if wrong := wrongIn(kid, false); wrong != "" {
				return wrong
			}
			if kid.height() != level-1 {
				return fmt.Sprintf("kids of one part have the heights %d and %d", level-1, kid.height())
			}
			count += kid.rows()
		}
		if width < 2 {
			return "an inner node has one kid"
		}
	}
	if width > api.Fan || !root && width < api.Fan/2 {
		return fmt.Sprintf("a part of height %d has %d", level, width)
	}
	if p.first() != least || p.rows() != count || p.height() != level {
		return fmt.Sprintf("a part says %q, %d, %d; it has %q, %d, %d", p.first(), p.rows(), p.height(), least, count, level)
	}
	return ""
}

// wrong tells what is wrong with a tree, held against what it should have.
func wrong(t *Tree, values map[string]string) string {
	if wrong := wrongIn(t.top(), true); wrong != "" {
		return wrong
	}
	all := t.All()
	if len(all) != len(values) || t.Len() != len(values) {
		return fmt.Sprintf("All has %d rows, Len is %d, want %d", len(all), t.Len(), len(values))
	}
	for i, r := range all {
		if i > 0 && all[i-1].Key >= r.Key {
			return fmt.Sprintf("%q does not stand behind %q", r.Key, all[i-1].Key)
		}
		if v, ok := values[r.Key]; !ok || v != r.Value {
			return fmt.Sprintf("All has %q of %q, want %q", r.Value, r.Key, v)
		}
		if v, ok := t.Get(r.Key); !ok || v != r.Value {
			return fmt.Sprintf("Get of %q: %q, %t, want %q", r.Key, v, ok, r.Value)
		}
	}
	return wrongHeight(t.Height(), len(values))
}

// wrongHeight holds a height against what the smallest parts that may be allow,
// which is a little less than the document's bound, and against what the
// greatest ones need.
func wrongHeight(height, n int) string {
	often := 0
	for left := n; left > 0; left /= api.Fan / 2 {
		often++
	}
	fits := 1
	for range height {
		fits *= api.Fan
	}
	if height < 1 || height > max(1, often) || fits < n {
		return fmt.Sprintf("a height of %d with %d rows", height, n)
	}
	return ""
}

// run puts and cuts the keys in turn, asking all after each step: a key that is
// there is cut, one that is not is put.
func run(keys []string) string {
	t, values := New(), map[string]string{}
	for i, key := range keys {
		value, had := values[key]
		if got, ok := t.Get(key); got != value || ok != had {
			return fmt.Sprintf("step %d: Get of %q: %q, %t", i, key, got, ok)
		}
		if had {
			delete(values, key)
			if !t.Cut(key) {
				return fmt.Sprintf("step %d: Cut of %q: false", i, key)
			}
		} else {
			values[key] = strconv.Itoa(i)
			if !t.Put(api.Row{Key: key, Value: values[key]}) {
				return fmt.Sprintf("step %d: Put of %q: false", i, key)
			}
		}
		if wrong := wrong(t, values); wrong != "" {
			return fmt.Sprintf("step %d, %q: %s", i, key, wrong)
		}
	}
	return ""
}

// orders are all orders of n keys.
func orders(n int) [][]string {
	if n == 0 {
		return [][]string{nil}
	}
	var all [][]string
	for _, fewer := range orders(n - 1) {
		for at := range n {
			all = append(all, slices.Insert(slices.Clone(fewer), at, strconv.Itoa(n)))
		}
	}
	return all
}

// named are the keys of n places, each as long as the others.
func named(n int) []string {
	var keys []string
	for i := range n {
		keys = append(keys, fmt.Sprintf("%05d", i))
	}
	return keys
}

func TestP801ShapeInAllOrders(t *testing.T) {
	for _, keys := range orders(8) {
		if wrong := run(slices.Concat(keys, keys)); wrong != "" {
			t.Fatalf("%q, put and cut: %s", keys, wrong)
		}
	}
}

// Every row of trees of some sizes is cut first, then all others from there on:
// so each kind of joining is met, at each place.
func TestP801ShapeCutAnywhere(t *testing.T) {
	for n := 1; n < 80; n++ {
		keys := named(n)
		for at := range n {
			for _, put := range [][]string{keys, backwards(keys)} {
				cut := slices.Concat(keys[at:], keys[:at])
				for _, cut := range [][]string{cut, backwards(cut)} {
					if wrong := run(slices.Concat(put, cut)); wrong != "" {
						t.Fatalf("%d rows, cut from %d on: %s", n, at, wrong)
					}
				}
			}
			if n > 30 {
				break
			}
		}
	}
}

func backwards(keys []string) []string {
	keys = slices.Clone(keys)
	slices.Reverse(keys)
	return keys
}

func TestP801ShapeOfMany(t *testing.T) {
	keys := named(400)
	outside := make([]string, 0, len(keys))
	for i := range len(keys) / 2 {
		outside = append(outside, keys[i], keys[len(keys)-1-i])
	}
	ways := [][]string{keys, backwards(keys), outside, backwards(outside)}
	for i, put := range ways {
		for k, cut := range ways {
			if wrong := run(slices.Concat(put, cut)); wrong != "" {
				t.Errorf("put %d, cut %d: %s", i, k, wrong)
			}
		}
	}
}

func TestP801ShapeByChance(t *testing.T) {
	for seed := range 60 {
		chance := rand.New(rand.NewSource(int64(seed)))
		few := 5 + chance.Intn(250)
		keys := make([]string, 1500)
		for i := range keys {
			keys[i] = strconv.Itoa(chance.Intn(few))
		}
		if wrong := run(keys); wrong != "" {
			t.Fatalf("seed %d: %s", seed, wrong)
		}
	}
}

// A tree goes up to some thousands and down to nothing, its shape asked now and
// then.
func TestP801ShapeOfThousands(t *testing.T) {
	const n = 20000
	chance := rand.New(rand.NewSource(8))
	tree, values := New(), map[string]string{}
	for i, at := range chance.Perm(n) {
		key := strconv.Itoa(at)
		values[key] = key
		tree.Put(api.Row{Key: key, Value: key})
		if i%1009 == 0 {
			if wrong := wrong(tree, values); wrong != "" {
				t.Fatalf("%d rows: %s", i, wrong)
			}
		}
	}
	for i, at := range chance.Perm(n) {
		if i%1009 == 0 {
			if wrong := wrong(tree, values); wrong != "" {
				t.Fatalf("%d rows: %s", n-i, wrong)
			}
		}
		delete(values, strconv.Itoa(at))
		if !tree.Cut(strconv.Itoa(at)) {
			t.Fatalf("Cut of %d: false", at)
		}
	}
	if tree.Len() != 0 || tree.Height() != 1 {
		t.Errorf("without rows: Len %d, Height %d", tree.Len(), tree.Height())
	}
}

// Nothing of a row that was cut is kept: not its Key as the first one either.
func TestP801NothingIsKept(t *testing.T) {
	tree := New()
	for _, key := range named(50) {
		tree.Put(api.Row{Key: key})
	}
	for _, key := range named(50) {
		tree.Cut(key)
		if first := tree.top().first(); first == key {
			t.Fatalf("%q was cut; the root says that it begins with it", key)
		}
	}
}

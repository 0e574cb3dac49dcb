package image_test

import (
	"fmt"
	"math"
	"math/rand"
	"slices"
	"strings"
	"testing"

	"poste/api"
	"poste/image"
	"poste/state"
)

// The states of the tests are what they are taken for.
func TestStates(t *testing.T) {
	for _, s := range rightStates() {
		if !state.Right(s) {
			t.Errorf("%s is not Right", short(s))
		}
	}
	for i, s := range wrongStates() {
		if state.Right(s) {
			t.Errorf("wrong state %d is Right: %s", i, short(s))
		}
	}
}

func TestP2001BytesSpelledOut(t *testing.T) {
	zero := "\x00\x00\x00\x00\x00\x00\x00\x00"
	one := "\x01\x00\x00\x00\x00\x00\x00\x00"
	two := "\x02\x00\x00\x00\x00\x00\x00\x00"
	for _, x := range []struct {
		s    api.State
		want string
	}{
		{api.State{Next: 1}, one + zero},
		{api.State{Next: 1 << 40}, "\x00\x00\x00\x00\x00\x01\x00\x00" + zero},
		{api.State{Next: 258, Objects: objects(table("tab"))}, "\x02\x01\x00\x00\x00\x00\x00\x00" + one + "\x03\x00tab" + one + zero + zero + zero + zero},
		{
			api.State{Next: 2, Objects: objects(table("t", "a", "", "bc", "def"))},
			two + one + "\x01\x00t" + one + zero + two + "\x01\x00a" + "\x00\x00" + "\x02\x00bc" + "\x03\x00def" + zero + zero,
		},
		{
			api.State{Next: 9, Objects: objects(
				queue("q", 3,
					msgs(api.Msg{Id: 7, Pri: -1, Retry: 2, Claimed: true, Corr: "c", Body: "xyz"}, api.Msg{Id: 2}),
					msgs(api.Msg{Id: 1, Pri: 256, Retry: 3, Body: "\xff"})),
				table("r"),
			)},
			"\x09\x00\x00\x00\x00\x00\x00\x00" + two +
				"\x01\x00q" + two + "\x03\x00\x00\x00\x00\x00\x00\x00" + zero +
				two +
				"\x07\x00\x00\x00\x00\x00\x00\x00" + "\xff\xff\xff\xff\xff\xff\xff\xff" + two + "\x01" + "\x01\x00c" + "\x03\x00xyz" +
				two + zero + zero + "\x00" + "\x00\x00" + "\x00\x00" +
				one +
				one + "\x00\x01\x00\x00\x00\x00\x00\x00" + "\x03\x00\x00\x00\x00\x00\x00\x00" + "\x00" + "\x00\x00" + "\x01\x00\xff" +
				"\x01\x00r" + one + zero + zero + zero + zero,
		},
	} {
		if got := string(image.Bytes(x.s)); got != x.want {
			t.Errorf("Bytes of %+v: %q, want %q", x.s, got, x.want)
		}
		if wrong := taken(x.want, x.s); wrong != "" {
			t.Error(wrong)
		}
	}
}

func TestP2001Bytes(t *testing.T) {
	for _, s := range rightStates() {
		if got, want := string(image.Bytes(s)), spelled(s); got != want {
			t.Errorf("Bytes of %s: %.400q, want %.400q", short(s), got, want)
		}
	}
}

func TestP2001BytesOfWhatIsNotRight(t *testing.T) {
	for i, s := range wrongStates() {
		if got := image.Bytes(s); len(got) != 0 {
			t.Errorf("Bytes of wrong state %d: %.400q", i, got)
		}
	}
}

func TestP2001Read(t *testing.T) {
	for _, s := range rightStates() {
		if wrong := taken(spelled(s), s); wrong != "" {
			t.Error(wrong)
		}
	}
}

func TestP2001ReadOfNothing(t *testing.T) {
	for _, b := range [][]byte{nil, {}, make([]byte, 0, 16)} {
		if s, err := image.Read(b); err != api.ErrBytes || !same(s, api.State{}) {
			t.Errorf("Read of nothing: %s, %d", short(s), err)
		}
	}
	if wrong := refused(string(image.Bytes(api.State{}))); wrong != "" {
		t.Error(wrong)
	}
}

func TestP2001ReadOfWhatIsNotRight(t *testing.T) {
	for i, s := range wrongStates() {
		if wrong := refused(spelled(s)); wrong != "" {
			t.Errorf("wrong state %d: %s", i, wrong)
		}
	}
	many := api.State{Next: 1}
	for i := range 300 {
		many.Objects = append(many.Objects, table(fmt.Sprintf("n%03d", i)))
		if wrong, right := as(spelled(many)); wrong != "" || right != (i < 20) {
			t.Errorf("%d objects: %t, %s", i+1, right, wrong)
		}
	}
}

// It is cut at each byte: what is missing is seen wherever it is.
func TestP2001ReadOfWhatIsCut(t *testing.T) {
	for _, s := range rightStates() {
		whole := spelled(s)
		for n := range len(whole) {
			if wrong := refused(whole[:n]); wrong != "" {
				t.Fatalf("%d of %d bytes of %s: %s", n, len(whole), short(s), wrong)
			}
		}
	}
}

func TestP2001ReadOfBytesBehind(t *testing.T) {
	for _, s := range rightStates() {
		whole := spelled(s)
		for b := range 256 {
			if wrong := refused(whole + string([]byte{byte(b)})); wrong != "" {
				t.Errorf("a byte %d behind %s: %s", b, short(s), wrong)
			}
		}
		for _, behind := range []string{anInt(0), whole, spelled(api.State{Next: 1}), joined(pieces(good())[2:]), strings.Repeat("\x00", 5000)} {
			if wrong := refused(whole + behind); wrong != "" {
				t.Errorf("%d bytes behind %s: %s", len(behind), short(s), wrong)
			}
		}
	}
}

// with is an image with one piece turned.
func with(l []piece, at int, text string) string {
	l = slices.Clone(l)
	l[at].text = text
	return joined(l)
}

// Of an empty list, where no other thing is wrong, too.
func TestP2001ReadOfACountBelowZero(t *testing.T) {
	for _, s := range rightStates() {
		all := pieces(s)
		for at, p := range all {
			if p.kind != "count" {
				continue
			}
			for _, n := range []int{-1, -2, -3, -20, -255, -256, -65536, math.MinInt32, -1 << 32, -1 << 40, -1 << 62, math.MinInt + 1, math.MinInt} {
				if wrong := refused(with(all, at, anInt(n))); wrong != "" {
					t.Errorf("count %d in piece %d of %s: %s", n, at, short(s), wrong)
				}
			}
		}
	}
}

// A count that is not that of what stands behind it; a great one costs nothing.
// Where all behind it is 0 it may be the image of another state.
func TestP2001ReadOfAnotherCount(t *testing.T) {
	count := map[bool]int{}
	for _, s := range rightStates() {
		all := pieces(s)
		for at, p := range all {
			if p.kind != "count" {
				continue
			}
			tell := &teller{left: p.text}
			was := tell.number(8)
			for _, n := range []int{
				0, 1, 2, 19, 20, 21, 1000, math.MaxInt, was - 1, was + 1, was + 2, was + 256, was + 1<<16, was + 1<<31, was + 1<<32,
				was + 1<<40, was + 1<<48, was + 1<<56, was + 1<<61, was + 1<<62, was + math.MinInt,
			} {
				if n == was {
					continue
				}
				wrong, right := as(with(all, at, anInt(n)))
				count[right]++
				if wrong != "" {
					t.Errorf("count %d, not %d, in piece %d of %s: %s", n, was, at, short(s), wrong)
				}
			}
		}
	}
	if count[true] > 5 || count[false] < 1000 {
		t.Errorf("other counts are taken: %v", count)
	}
}

func TestP2001ReadOfAFlagThatIsNone(t *testing.T) {
	flags := 0
	for _, s := range []api.State{good(), rightStates()[len(rightStates())-1]} {
		all := pieces(s)
		for at, p := range all {
			if p.kind != "flag" {
				continue
			}
			flags++
			for b := 2; b < 256; b++ {
				if wrong := refused(with(all, at, string([]byte{byte(b)}))); wrong != "" {
					t.Errorf("a byte %d in piece %d of %s: %s", b, at, short(s), wrong)
				}
			}
		}
	}
	if flags != 11 {
		t.Errorf("%d flags", flags)
	}
}

// Each number and each text is read at its place, and asked for its bounds.
func TestP2001ReadOfOtherPieces(t *testing.T) {
	texts := []string{"", "a", "b1", "k1", "k2z", "\x00", "\xff"}
	for _, n := range []int{16, 17, 40, 41, 100, 101, 255, 256, 65535} {
		texts = append(texts, "k1"+strings.Repeat("x", n-2))
	}
	ints := []int{
		math.MinInt, -1 << 40, -1001, -1000, -1, 0, 1, 2, 3, 4, 5, 8, 9, 18, 19, 20, 258, 259, 260, 299, 300,
		999, 1000, 1001, 1 << 32, 1<<40 - 1, 1 << 40, 1<<40 + 1, math.MaxInt,
	}
	count := map[bool]int{}
	for _, s := range rightStates() {
		all := pieces(s)
		for at, p := range all {
			var others []string
			switch p.kind {
			case "int":
				for _, n := range ints {
					others = append(others, anInt(n))
				}
			case "text":
				for _, text := range texts {
					others = append(others, aText(text))
				}
			case "flag":
				others = []string{"\x00", "\x01"}
			}
			for _, other := range others {
				wrong, right := as(with(all, at, other))
				count[right]++
				if wrong != "" {
					t.Fatalf("piece %d of %s is %.40q: %s", at, short(s), other, wrong)
				}
			}
		}
	}
	if count[true] < 500 || count[false] < 500 {
		t.Errorf("the images are too much alike: %v", count)
	}
}

// Each byte is turned into each other one.
func TestP2001ReadOfEachByteTurned(t *testing.T) {
	count := map[bool]int{}
	whole := spelled(good())
	for at := range len(whole) {
		for c := range 256 {
			b := []byte(whole)
			b[at] = byte(c)
			wrong, right := as(string(b))
			count[right]++
			if wrong != "" {
				t.Fatalf("a byte %d at %d: %s", c, at, wrong)
			}
		}
	}
	if count[true] < 5000 || count[false] < 5000 {
		t.Errorf("the images are too much alike: %v", count)
	}
}

// Whatever bytes there are: some turned, some cut out, some put in, some moved.
func TestP2001ReadOfAnyBytes(t *testing.T) {
	chance := rand.New(rand.NewSource(2001))
	count := map[bool]int{}
	for range 20000 {
		b := []byte(spelled(stateBy(chance, 2)))
		for range 1 + chance.Intn(2) {
			at := chance.Intn(len(b))
			end := at + chance.Intn(min(9, len(b)-at))
			switch chance.Intn(5) {
			case 0:
				b = slices.Delete(b, at, end)
			case 1:
				b = slices.Insert(b, at, slices.Clone(b[at:end])...)
			case 2:
				b = slices.Insert(b, at, 0)
			default:
				b[at] = byte(chance.Intn(256) >> chance.Intn(9))
			}
			if len(b) == 0 {
				break
			}
		}
		wrong, right := as(string(b))
		count[right]++
		if wrong != "" {
			t.Fatalf("%.1000q: %s", b, wrong)
		}
	}
	if count[true] < 2000 || count[false] < 2000 {
		t.Errorf("the images are too much alike: %v", count)
	}
}

// The size of a state is no part of its being Right: so nothing hangs on it.
func TestP2001OfMany(t *testing.T) {
	const n = 50000
	s := api.State{Next: 3*n + 1, Objects: objects(queue("q", 1, nil, nil), queue("r", 1, nil, nil), table("t"))}
	for i := range n {
		s.Objects[0].Msgs = append(s.Objects[0].Msgs, api.Msg{Id: 1 + i, Pri: i / 1000, Claimed: i%3 == 0, Body: fmt.Sprint(i)})
		s.Objects[0].Dead = append(s.Objects[0].Dead, api.Msg{Id: 2*n - i})
		s.Objects[1].Msgs = append(s.Objects[1].Msgs, api.Msg{Id: 1 + 2*n + i, Corr: "c"})
		s.Objects[2].Rows = append(s.Objects[2].Rows, api.Row{Key: fmt.Sprintf("%06d", i), Value: "v"})
	}
	whole := spelled(s)
	if string(image.Bytes(s)) != whole || len(whole) > state.Size(s) {
		t.Error("Bytes of many are others")
	}
	if wrong := taken(whole, s); wrong != "" {
		t.Error(wrong)
	}
	for _, odd := range []string{whole[:len(whole)-1], whole + "\x00", whole[:len(whole)/2], strings.Replace(whole, "000777", "000776", 1)} {
		if wrong := refused(odd); wrong != "" {
			t.Error(wrong)
		}
	}
}

func TestP2002ReadOfBytes(t *testing.T) {
	chance := rand.New(rand.NewSource(2002))
	l := rightStates()
	for i := range 2000 {
		l = append(l, stateBy(chance, i%20))
	}
	for _, s := range l {
		b := image.Bytes(s)
		if string(b) != spelled(s) || !state.Right(s) {
			t.Fatalf("Bytes of %s: %.400q", short(s), b)
		}
		if wrong := taken(string(b), s); wrong != "" {
			t.Fatal(wrong)
		}
	}
}

// Also where the texts are empty, so that all of the length is in the heads.
func TestP2002BytesAreAtMostSize(t *testing.T) {
	chance := rand.New(rand.NewSource(6000))
	l := append(rightStates(), wrongStates()...)
	for i := range 2000 {
		s := stateBy(chance, i%9)
		for k := range s.Objects {
			for _, some := range [][]api.Msg{s.Objects[k].Msgs, s.Objects[k].Dead} {
				for j := range some {
					some[j].Corr, some[j].Body = "", ""
				}
			}
		}
		l = append(l, s)
	}
	for _, s := range l {
		if got, most := len(image.Bytes(s)), state.Size(s); got > most {
			t.Errorf("%d bytes of a Size of %d: %s", got, most, short(s))
		}
	}
}

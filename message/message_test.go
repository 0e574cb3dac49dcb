package message_test

import (
	"math"
	"math/rand"
	"slices"
	"strings"
	"sync"
	"testing"

	"poste/api"
	"poste/bytes"
	"poste/message"
)

// good is a message that is Right, each field another one than 0.
func good() api.Msg {
	return api.Msg{Id: 7, Pri: -3, Retry: 2, Claimed: true, Corr: "corr", Body: "a body"}
}

// plainInt is a number as chapter 2 spells it.
func plainInt(n int) string {
	b := make([]byte, 8)
	for i := range b {
		b[i] = byte(uint64(n) >> (8 * i))
	}
	return string(b)
}

// plainText is a text as chapter 2 spells it.
func plainText(s string) string {
	s = s[:min(len(s), 65535)]
	return string([]byte{byte(len(s) % 256), byte(len(s) / 256)}) + s
}

// plainBytes is a message as the chapter spells it.
func plainBytes(m api.Msg) string {
	flag := "\x00"
	if m.Claimed {
		flag = "\x01"
	}
	return plainInt(m.Id) + plainInt(m.Pri) + plainInt(m.Retry) + flag + plainText(m.Corr) + plainText(m.Body)
}

// edgeInts are numbers at the edges of a message's fields, and of all numbers.
func edgeInts() []int {
	return []int{
		math.MinInt, math.MinInt + 1, -1 << 40, -1001, -1000, -999, -257, -256, -255, -2, -1, 0, 1, 2, 255, 256, 257,
		998, 999, 1000, 1001, 1002, 65535, 65536, 1<<31 - 1, 1 << 31, 1<<32 - 1, 1 << 32,
		api.MaxIds - 1, api.MaxIds, api.MaxIds + 1, math.MaxInt - 1, math.MaxInt,
	}
}

// edgeTexts are texts of any bytes, and of lengths at the edges of a field's.
func edgeTexts() []string {
	l := []string{"", "a", "\x00", "\x01", "\xff\xfe", "\u00e9\U00010000", "\x00\x00\x00\x00\x00\x00\x00\x00"}
	for _, n := range []int{39, 40, 41, 99, 100, 101, 255, 256, 65535} {
		l = append(l, strings.Repeat("t", n-1)+"\xfe")
	}
	return l
}

// edgeMsgs are messages each of which has one or two fields at an edge.
func edgeMsgs() []api.Msg {
	l := []api.Msg{{}, good()}
	for _, n := range edgeInts() {
		for _, set := range []func(m *api.Msg){
			func(m *api.Msg) { m.Id = n },
			func(m *api.Msg) { m.Pri = n },
			func(m *api.Msg) { m.Retry = n },
		} {
			m := good()
			set(&m)
			l = append(l, m)
			m.Claimed = false
			l = append(l, m)
		}
	}
	for _, a := range edgeTexts() {
		for _, b := range edgeTexts() {
			m := good()
			m.Corr, m.Body = a, b
			l = append(l, m)
		}
	}
	return l
}

// anyMsg is a message by chance, about as often Right as not.
func anyMsg(r *rand.Rand) api.Msg {
	num := func(least, most int) int {
		if r.Intn(8) == 0 {
			all := edgeInts()
			return all[r.Intn(len(all))]
		}
		return least + r.Intn(most-least+1)
	}
	text := func(most int) string {
		b := make([]byte, r.Intn(most+most/10))
		for i := range b {
			b[i] = byte(r.Intn(256))
		}
		return string(b)
	}
	return api.Msg{
		Id: num(1, api.MaxIds), Pri: num(-1000, 1000), Retry: num(0, 1000),
		Claimed: r.Intn(2) == 0, Corr: text(api.MaxKey), Body: text(api.MaxValue),
	}
}

// plainRight is the chapter's sentence on Right.
func plainRight(m api.Msg) bool {
	if m.Id < 1 || m.Id > 1<<40 || m.Pri < -1000 || m.Pri > 1000 || m.Retry < 0 || m.Retry > 1000 {
		return false
	}
	return len(m.Corr) <= 40 && len(m.Body) <= 100
}

func TestP1401RightOfTheZeroMsg(t *testing.T) {
	if message.Right(api.Msg{}) {
		t.Error("the zero Msg is Right")
	}
}

func TestP1401Right(t *testing.T) {
	for _, x := range []struct {
		what string
		turn func(m *api.Msg)
		want bool
	}{
		{"as it is", func(*api.Msg) {}, true},
		{"all least", func(m *api.Msg) { *m = api.Msg{Id: 1, Pri: -1000} }, true},
		{"all greatest", func(m *api.Msg) {
			*m = api.Msg{Id: 1 << 40, Pri: 1000, Retry: 1000, Claimed: true, Corr: strings.Repeat("c", 40), Body: strings.Repeat("b", 100)}
		}, true},
		{"Id least int", func(m *api.Msg) { m.Id = math.MinInt }, false},
		{"Id -1", func(m *api.Msg) { m.Id = -1 }, false},
		{"Id 0", func(m *api.Msg) { m.Id = 0 }, false},
		{"Id 1", func(m *api.Msg) { m.Id = 1 }, true},
		{"Id MaxIds", func(m *api.Msg) { m.Id = api.MaxIds }, true},
		{"Id behind MaxIds", func(m *api.Msg) { m.Id = api.MaxIds + 1 }, false},
		{"Id greatest int", func(m *api.Msg) { m.Id = math.MaxInt }, false},
		{"Pri least int", func(m *api.Msg) { m.Pri = math.MinInt }, false},
		{"Pri -1001", func(m *api.Msg) { m.Pri = -1001 }, false},
		{"Pri -1000", func(m *api.Msg) { m.Pri = -1000 }, true},
		{"Pri 0", func(m *api.Msg) { m.Pri = 0 }, true},
		{"Pri 1000", func(m *api.Msg) { m.Pri = 1000 }, true},
		{"Pri 1001", func(m *api.Msg) { m.Pri = 1001 }, false},
		{"Pri greatest int", func(m *api.Msg) { m.Pri = math.MaxInt }, false},
		{"Retry least int", func(m *api.Msg) { m.Retry = math.MinInt }, false},
		{"Retry -1", func(m *api.Msg) { m.Retry = -1 }, false},
		{"Retry 0", func(m *api.Msg) { m.Retry = 0 }, true},
		{"Retry 1000", func(m *api.Msg) { m.Retry = 1000 }, true},
		{"Retry 1001", func(m *api.Msg) { m.Retry = 1001 }, false},
		{"Retry greatest int", func(m *api.Msg) { m.Retry = math.MaxInt }, false},
		{"not Claimed", func(m *api.Msg) { m.Claimed = false }, true},
		{"Corr of nothing", func(m *api.Msg) { m.Corr = "" }, true},
		{"Corr of 40", func(m *api.Msg) { m.Corr = strings.Repeat("\x00", 40) }, true},
		{"Corr of 41", func(m *api.Msg) { m.Corr = strings.Repeat("\x00", 41) }, false},
		{"Corr of 40 bytes, 20 runes", func(m *api.Msg) { m.Corr = strings.Repeat("\u00e9", 20) }, true},
		{"Corr of 42 bytes, 21 runes", func(m *api.Msg) { m.Corr = strings.Repeat("\u00e9", 21) }, false},
		{"Body of nothing", func(m *api.Msg) { m.Body = "" }, true},
		{"Body of 100", func(m *api.Msg) { m.Body = strings.Repeat("\xff", 100) }, true},
		{"Body of 101", func(m *api.Msg) { m.Body = strings.Repeat("\xff", 101) }, false},
		{"Body of 102 bytes, 51 runes", func(m *api.Msg) { m.Body = strings.Repeat("\u00e9", 51) }, false},
		{"Body of 70000", func(m *api.Msg) { m.Body = strings.Repeat("b", 70000) }, false},
	} {
		m := good()
		x.turn(&m)
		if message.Right(m) != x.want {
			t.Errorf("%s: Right is %t", x.what, !x.want)
		}
	}
}

func TestP1401RightOfMany(t *testing.T) {
	r := rand.New(rand.NewSource(1401))
	l := edgeMsgs()
	for range 5000 {
		l = append(l, anyMsg(r))
	}
	count := map[bool]int{}
	for _, m := range l {
		want := plainRight(m)
		count[want]++
		if message.Right(m) != want {
			t.Fatalf("Right of %+v: %t", m, !want)
		}
	}
	if count[true] < 100 || count[false] < 100 {
		t.Errorf("the messages are too much alike: %v", count)
	}
}

func TestP1401Bytes(t *testing.T) {
	for _, x := range []struct {
		m    api.Msg
		want string
	}{
		{api.Msg{}, strings.Repeat("\x00", 29)},
		{
			api.Msg{Id: 0x0102030405, Pri: -2, Retry: 3, Claimed: true, Corr: "ab", Body: "xyz"},
			"\x05\x04\x03\x02\x01\x00\x00\x00\xfe\xff\xff\xff\xff\xff\xff\xff\x03\x00\x00\x00\x00\x00\x00\x00\x01\x02\x00ab\x03\x00xyz",
		},
		{
			api.Msg{Id: 1, Pri: 256, Retry: 1000, Body: "\x00"},
			"\x01\x00\x00\x00\x00\x00\x00\x00\x00\x01\x00\x00\x00\x00\x00\x00\xe8\x03\x00\x00\x00\x00\x00\x00\x00\x00\x00\x01\x00\x00",
		},
	} {
		if got := string(message.Bytes(x.m)); got != x.want {
			t.Errorf("Bytes of %+v: %q, want %q", x.m, got, x.want)
		}
	}
	r := rand.New(rand.NewSource(1402))
	l := edgeMsgs()
	for range 3000 {
		l = append(l, anyMsg(r))
	}
	for _, m := range l {
		if got := string(message.Bytes(m)); got != plainBytes(m) {
			t.Fatalf("Bytes of %+v: %q", m, got)
		}
	}
}

// Texts that are too long for their head are cut by the Writer.
func TestP1401BytesOfLongTexts(t *testing.T) {
	for _, n := range []int{65535, 65536, 70000} {
		m := api.Msg{Id: 1, Corr: strings.Repeat("c", n), Body: strings.Repeat("b", n)}
		if string(message.Bytes(m)) != plainBytes(m) {
			t.Errorf("Bytes of texts of %d bytes", n)
		}
	}
}

func TestP1401ReadBack(t *testing.T) {
	r := rand.New(rand.NewSource(1403))
	l := edgeMsgs()
	for range 3000 {
		l = append(l, anyMsg(r))
	}
	var all []byte
	for _, m := range l {
		b := []byte(plainBytes(m))
		reader := bytes.NewReader(b)
		if got := message.Read(reader); got != m || !reader.Done() {
			t.Fatalf("Read of the bytes of %+v: %+v", m, got)
		}
		all = append(all, b...)
	}
	reader := bytes.NewReader(all)
	for i, m := range l {
		if reader.Done() {
			t.Fatalf("Done ahead of message %d", i)
		}
		if got := message.Read(reader); got != m {
			t.Fatalf("Read of message %d, %+v: %+v", i, m, got)
		}
	}
	if !reader.Done() {
		t.Error("not Done behind all")
	}
}

// What is left stays for what is read next, whatever it is.
func TestP1401ReadAheadOfOthers(t *testing.T) {
	m := good()
	bare := api.Msg{Id: 1}
	for b := range 256 {
		for _, m := range []api.Msg{m, bare, {}} {
			reader := bytes.NewReader([]byte(plainBytes(m) + string([]byte{byte(b)})))
			if got := message.Read(reader); got != m {
				t.Fatalf("Read, a byte %d behind: %+v", b, got)
			}
			if reader.Done() {
				t.Fatalf("a byte %d behind is read", b)
			}
			if reader.Flag() != (b == 1) || reader.Done() != (b <= 1) {
				t.Fatalf("a byte %d behind is read otherwise", b)
			}
		}
	}
	reader := bytes.NewReader([]byte("\x01" + plainBytes(m) + "\x02\x00hi" + plainInt(-5)))
	if !reader.Flag() || message.Read(reader) != m || reader.Text() != "hi" || reader.Int() != -5 || !reader.Done() {
		t.Error("a message between others is read otherwise")
	}
}

func TestP1401ReadOfWhatIsCut(t *testing.T) {
	for _, m := range []api.Msg{good(), {}, {Id: -1, Pri: -1, Retry: -1, Claimed: true}, {Id: 5, Corr: "only"}, {Id: 5, Body: "only"}} {
		whole := plainBytes(m)
		for n := range len(whole) {
			reader := bytes.NewReader([]byte(whole[:n]))
			if got := message.Read(reader); got != (api.Msg{}) {
				t.Errorf("Read of %d of %d bytes: %+v", n, len(whole), got)
			}
			if reader.Done() || reader.Int() != 0 || reader.Text() != "" || reader.Flag() {
				t.Errorf("Read of %d of %d bytes: the reader has not failed", n, len(whole))
			}
			if got := message.Read(reader); got != (api.Msg{}) || reader.Done() {
				t.Errorf("Read again, of %d of %d bytes: %+v", n, len(whole), got)
			}
		}
	}
}

func TestP1401ReadOfAFlagThatIsNone(t *testing.T) {
	for b := 2; b < 256; b++ {
		whole := []byte(plainBytes(good()))
		whole[24] = byte(b)
		reader := bytes.NewReader(slices.Concat(whole, whole))
		if got := message.Read(reader); got != (api.Msg{}) || reader.Done() {
			t.Errorf("Read with a Flag %d: %+v", b, got)
		}
	}
}

func TestP1401ReadOfAReaderThatHadFailed(t *testing.T) {
	for _, spoil := range []func(r *bytes.Reader){
		func(r *bytes.Reader) { r.Flag() },
		func(r *bytes.Reader) { r.Text() },
	} {
		reader := bytes.NewReader([]byte("\xff\xff" + plainBytes(good())))
		spoil(reader)
		if got := message.Read(reader); got != (api.Msg{}) || reader.Done() {
			t.Errorf("Read of a reader that had failed: %+v", got)
		}
	}
	if got := message.Read(bytes.NewReader(nil)); got != (api.Msg{}) {
		t.Errorf("Read of nothing: %+v", got)
	}
	if got := message.Read(new(bytes.Reader)); got != (api.Msg{}) {
		t.Errorf("Read of a reader that is declared: %+v", got)
	}
}

func TestP1401ReadOfANilReader(t *testing.T) {
	if got := message.Read(nil); got != (api.Msg{}) {
		t.Errorf("Read of a nil reader: %+v", got)
	}
}

func TestP1401Tried(t *testing.T) {
	for _, x := range []struct {
		retry, limit, want int
		over               bool
	}{
		{0, 1, 1, true}, {0, 2, 1, false}, {1, 2, 2, true}, {1, 3, 2, false}, {5, 3, 6, true},
		{0, 0, 1, true}, {0, -1, 1, true}, {0, math.MinInt, 1, true}, {0, math.MaxInt, 1, false},
		{998, 999, 999, true}, {998, 1000, 999, false}, {999, 1000, 1000, true}, {999, 1001, 1000, false},
		{1000, 1000, 1000, true}, {1000, 1001, 1000, false}, {1000, 999, 1000, true},
		{1001, 1000, 1000, true}, {1001, 1001, 1000, false}, {2000, 1500, 1000, false},
		{math.MaxInt, 1000, 1000, true}, {math.MaxInt, 1001, 1000, false}, {math.MaxInt - 1, math.MinInt, 1000, true},
		{-1, 0, 0, true}, {-1, 1, 0, false}, {-2, 0, -1, false}, {-2, -1, -1, true},
		{math.MinInt, 0, math.MinInt + 1, false}, {math.MinInt, math.MinInt, math.MinInt + 1, true}, {math.MinInt, math.MinInt + 2, math.MinInt + 1, false},
	} {
		for _, claimed := range []bool{false, true} {
			m := good()
			m.Retry, m.Claimed = x.retry, claimed
			want := m
			want.Retry, want.Claimed = x.want, false
			if got, over := message.Tried(m, x.limit); got != want || over != x.over {
				t.Errorf("Tried of Retry %d, limit %d: %+v, %t", x.retry, x.limit, got, over)
			}
		}
	}
}

// Other fields stay as they are, also those that are not Right.
func TestP1401TriedOfMany(t *testing.T) {
	for _, m := range edgeMsgs() {
		for _, limit := range edgeInts() {
			want := m
			want.Claimed = false
			if want.Retry++; m.Retry >= 1000 {
				want.Retry = 1000
			}
			if got, over := message.Tried(m, limit); got != want || over != (want.Retry >= limit) {
				t.Fatalf("Tried of %+v, %d: %+v, %t", m, limit, got, over)
			}
		}
	}
}

func TestP1402BytesAreNewMemory(t *testing.T) {
	a, b := message.Bytes(good()), message.Bytes(good())
	for i := range a {
		a[i] = 'x'
	}
	for _, c := range a[:cap(a)] {
		_ = append(b, c)
	}
	if string(b) != plainBytes(good()) || string(message.Bytes(good())) != plainBytes(good()) {
		t.Error("the bytes of two calls lie in one place")
	}
}

func TestP1402WhatIsReadIsItsOwn(t *testing.T) {
	b := []byte(plainBytes(good()))
	reader := bytes.NewReader(b)
	m := message.Read(reader)
	for i := range b {
		b[i] = 'x'
	}
	if m != good() {
		t.Errorf("what was read turned with the bytes: %+v", m)
	}
}

func TestP1402AnswersHangOnArgumentsAlone(t *testing.T) {
	l := edgeMsgs()
	var workers sync.WaitGroup
	for range 8 {
		workers.Go(func() {
			for _, m := range l {
				tried, _ := message.Tried(m, 3)
				if message.Right(m) != plainRight(m) || tried.Claimed || string(message.Bytes(m)) != plainBytes(m) {
					t.Errorf("other answers side by side, of %+v", m)
				}
				if got := message.Read(bytes.NewReader(message.Bytes(m))); got != m {
					t.Errorf("Read side by side: %+v", got)
				}
			}
		})
	}
	workers.Wait()
}

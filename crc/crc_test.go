package crc

import (
	"bytes"
	"hash/crc32"
	"math"
	"math/bits"
	"testing"

	"garboard/api"
)

// draw is some number that hangs on n alone.
func draw(n uint64) uint64 {
	n = (n + 1) * 0x9e3779b97f4a7c15
	n = (n ^ n>>30) * 0xbf58476d1ce4e5b9
	return n ^ n>>27
}

// some is a text of so many bytes that hang on seed alone.
func some(seed uint64, size int) []byte {
	b := make([]byte, size)
	for i := range b {
		b[i] = byte(draw(seed<<20 + uint64(i)))
	}
	return b
}

// texts are ordinary ones, none, and such as a register might stand still at.
func texts() [][]byte {
	all := [][]byte{nil, {}, []byte("123456789"), []byte("a"), {0}, {0, 0, 0, 0, 0}, {255, 255, 255, 255}, bytes.Repeat([]byte{255}, 9)}
	for size := range 70 {
		all = append(all, some(uint64(size), size))
	}
	return append(all, some(99, 2048), make([]byte, 300))
}

// told is the sum of b, bit by bit, as the chapter tells it.
func told(b []byte) uint32 {
	register := uint32(0xFFFFFFFF)
	for _, c := range b {
		for i := range 8 {
			register ^= uint32(c) >> i & 1
			low := register & 1
			register >>= 1
			if low == 1 {
				register ^= 0xEDB88320
			}
		}
	}
	return ^register
}

// P3.1: the chapter's example.
func TestSumExample(t *testing.T) {
	if n := Sum([]byte("123456789")); n != 0xCBF43926 {
		t.Fatalf("%X", n)
	}
}

// P3.1: every byte alone, and texts, by the chapter's words and by the library.
func TestSumOfText(t *testing.T) {
	all := texts()
	for c := range 256 {
		all = append(all, []byte{byte(c)})
	}
	for _, b := range all {
		if n := Sum(b); n != told(b) || n != crc32.ChecksumIEEE(b) {
			t.Fatalf("Sum(%v) is %X, not %X", b, n, told(b))
		}
	}
}

// P3.1: no parts, and parts of no bytes.
func TestSumOfNothing(t *testing.T) {
	if a, b, c, d := Sum(), Sum(nil), Sum([]byte{}), Sum(nil, []byte{}, nil); a != 0 || b != 0 || c != 0 || d != 0 {
		t.Fatal(a, b, c, d)
	}
	if a, b := Sum(nil, []byte("1234"), []byte{}, []byte("56789"), nil), Sum([]byte("123456789")); a != b {
		t.Fatalf("%X %X", a, b)
	}
}

// P3.1: the order of the parts is that of their bytes.
func TestSumKeepsOrder(t *testing.T) {
	if a, b := Sum([]byte("ab"), []byte("cd")), Sum([]byte("cd"), []byte("ab")); a == b || a != told([]byte("abcd")) || b != told([]byte("cdab")) {
		t.Fatalf("%X %X", a, b)
	}
}

// P3.1: New, and the zero State, are of no bytes.
func TestStateOfNothing(t *testing.T) {
	var zero State
	for _, s := range []State{New(), zero, New().Add(), zero.Add(), zero.Add(nil...), New().Add([]byte{}...)} {
		if s.Sum() != 0 || s.Add([]byte("123456789")...).Sum() != 0xCBF43926 {
			t.Fatal(s.Sum())
		}
		if s != zero {
			t.Fatal("states of the same bytes are told apart")
		}
	}
}

// P3.1: bytes one by one, many at once, and both.
func TestStateAdd(t *testing.T) {
	for _, b := range texts() {
		single, begun := New(), State{}
		for i, c := range b {
			if single.Sum() != told(b[:i]) {
				t.Fatalf("State behind %v is %X", b[:i], single.Sum())
			}
			single = single.Add(c)
		}
		begun = begun.Add(b[:len(b)/2]...).Add(b[len(b)/2:]...)
		if n := told(b); single.Sum() != n || begun.Sum() != n || New().Add(b...).Sum() != n {
			t.Fatalf("%v: %X %X, not %X", b, single.Sum(), begun.Sum(), n)
		}
	}
}

// P3.1, R5: a State is a value: what is added makes another one, and leaves this one.
func TestStateIsAValue(t *testing.T) {
	s := New().Add('1', '2', '3')
	before := s.Sum()
	left, right := s.Add('4'), s.Add('5', '6')
	if s.Sum() != before || before != told([]byte("123")) {
		t.Fatalf("%X", s.Sum())
	}
	if left.Sum() != told([]byte("1234")) || right.Sum() != told([]byte("12356")) {
		t.Fatalf("%X %X", left.Sum(), right.Sum())
	}
}

// P3.2: the sum stands behind, the lowest byte first.
func TestSeal(t *testing.T) {
	if b := Seal([]byte("123456789")); string(b) != "123456789\x26\x39\xF4\xCB" {
		t.Fatalf("%q", b)
	}
	for _, b := range texts() {
		n := told(b)
		want := append(bytes.Clone(b), byte(n), byte(n>>8), byte(n>>16), byte(n>>24))
		if got := Seal(b); !bytes.Equal(got, want) {
			t.Fatalf("Seal(%v) is %v, not %v", b, got, want)
		}
	}
}

// P3.2: a sealed text of no bytes is the four bytes of 0.
func TestSealOfNothing(t *testing.T) {
	for _, b := range [][]byte{nil, {}} {
		if got := Seal(b); !bytes.Equal(got, make([]byte, 4)) {
			t.Fatal(got)
		}
	}
	if b, err := Open(make([]byte, 4)); len(b) != 0 || err != api.OK {
		t.Fatal(b, err)
	}
}

// P3.2: fewer than 4 bytes are ErrEnd, whatever they are.
func TestOpenEnd(t *testing.T) {
	short := [][]byte{nil, {}, {0}, {0, 0}, {0, 0, 0}, {1}, {255, 255}, {1, 2, 3}}
	short = append(short, Seal(nil)[:3], Seal([]byte("abc"))[:3])
	for _, b := range short {
		if got, err := Open(b); got != nil || err != api.ErrEnd {
			t.Fatal(b, got, err)
		}
	}
}

// P3.2: from 4 bytes on, what is not sealed is ErrSum, and nothing beside it.
func TestOpenSum(t *testing.T) {
	wrong := [][]byte{{1, 0, 0, 0}, {0, 1, 0, 0}, {0, 0, 1, 0}, {0, 0, 0, 1}, {255, 255, 255, 255}, {0, 0, 0, 0, 0}, []byte("123456789\xCB\xF4\x39\x26")}
	for _, b := range texts() {
		s := Seal(b)
		wrong = append(wrong, append(bytes.Clone(s), 1), append([]byte{7}, s...))
		if len(b) > 0 {
			wrong = append(wrong, s[:len(s)-1], s[1:])
		}
	}
	for _, b := range wrong {
		if got, err := Open(b); got != nil || err != api.ErrSum {
			t.Fatal(b, got, err)
		}
	}
}

// P3.4: what is sealed is opened, and sealed twice is opened twice.
func TestSealedIsOpened(t *testing.T) {
	for _, b := range texts() {
		if got, err := Open(Seal(b)); !bytes.Equal(got, b) || err != api.OK {
			t.Fatal(b, got, err)
		}
		inner, err := Open(Seal(Seal(b)))
		if err != api.OK {
			t.Fatal(b, err)
		}
		if got, err := Open(inner); !bytes.Equal(got, b) || err != api.OK {
			t.Fatal(b, got, err)
		}
	}
}

// burst is what Burst should tell, by its bits one by one as the chapter counts them.
func burst(b []byte, at int, mask uint32) []byte {
	out := bytes.Clone(b)
	for i := range out {
		for k := range 8 {
			place := int64(8*i + k)
			// A place so far off that the difference would leave its type is no place of the mask.
			if int64(at) < -32 || int64(at) > place {
				continue
			}
			if d := place - int64(at); d < 32 && mask>>d&1 == 1 {
				out[i] ^= 1 << k
			}
		}
	}
	return out
}

// masks are the ends, each bit alone, and ordinary ones.
func masks() []uint32 {
	all := []uint32{0, 1, 2, 3, 0x80000000, 0x80000001, 0x7FFFFFFF, 0xFFFFFFFE, 0xFFFFFFFF, 0xAAAAAAAA, 0x55555555, 0x00FF00FF}
	for i := range 32 {
		all = append(all, 1<<i)
	}
	for i := range uint64(40) {
		all = append(all, uint32(draw(i)))
	}
	return all
}

// P3.3: bits are counted from the lowest one of the first byte on.
func TestBurstByHand(t *testing.T) {
	b := []byte{0, 0, 0, 0, 0, 0}
	for _, c := range []struct {
		at   int
		mask uint32
		want []byte
	}{
		{0, 0, []byte{0, 0, 0, 0, 0, 0}},
		{0, 1, []byte{1, 0, 0, 0, 0, 0}},
		{7, 1, []byte{128, 0, 0, 0, 0, 0}},
		{8, 1, []byte{0, 1, 0, 0, 0, 0}},
		{0, 0x04030201, []byte{1, 2, 3, 4, 0, 0}},
		{4, 0xFFFFFFFF, []byte{0xF0, 0xFF, 0xFF, 0xFF, 0x0F, 0}},
		{-4, 0xFFFFFFFF, []byte{0xFF, 0xFF, 0xFF, 0x0F, 0, 0}},
		{-31, 0x80000000, []byte{1, 0, 0, 0, 0, 0}},
		{-31, 0x7FFFFFFF, []byte{0, 0, 0, 0, 0, 0}},
		{-32, 0xFFFFFFFF, []byte{0, 0, 0, 0, 0, 0}},
		{47, 1, []byte{0, 0, 0, 0, 0, 128}},
		{47, 0xFFFFFFFF, []byte{0, 0, 0, 0, 0, 128}},
		{47, 0xFFFFFFFE, []byte{0, 0, 0, 0, 0, 0}},
		{48, 0xFFFFFFFF, []byte{0, 0, 0, 0, 0, 0}},
	} {
		if got := Burst(b, c.at, c.mask); !bytes.Equal(got, c.want) {
			t.Errorf("Burst(%v, %d, %X) is %v, not %v", b, c.at, c.mask, got, c.want)
		}
	}
}

// P3.3: bursts at all places round texts, and far off.
func TestBurst(t *testing.T) {
	far := []int{math.MinInt, math.MinInt + 1, math.MinInt + 31, math.MinInt + 32, math.MinInt32, -1 << 20, 1 << 20, math.MaxInt32, math.MaxInt - 32, math.MaxInt - 31, math.MaxInt - 1, math.MaxInt}
	for size := range 12 {
		b := some(uint64(size), size)
		places := far
		for at := -40; at < 8*size+40; at++ {
			places = append(places, at)
		}
		for _, at := range places {
			for _, mask := range masks() {
				if got, want := Burst(b, at, mask), burst(b, at, mask); !bytes.Equal(got, want) {
					t.Fatalf("Burst(%v, %d, %X) is %v, not %v", b, at, mask, got, want)
				}
			}
		}
	}
}

// P3.3: a burst at places that are no ints would come round to the beginning if they were.
func TestBurstDoesNotComeRound(t *testing.T) {
	b := some(5, 20)
	for i := range 64 {
		if got := Burst(b, math.MaxInt-i, 0xFFFFFFFF); !bytes.Equal(got, b) {
			t.Fatal(i, got)
		}
		if got := Burst(b, math.MinInt+i, 0xFFFFFFFF); !bytes.Equal(got, b) {
			t.Fatal(i, got)
		}
	}
}

// P3.3: the same burst twice is none.
func TestBurstTwice(t *testing.T) {
	b := some(8, 30)
	for at := -40; at < 8*len(b)+40; at++ {
		for _, mask := range masks() {
			if got := Burst(Burst(b, at, mask), at, mask); !bytes.Equal(got, b) {
				t.Fatal(at, mask, got)
			}
		}
	}
}

// P3.5: sealed texts that one burst turned, ahead of the beginning, at the seam and behind the end among them.
func TestTurnedIsNotOpened(t *testing.T) {
	for _, size := range []int{0, 1, 2, 3, 4, 5, 9, 17, 40} {
		b := some(uint64(size), size)
		s := Seal(b)
		for at := -40; at < 8*len(s)+40; at++ {
			for _, mask := range masks() {
				checkTurned(t, b, s, at, mask)
			}
			for i := range uint64(60) {
				checkTurned(t, b, s, at, uint32(draw(i+uint64(at+100)<<16)))
			}
		}
	}
}

// checkTurned opens s behind a burst: it is refused just if some bit was turned.
func checkTurned(t *testing.T, b, s []byte, at int, mask uint32) {
	t.Helper()
	turned := Burst(s, at, mask)
	got, err := Open(turned)
	if bytes.Equal(turned, s) {
		if err != api.OK || !bytes.Equal(got, b) {
			t.Fatal("not turned, but not opened", at, mask, got, err)
		}
		return
	}
	if err != api.ErrSum || got != nil {
		t.Fatal("turned, but opened", s, at, mask, got, err)
	}
}

// P3.5: all bursts of up to 14 bits at the seam, and a burst of just 32 bits with each pair of ends.
func TestTurnedAtTheSeam(t *testing.T) {
	b := []byte("123456789")
	s := Seal(b)
	for at := 8*len(b) - 14; at <= 8*len(b); at++ {
		for mask := range uint32(1 << 14) {
			checkTurned(t, b, s, at, mask)
		}
	}
	for at := 8*len(b) - 31; at <= 8*len(b); at++ {
		for i := range uint64(500) {
			mask := uint32(draw(i)) | 0x80000001
			if bits.LeadingZeros32(mask) != 0 {
				t.Fatal("a mask of this test is too short")
			}
			checkTurned(t, b, s, at, mask)
		}
	}
}

// P3.6: the sum hangs on the bytes alone: all cuts into three, and into many.
func TestSumOfCuts(t *testing.T) {
	b := some(1, 40)
	want := told(b)
	for i := 0; i <= len(b); i++ {
		for k := i; k <= len(b); k++ {
			if n := Sum(b[:i], b[i:k], b[k:]); n != want {
				t.Fatalf("cut at %d and %d: %X, not %X", i, k, n, want)
			}
			if n := New().Add(b[:i]...).Add(b[i:k]...).Add(b[k:]...).Sum(); n != want {
				t.Fatalf("added up to %d and %d: %X, not %X", i, k, n, want)
			}
		}
	}
	var parts [][]byte
	for i := range b {
		parts = append(parts, b[i:i+1], nil)
	}
	if n := Sum(parts...); n != want {
		t.Fatalf("%X, not %X", n, want)
	}
}

// roomy is a text with room behind its end, and the memory that it lies in.
func roomy() (b, all []byte) {
	all = []byte("123456789-------------")
	return all[:9], all
}

// R4: nothing is written into what is handed in, not even behind its end.
func TestNothingIsWritten(t *testing.T) {
	b, all := roomy()
	Sum(b, b[:3])
	Seal(b)
	Open(b)
	Open(Seal(b))
	Burst(b, 3, 0xFFFFFFFF)
	New().Add(b...)
	if string(all) != "123456789-------------" {
		t.Fatalf("%q", all)
	}
}

// R4: what is answered is the caller's.
func TestAnswersAreApart(t *testing.T) {
	b, all := roomy()
	for _, answer := range [][]byte{Seal(b), Burst(b, 0, 0), Burst(b, 9, 5), Burst(b, math.MaxInt, 7)} {
		for i := range answer[:cap(answer)] {
			answer[:cap(answer)][i] = '!'
		}
	}
	s := Seal(b)
	sealed := bytes.Clone(s)
	opened, _ := Open(s)
	for i := range opened[:cap(opened)] {
		opened[:cap(opened)][i] = '!'
	}
	if string(all) != "123456789-------------" || !bytes.Equal(s, sealed) {
		t.Fatalf("%q %q", all, s)
	}
}

// R6: nil and the empty list are the same.
func TestNilAndEmpty(t *testing.T) {
	if a, b := Seal(nil), Seal([]byte{}); !bytes.Equal(a, b) {
		t.Fatal(a, b)
	}
	for _, b := range [][]byte{nil, {}} {
		if got := Burst(b, 0, 0xFFFFFFFF); len(got) != 0 {
			t.Fatal(got)
		}
		if got, err := Open(b); got != nil || err != api.ErrEnd {
			t.Fatal(got, err)
		}
	}
}

package varint

import (
	"bytes"
	"encoding/binary"
	"math"
	"math/big"
	"slices"
	"testing"

	"garboard/api"
)

// numbers are those at which one byte more is needed, or just is not, the ends, and some ordinary ones.
func numbers() []uint64 {
	nums := []uint64{0, 1, 2, 5, 300, 1000, 65535, math.MaxInt64, math.MaxUint64 - 1, math.MaxUint64}
	for i := range 64 {
		n := uint64(1) << i
		nums = append(nums, n-1, n, n+1)
	}
	for i := range 200 {
		nums = append(nums, draw(uint64(i))>>(i%64))
	}
	return nums
}

// draw is some number that hangs on n alone.
func draw(n uint64) uint64 {
	n = (n + 1) * 0x9e3779b97f4a7c15
	n = (n ^ n>>30) * 0xbf58476d1ce4e5b9
	return n ^ n>>27
}

// eachText hands on byte lists: all of up to two bytes, and longer ones with many bytes at which something is decided.
func eachText(do func(b []byte)) {
	do(nil)
	for first := range 256 {
		do([]byte{byte(first)})
		for second := range 256 {
			do([]byte{byte(first), byte(second)})
		}
	}
	pick := []byte{0x80, 0xff, 0x81, 0xfe, 0x80, 0x00, 0x01, 0x02, 0x7f}
	for i := range uint64(30000) {
		b := make([]byte, draw(i)%13)
		for k := range b {
			d := draw(i*16 + uint64(k) + 1<<40)
			b[k] = pick[(d>>8)%uint64(5+4*(i%2))]
			if k == len(b)-1 || d%9 == 0 {
				b[k] = pick[(d>>8)%uint64(len(pick))]
			}
		}
		do(b)
	}
}

// got is what Get should tell of b, by a whole number of any size.
func got(b []byte) (uint64, int, api.Errno) {
	whole := new(big.Int)
	for i, c := range b {
		whole.Or(whole, new(big.Int).Lsh(big.NewInt(int64(c&127)), uint(7*i)))
		if !whole.IsUint64() || i > 0 && c == 0 || i == 9 && c >= 128 {
			return 0, 0, api.ErrForm
		}
		if c < 128 {
			return whole.Uint64(), i + 1, api.OK
		}
	}
	return 0, 0, api.ErrEnd
}

// P2.1: the chapter's example.
func TestPutExample(t *testing.T) {
	if b := Put(nil, 300); !bytes.Equal(b, []byte{172, 2}) {
		t.Fatal(b)
	}
	if n, size, err := Get([]byte{172, 2}); n != 300 || size != 2 || err != api.OK {
		t.Fatal(n, size, err)
	}
}

// P2.1: bits in sevens, the lowest first.
func TestPutBytesOfNumbers(t *testing.T) {
	for _, c := range []struct {
		n uint64
		b []byte
	}{
		{0, []byte{0}},
		{1, []byte{1}},
		{127, []byte{127}},
		{128, []byte{128, 1}},
		{16383, []byte{255, 127}},
		{16384, []byte{128, 128, 1}},
		{1<<63 - 1, []byte{255, 255, 255, 255, 255, 255, 255, 255, 127}},
		{1 << 63, []byte{128, 128, 128, 128, 128, 128, 128, 128, 128, 1}},
		{math.MaxUint64, []byte{255, 255, 255, 255, 255, 255, 255, 255, 255, 1}},
	} {
		if b := Put(nil, c.n); !bytes.Equal(b, c.b) {
			t.Errorf("Put of %d: %v, not %v", c.n, b, c.b)
		}
		if s := Size(c.n); s != len(c.b) {
			t.Errorf("Size of %d: %d, not %d", c.n, s, len(c.b))
		}
	}
}

// P2.1: the library writes numbers in the same way.
func TestPutAsLibrary(t *testing.T) {
	var want []byte
	nums := numbers()
	for _, n := range nums {
		one := binary.AppendUvarint(nil, n)
		if b := Put(nil, n); !bytes.Equal(b, one) {
			t.Fatalf("Put of %d: %v, not %v", n, b, one)
		}
		if s := Size(n); s != len(one) {
			t.Fatalf("Size of %d: %d, not %d", n, s, len(one))
		}
		want = append(want, one...)
	}
	if b := Put(nil, nums...); !bytes.Equal(b, want) {
		t.Fatal("many numbers do not stand behind one another in order")
	}
	if b := Put([]byte{9, 0, 200}, nums...); !bytes.Equal(b, append([]byte{9, 0, 200}, want...)) {
		t.Fatal("what was there does not stand ahead")
	}
}

// P2.1: no numbers at all.
func TestPutNothing(t *testing.T) {
	if b := Put(nil); len(b) != 0 {
		t.Fatal(b)
	}
	if b := Put([]byte{7, 8}); !bytes.Equal(b, []byte{7, 8}) {
		t.Fatal(b)
	}
}

// P2.1, P2.6: twice n, or twice (-n) less 1, of whole numbers of any size.
func TestFold(t *testing.T) {
	signed := []int64{math.MinInt64, math.MinInt64 + 1, math.MaxInt64, math.MaxInt64 - 1, 0, 1, -1, 2, -2, 63, 64, -64, -65}
	for _, n := range numbers() {
		signed = append(signed, int64(n))
	}
	for _, n := range signed {
		want := new(big.Int).Lsh(big.NewInt(n), 1)
		if n < 0 {
			want.Neg(want).Sub(want, big.NewInt(1))
		}
		if f := Fold(n); !want.IsUint64() || f != want.Uint64() {
			t.Fatalf("Fold of %d: %d, not %v", n, f, want)
		}
		if u := Unfold(Fold(n)); u != n {
			t.Fatalf("Unfold of the folded %d: %d", n, u)
		}
	}
	for _, n := range numbers() {
		if f := Fold(Unfold(n)); f != n {
			t.Fatalf("Fold of the unfolded %d: %d", n, f)
		}
	}
}

// P2.1: the ends of the signed numbers, and those about 0.
func TestFoldEnds(t *testing.T) {
	for _, c := range []struct {
		n int64
		f uint64
	}{
		{0, 0}, {-1, 1}, {1, 2}, {-2, 3}, {2, 4},
		{math.MaxInt64, math.MaxUint64 - 1},
		{math.MinInt64, math.MaxUint64},
	} {
		if f := Fold(c.n); f != c.f {
			t.Errorf("Fold of %d: %d, not %d", c.n, f, c.f)
		}
		if n := Unfold(c.f); n != c.n {
			t.Errorf("Unfold of %d: %d, not %d", c.f, n, c.n)
		}
	}
}

// ones are that many bytes that tell that more follow.
func ones(n int, behind ...byte) []byte {
	return append(bytes.Repeat([]byte{255}, n), behind...)
}

// P2.2: the errors, each at the first byte that tells so.
func TestGetEdges(t *testing.T) {
	for _, c := range []struct {
		b    []byte
		n    uint64
		size int
		err  api.Errno
	}{
		{nil, 0, 0, api.ErrEnd},
		{[]byte{}, 0, 0, api.ErrEnd},
		{[]byte{0}, 0, 1, api.OK},
		{[]byte{0, 0}, 0, 1, api.OK},
		{[]byte{127, 128}, 127, 1, api.OK},
		{[]byte{128}, 0, 0, api.ErrEnd},
		{[]byte{128, 0}, 0, 0, api.ErrForm},
		{[]byte{128, 0, 1}, 0, 0, api.ErrForm},
		{[]byte{128, 1}, 128, 2, api.OK},
		{[]byte{128, 128, 0}, 0, 0, api.ErrForm},
		{[]byte{128, 128, 1, 0}, 16384, 3, api.OK},
		{ones(8, 127), math.MaxInt64, 9, api.OK},
		{ones(8, 0), 0, 0, api.ErrForm},
		{ones(9), 0, 0, api.ErrEnd},
		{ones(9, 0), 0, 0, api.ErrForm},
		{ones(9, 1), math.MaxUint64, 10, api.OK},
		{ones(9, 1, 255), math.MaxUint64, 10, api.OK},
		{ones(9, 2), 0, 0, api.ErrForm},
		{ones(9, 127), 0, 0, api.ErrForm},
		{ones(9, 128), 0, 0, api.ErrForm},
		{ones(9, 129), 0, 0, api.ErrForm},
		{ones(10), 0, 0, api.ErrForm},
		{ones(10, 1), 0, 0, api.ErrForm},
		{ones(400), 0, 0, api.ErrForm},
	} {
		n, size, err := Get(c.b)
		if n != c.n || size != c.size || err != c.err {
			t.Errorf("Get(%v): %d %d %v, not %d %d %v", c.b, n, size, err, c.n, c.size, c.err)
		}
	}
}

// P2.2, P2.5: of all byte lists, and what is got is put as the same bytes.
func TestGetAll(t *testing.T) {
	eachText(func(b []byte) {
		n, size, err := Get(b)
		wantN, wantSize, wantErr := got(b)
		if n != wantN || size != wantSize || err != wantErr {
			t.Fatalf("Get(%v): %d %d %v, not %d %d %v", b, n, size, err, wantN, wantSize, wantErr)
		}
		if err == api.OK && !bytes.Equal(Put(nil, n), b[:size]) {
			t.Fatalf("%v is got as %d, that is put as %v", b, n, Put(nil, n))
		}
	})
}

// P2.4: what is put is got, whatever stands behind.
func TestPutIsGot(t *testing.T) {
	behinds := [][]byte{nil, {0}, {1}, {128}, {255, 255}, ones(12, 1), {0, 0, 0}}
	for _, n := range numbers() {
		b := Put(nil, n)
		for _, behind := range behinds {
			m, size, err := Get(slices.Concat(b, behind))
			if m != n || size != len(b) || err != api.OK {
				t.Fatalf("%d with %v behind is got as %d %d %v", n, behind, m, size, err)
			}
		}
		for end := range b {
			if m, size, err := Get(b[:end]); m != 0 || size != 0 || err != api.ErrEnd {
				t.Fatalf("%d, cut to %d bytes, is got as %d %d %v", n, end, m, size, err)
			}
		}
	}
}

// P2.3, P2.4: bytes, put and got, whatever stands ahead and behind.
func TestBytesAreGot(t *testing.T) {
	for _, size := range []int{0, 1, 2, 127, 128, 129, 300, 16383, 16384} {
		p := make([]byte, size)
		for i := range p {
			p[i] = byte(draw(uint64(i)))
		}
		b := PutBytes([]byte{4, 200}, p)
		want := slices.Concat([]byte{4, 200}, binary.AppendUvarint(nil, uint64(size)), p)
		if !bytes.Equal(b, want) {
			t.Fatalf("PutBytes of %d bytes: %v", size, b)
		}
		whole := len(b) - 2
		for _, behind := range [][]byte{nil, {0}, {255, 255}} {
			for _, most := range []int{size, size + 1, math.MaxInt} {
				q, k, err := GetBytes(slices.Concat(b[2:], behind), most)
				if !bytes.Equal(q, p) || k != whole || err != api.OK {
					t.Fatalf("GetBytes of %d bytes, at most %d: %d %v", size, most, k, err)
				}
			}
		}
		for _, most := range []int{size - 1, -1, math.MinInt} {
			if q, k, err := GetBytes(b[2:], most); len(q) != 0 || k != 0 || err != api.ErrMany {
				t.Fatalf("GetBytes of %d bytes, at most %d: %v %d %v", size, most, q, k, err)
			}
		}
		if size > 0 {
			if q, k, err := GetBytes(b[2:len(b)-1], size); len(q) != 0 || k != 0 || err != api.ErrEnd {
				t.Fatalf("GetBytes of %d bytes without the last: %v %d %v", size, q, k, err)
			}
		}
	}
}

// P2.3: GetBytes' errors, the one named first ahead.
func TestGetBytesErrors(t *testing.T) {
	for _, c := range []struct {
		b    []byte
		most int
		err  api.Errno
	}{
		{nil, 5, api.ErrEnd},
		{nil, -1, api.ErrEnd},
		{[]byte{128}, -1, api.ErrEnd},
		{[]byte{128, 0}, -1, api.ErrForm},
		{[]byte{128, 0}, 5, api.ErrForm},
		{ones(9, 2), 5, api.ErrForm},
		{[]byte{0}, -1, api.ErrMany},
		{[]byte{1, 7}, 0, api.ErrMany},
		{[]byte{3}, 2, api.ErrMany},
		{[]byte{3}, 3, api.ErrEnd},
		{[]byte{3, 1, 2}, 3, api.ErrEnd},
		{ones(9, 1), math.MaxInt, api.ErrMany},
		{ones(9, 1, 5, 5), -1, api.ErrMany},
		{ones(8, 127), math.MaxInt, api.ErrEnd},
		{ones(8, 127, 1), math.MaxInt, api.ErrEnd},
		{ones(8, 127), math.MaxInt - 1, api.ErrMany},
	} {
		if p, size, err := GetBytes(c.b, c.most); len(p) != 0 || size != 0 || err != c.err {
			t.Errorf("GetBytes(%v, %d): %v %d %v, not %v", c.b, c.most, p, size, err, c.err)
		}
	}
	if p, size, err := GetBytes([]byte{0, 9}, 0); len(p) != 0 || size != 1 || err != api.OK {
		t.Errorf("no bytes: %v %d %v", p, size, err)
	}
}

// P2.3: All's errors, and what it tells without one.
func TestAllEdges(t *testing.T) {
	for _, c := range []struct {
		b    []byte
		most int
		nums []uint64
		err  api.Errno
	}{
		{nil, 0, nil, api.OK},
		{nil, 9, nil, api.OK},
		{nil, -1, nil, api.ErrMany},
		{[]byte{5}, math.MinInt, nil, api.ErrMany},
		{[]byte{128}, -1, nil, api.ErrMany},
		{[]byte{5}, 0, nil, api.ErrMany},
		{[]byte{5}, 1, []uint64{5}, api.OK},
		{[]byte{5, 172, 2, 0}, 3, []uint64{5, 300, 0}, api.OK},
		{[]byte{5, 172, 2, 0}, math.MaxInt, []uint64{5, 300, 0}, api.OK},
		{[]byte{5, 172, 2, 0}, 2, nil, api.ErrMany},
		{[]byte{5, 172}, 9, nil, api.ErrEnd},
		{[]byte{5, 128, 0, 6}, 9, nil, api.ErrForm},
		{[]byte{5, 128, 0, 128}, 9, nil, api.ErrForm},
		{[]byte{5, 6, 128}, 1, nil, api.ErrMany},
		{[]byte{5, 6, 128, 0}, 1, nil, api.ErrMany},
		// What is cut, or has no such form, is no number, so there are no more than most.
		{[]byte{5, 128}, 1, nil, api.ErrEnd},
		{[]byte{5, 128, 0}, 1, nil, api.ErrForm},
		{[]byte{128}, 0, nil, api.ErrEnd},
	} {
		nums, err := All(c.b, c.most)
		if !slices.Equal(nums, c.nums) || err != c.err {
			t.Errorf("All(%v, %d): %v %v, not %v %v", c.b, c.most, nums, err, c.nums, c.err)
		}
	}
}

// P2.3, P2.4: all that is put follows, and is skipped.
func TestAllAndSkip(t *testing.T) {
	nums := numbers()
	b := Put(nil, nums...)
	for _, most := range []int{len(nums), len(nums) + 1} {
		if back, err := All(b, most); !slices.Equal(back, nums) || err != api.OK {
			t.Fatalf("All with most %d: %d numbers, %v", most, len(back), err)
		}
	}
	if back, err := All(b, len(nums)-1); len(back) != 0 || err != api.ErrMany {
		t.Fatal(len(back), err)
	}
	for n := range len(nums) + 1 {
		if size, err := Skip(b, n); size != len(Put(nil, nums[:n]...)) || err != api.OK {
			t.Fatalf("Skip of %d: %d %v", n, size, err)
		}
	}
	if size, err := Skip(b, len(nums)+1); size != 0 || err != api.ErrEnd {
		t.Fatal(size, err)
	}
}

// P2.3: Skip's errors, and an n below 1.
func TestSkipEdges(t *testing.T) {
	for _, c := range []struct {
		b    []byte
		n    int
		size int
		err  api.Errno
	}{
		{nil, 0, 0, api.OK},
		{nil, -1, 0, api.OK},
		{[]byte{128, 0}, 0, 0, api.OK},
		{[]byte{5}, math.MinInt, 0, api.OK},
		{nil, 1, 0, api.ErrEnd},
		{[]byte{5, 172, 2, 0}, 1, 1, api.OK},
		{[]byte{5, 172, 2, 0}, 2, 3, api.OK},
		{[]byte{5, 172, 2, 0}, 3, 4, api.OK},
		{[]byte{5, 172, 2, 0}, 4, 0, api.ErrEnd},
		{[]byte{5, 172, 2, 0}, math.MaxInt, 0, api.ErrEnd},
		{[]byte{5, 128, 0}, 1, 1, api.OK},
		{[]byte{5, 128, 0}, 2, 0, api.ErrForm},
		{[]byte{5, 128, 0}, 3, 0, api.ErrForm},
	} {
		if size, err := Skip(c.b, c.n); size != c.size || err != c.err {
			t.Errorf("Skip(%v, %d): %d %v, not %d %v", c.b, c.n, size, err, c.size, c.err)
		}
	}
}

// R4, P2.1, P2.3: what is handed in stays, even behind its end, and what is answered is the caller's.
func TestListsAreApart(t *testing.T) {
	room := []byte{1, 2, 3, 4, 5, 6, 7, 8}
	before := slices.Clone(room)
	nums := []uint64{300, 5}
	first := Put(room[:2], nums...)
	second := Put(room[:2], 9)
	third := PutBytes(room[:2], room[3:6])
	none := Put(room[:2])
	if !bytes.Equal(room, before) || !slices.Equal(nums, []uint64{300, 5}) {
		t.Fatal("a list that was handed in was written into", room, nums)
	}
	for _, b := range [][]byte{first, second, third, none} {
		for i := range b {
			b[i] = 99
		}
	}
	if !bytes.Equal(room, before) {
		t.Fatal("an answer shares memory with what was handed in", room)
	}
	laid := PutBytes(nil, []byte{7, 8, 9})
	p, _, _ := GetBytes(laid, 3)
	p[0] = 50
	p = append(p, 51)
	if !bytes.Equal(laid, []byte{3, 7, 8, 9}) || len(p) != 4 {
		t.Fatal("the bytes that were got are those that were handed in", laid)
	}
}

package frame

import (
	"bytes"
	"encoding/binary"
	"hash/crc32"
	"math"
	"slices"
	"testing"

	"garboard/api"
	"garboard/crc"
)

// draw is some number that hangs on n alone.
func draw(n uint64) uint64 {
	n = (n + 1) * 0x9e3779b97f4a7c15
	n = (n ^ n>>30) * 0xbf58476d1ce4e5b9
	return n ^ n>>27
}

// some is a text of so many bytes that hang on seed alone.
func some(seed uint64, size int) []byte {
	b := make([]byte, size)
	for i := range b {
		b[i] = byte(draw(seed<<20 + uint64(i)))
	}
	return b
}

// sealed is b with the library's own sum behind it.
func sealed(b ...byte) []byte {
	return binary.LittleEndian.AppendUint32(slices.Clone(b), crc32.ChecksumIEEE(b))
}

// told is the frame of a load, as the chapter tells it.
func told(load []byte) []byte {
	b := binary.AppendUvarint([]byte{71, 98, 1}, uint64(len(load)))
	return sealed(append(b, load...)...)
}

// laid is the load's frame, which must be one.
func laid(t *testing.T, load []byte) []byte {
	t.Helper()
	b, err := Lay(load)
	if err != api.OK {
		t.Fatalf("Lay of %d bytes: %v", len(load), err)
	}
	return b
}

// join are texts one behind the other, in memory of their own.
func join(parts ...[]byte) []byte { return bytes.Join(parts, nil) }

// loads are ordinary ones, the shortest and the longest, and those whose number grows a byte.
func loads() [][]byte {
	all := [][]byte{nil, {}, []byte("ab"), {71, 98, 1, 0}, {0}, make([]byte, 5), bytes.Repeat([]byte{255}, 9)}
	for _, size := range []int{1, 2, 3, 4, 5, 8, 50, 126, 127, 128, 129, 255, 256, 1000, 2047, 2048} {
		all = append(all, some(uint64(size), size))
	}
	return append(all, told([]byte("a frame within a frame")))
}

// expectParse is a check that Parse and One of b answer just an error.
func expectParse(t *testing.T, b []byte, want api.Errno) {
	t.Helper()
	if load, size, err := Parse(b); load != nil || size != 0 || err != want {
		t.Fatalf("Parse(%v): %v %d %v, not %v", b, load, size, err, want)
	}
	if load, err := One(b); load != nil || err != want {
		t.Fatalf("One(%v): %v %v, not %v", b, load, err, want)
	}
}

// P4.1: the chapter's example, by Size and by Lay.
func TestFrameOfNoBytes(t *testing.T) {
	if n := Size(0); n != 8 {
		t.Fatal(n)
	}
	for _, load := range [][]byte{nil, {}} {
		if b := laid(t, load); len(b) != 8 || !bytes.Equal(b[:4], []byte{71, 98, 1, 0}) {
			t.Fatal(b)
		}
	}
}

// P4.1: a frame is what the chapter's words tell, byte by byte.
func TestLay(t *testing.T) {
	for _, load := range loads() {
		if b := laid(t, load); !bytes.Equal(b, told(load)) {
			t.Fatalf("Lay(%v) is %v, not %v", load, b, told(load))
		}
	}
	b := laid(t, []byte("ab"))
	if sum := crc32.ChecksumIEEE([]byte{71, 98, 1, 2, 'a', 'b'}); !bytes.Equal(b, []byte{71, 98, 1, 2, 'a', 'b', byte(sum), byte(sum >> 8), byte(sum >> 16), byte(sum >> 24)}) {
		t.Fatal(b)
	}
}

// P4.1: the longest load, and one byte more.
func TestLayTooLong(t *testing.T) {
	if b, err := Lay(make([]byte, 2048)); err != api.OK || len(b) != 2057 {
		t.Fatal(len(b), err)
	}
	for _, size := range []int{2049, 2050, 4096, 1 << 20} {
		if b, err := Lay(make([]byte, size)); b != nil || err != api.ErrMany {
			t.Fatal(size, len(b), err)
		}
	}
}

// P4.1: Size is the frame's length for each load that there is.
func TestSize(t *testing.T) {
	for n := range api.MaxPayload + 1 {
		if got, want := Size(n), len(told(make([]byte, n))); got != want {
			t.Fatalf("Size(%d) is %d, not %d", n, got, want)
		}
	}
	for _, load := range loads() {
		if n := len(laid(t, load)); n != Size(len(load)) {
			t.Fatal(n, Size(len(load)))
		}
	}
}

// P4.1: no load has so many bytes.
func TestSizeOfNone(t *testing.T) {
	for _, n := range []int{-1, -2, -8, math.MinInt, math.MinInt + 1, 2049, 2050, 1 << 20, 1 << 32, math.MaxInt - 1, math.MaxInt} {
		if got := Size(n); got != 0 {
			t.Fatalf("Size(%d) is %d", n, got)
		}
	}
	if a, b, c, d := Size(127), Size(128), Size(2047), Size(2048); a != 135 || b != 137 || c != 2056 || d != 2057 {
		t.Fatal(a, b, c, d)
	}
}

// P4.2, P4.4: what the chapter's words lay is parsed, whatever stands behind.
func TestParse(t *testing.T) {
	behinds := [][]byte{nil, {0}, {71}, {71, 98, 1}, {255, 255, 255, 255}, told(nil), told([]byte("next")), some(7, 300)}
	for _, load := range loads() {
		for _, behind := range behinds {
			for _, b := range [][]byte{join(told(load), behind), join(laid(t, load), behind)} {
				if got, size, err := Parse(b); !bytes.Equal(got, load) || size != len(b)-len(behind) || err != api.OK {
					t.Fatalf("Parse(%v): %v %d %v", b, got, size, err)
				}
			}
		}
	}
}

// P4.2: each cut of a frame ends ahead of something, and is told as that.
func TestParseCut(t *testing.T) {
	for _, load := range loads() {
		b := told(load)
		for n := range b {
			expectParse(t, b[:n:n], api.ErrEnd)
		}
	}
	expectParse(t, nil, api.ErrEnd)
	expectParse(t, []byte{}, api.ErrEnd)
}

// P4.2: each byte that the mark does not have, in its first and in its second place, alone and ahead of more.
func TestParseMark(t *testing.T) {
	for c := range 256 {
		for _, behind := range [][]byte{nil, {98}, {98, 1}, {98, 2}, {99}, told([]byte("ab"))[1:]} {
			if c != 71 {
				expectParse(t, join([]byte{byte(c)}, behind), api.ErrForm)
			}
		}
		for _, behind := range [][]byte{nil, {1}, {2}, {1, 128, 0}, told([]byte("ab"))[2:]} {
			if c != 98 {
				expectParse(t, join([]byte{71, byte(c)}, behind), api.ErrForm)
			}
		}
	}
	// The mark turned about, and one whose sum fits.
	expectParse(t, sealed(98, 71, 1, 0), api.ErrForm)
	expectParse(t, sealed(71, 99, 1, 0), api.ErrForm)
	expectParse(t, sealed(70, 98, 1, 0), api.ErrForm)
}

// P4.2: other versions, whatever stands behind them, even if the sum fits.
func TestParseVersion(t *testing.T) {
	for v := range 256 {
		if v == 1 {
			continue
		}
		for _, behind := range [][]byte{nil, {128}, {128, 0}, {255, 255}, told([]byte("ab"))[3:]} {
			expectParse(t, join([]byte{71, 98, byte(v)}, behind), api.ErrKind)
		}
		expectParse(t, sealed(71, 98, byte(v), 2, 'a', 'b'), api.ErrKind)
	}
}

// P4.2: each error of the number.
func TestParseNumber(t *testing.T) {
	head := []byte{71, 98, 1}
	nines := bytes.Repeat([]byte{255}, 9)
	for _, number := range [][]byte{{}, {128}, {129, 128}, {255, 255, 255}, nines, bytes.Repeat([]byte{128}, 9), join(nines, []byte{1})[:9]} {
		expectParse(t, join(head, number), api.ErrEnd)
	}
	for _, number := range [][]byte{{128, 0}, {130, 0}, {255, 128, 0}, join(nines, []byte{0}), join(nines, []byte{2}), join(nines, []byte{128}), join(nines, []byte{129}), join(nines, []byte{255})} {
		expectParse(t, join(head, number), api.ErrForm)
		expectParse(t, join(head, number, []byte("ab")), api.ErrForm)
		expectParse(t, sealed(join(head, number, []byte("ab"))...), api.ErrForm)
	}
}

// P4.2: numbers above the longest load, with bytes missing, with just these bytes, and with a sum that fits.
func TestParseMany(t *testing.T) {
	head := []byte{71, 98, 1}
	for _, n := range []uint64{2049, 2050, 4096, 16384, 1 << 31, 1 << 32, 1<<32 + 2, math.MaxInt64 - 8, math.MaxInt64, 1 << 63, 1<<63 + 2, math.MaxUint64 - 1, math.MaxUint64} {
		b := binary.AppendUvarint(slices.Clone(head), n)
		expectParse(t, b, api.ErrMany)
		expectParse(t, sealed(join(b, []byte("ab"))...), api.ErrMany)
	}
	b := binary.AppendUvarint(slices.Clone(head), 2049)
	expectParse(t, sealed(join(b, some(3, 2049))...), api.ErrMany)
	// The longest load is not above it: just its bytes are missing.
	b = binary.AppendUvarint(slices.Clone(head), 2048)
	expectParse(t, b, api.ErrEnd)
	expectParse(t, join(b, some(3, 2051)), api.ErrEnd)
	expectParse(t, join(b, some(3, 2052)), api.ErrSum)
}

// P4.2: a sum that is another one, in each of its bytes, turned about, and of other bytes.
func TestParseSum(t *testing.T) {
	for _, load := range loads() {
		b := told(load)
		for i := len(b) - 4; i < len(b); i++ {
			for _, turn := range []byte{1, 2, 16, 128, 255} {
				c := slices.Clone(b)
				c[i] ^= turn
				expectParse(t, c, api.ErrSum)
				expectParse(t, join(c, told(nil)), api.ErrSum)
			}
		}
	}
	ab := []byte{71, 98, 1, 2, 'a', 'b'}
	expectParse(t, binary.BigEndian.AppendUint32(slices.Clone(ab), crc32.ChecksumIEEE(ab)), api.ErrSum)
	for from := 1; from < len(ab); from++ {
		expectParse(t, binary.LittleEndian.AppendUint32(slices.Clone(ab), crc32.ChecksumIEEE(ab[from:])), api.ErrSum)
	}
	expectParse(t, join(ab, make([]byte, 4)), api.ErrSum)
}

// P4.2: a byte of the load, or of the number, that is another one is met by the sum.
func TestParseTurned(t *testing.T) {
	b := told([]byte("some load"))
	for i := 4; i < len(b); i++ {
		for c := range 256 {
			if byte(c) != b[i] {
				turned := slices.Clone(b)
				turned[i] = byte(c)
				expectParse(t, turned, api.ErrSum)
			}
		}
	}
	b[3]--
	expectParse(t, b, api.ErrSum)
	b[3] += 2
	expectParse(t, b, api.ErrEnd)
}

// P4.2: of two errors the one that holds first.
func TestParseFirst(t *testing.T) {
	bad := told([]byte("ab"))
	bad[len(bad)-1] ^= 1
	for _, c := range []struct {
		b    []byte
		want api.Errno
	}{
		{[]byte{72}, api.ErrForm},                                               // the mark; and the end
		{[]byte{71, 99}, api.ErrForm},                                           // the mark; and the end
		{[]byte{72, 98, 2}, api.ErrForm},                                        // the mark; and the version
		{[]byte{71, 98}, api.ErrEnd},                                            // the end ahead of the version
		{[]byte{71, 98, 2}, api.ErrKind},                                        // the version; and the end
		{[]byte{71, 98, 2, 128, 0}, api.ErrKind},                                // the version; and the number
		{[]byte{71, 98, 2, 129, 16}, api.ErrKind},                               // the version; and too many
		{[]byte{71, 98, 1, 129, 144, 0}, api.ErrForm},                           // the number; and too many
		{[]byte{71, 98, 1, 129, 144}, api.ErrEnd},                               // the number; and too many
		{[]byte{71, 98, 1, 129, 16}, api.ErrMany},                               // too many; and the end
		{bad[:len(bad)-1], api.ErrEnd},                                          // the end; and the sum
		{join([]byte{71, 98, 1, 3}, []byte("ab")), api.ErrEnd},                  // the end within the load
		{join([]byte{71, 98, 1, 2}, []byte("ab")), api.ErrEnd},                  // the end ahead of the sum
		{join([]byte{71, 98, 1, 2}, []byte("abcde")), api.ErrEnd},               // the end within the sum
		{bad, api.ErrSum},                                                       // the sum
		{join(bad, []byte{0}), api.ErrSum},                                      // the sum; and bytes behind
		{sealed(join([]byte{71, 98, 1, 130, 0}, []byte("ab"))...), api.ErrForm}, // another text of the number, with a sum that fits
	} {
		expectParse(t, c.b, c.want)
	}
}

// P4.3: One takes a frame alone.
func TestOne(t *testing.T) {
	for _, load := range loads() {
		b := told(load)
		if got, err := One(b); !bytes.Equal(got, load) || err != api.OK {
			t.Fatalf("One(%v): %v %v", b, got, err)
		}
		for _, behind := range [][]byte{{0}, {71}, {255, 255}, b, told(nil), some(5, 2048)} {
			if got, err := One(join(b, behind)); got != nil || err != api.ErrForm {
				t.Fatalf("One(%v): %v %v", join(b, behind), got, err)
			}
		}
	}
}

// expectAll is a check of what All of b answers.
func expectAll(t *testing.T, b []byte, loads [][]byte, size int, want api.Errno) {
	t.Helper()
	got, n, err := All(b)
	if !slices.EqualFunc(got, loads, bytes.Equal) || n != size || err != want {
		t.Fatalf("All(%v): %v %d %v, not %v %d %v", b, got, n, err, loads, size, want)
	}
}

// P4.3: no bytes have no frames, and no error.
func TestAllOfNoBytes(t *testing.T) {
	for _, b := range [][]byte{nil, {}} {
		expectAll(t, b, nil, 0, api.OK)
	}
}

// P4.3: frames up to the end.
func TestAllToEnd(t *testing.T) {
	var b []byte
	all := loads()
	for i, load := range all {
		b = append(b, told(load)...)
		expectAll(t, b, all[:i+1], len(b), api.OK)
	}
	none := bytes.Repeat(told(nil), 500)
	expectAll(t, none, make([][]byte, 500), 4000, api.OK)
}

// P4.3: frames up to each error, behind none, one and some of them, with whole frames behind it.
func TestAllToError(t *testing.T) {
	bad := told([]byte("ab"))
	bad[4]++
	whole := told([]byte("whole"))
	ends := []struct {
		b    []byte
		want api.Errno
	}{
		{[]byte{0}, api.ErrForm},
		{[]byte{71, 71}, api.ErrForm},
		{join([]byte{71, 99}, whole), api.ErrForm},
		{[]byte{71}, api.ErrEnd},
		{[]byte{71, 98}, api.ErrEnd},
		{[]byte{71, 98, 1}, api.ErrEnd},
		{whole[:len(whole)-1], api.ErrEnd},
		{join([]byte{71, 98, 0}, whole), api.ErrKind},
		{join([]byte{71, 98, 1, 128, 0}, whole), api.ErrForm},
		{join([]byte{71, 98, 1, 129, 16}, whole), api.ErrMany},
		{bad, api.ErrSum},
		{join(bad, whole), api.ErrSum},
	}
	for _, ahead := range [][][]byte{nil, {nil}, {[]byte("ab")}, {[]byte("ab"), nil, some(9, 2048), []byte("c")}} {
		var b []byte
		for _, load := range ahead {
			b = append(b, told(load)...)
		}
		for _, end := range ends {
			expectAll(t, join(b, end.b), ahead, len(b), end.want)
		}
	}
}

// P4.3: each cut of frames that follow one another tells the whole ones.
func TestAllCut(t *testing.T) {
	all := [][]byte{[]byte("ab"), nil, some(4, 130), []byte("c")}
	var b []byte
	var seams []int
	for _, load := range all {
		b = append(b, told(load)...)
		seams = append(seams, len(b))
	}
	for n := range len(b) + 1 {
		whole, size := 0, 0
		for whole < len(seams) && seams[whole] <= n {
			size = seams[whole]
			whole++
		}
		want := api.ErrEnd
		if size == n {
			want = api.OK
		}
		expectAll(t, b[:n:n], all[:whole], size, want)
	}
}

// P4.4: what is laid is parsed, by all three, for a load of each length.
func TestLaidIsParsed(t *testing.T) {
	for size := range api.MaxPayload + 1 {
		load := some(uint64(size), size)
		b := laid(t, load)
		behind := some(uint64(size)+9999, size%5)
		if got, n, err := Parse(join(b, behind)); !bytes.Equal(got, load) || n != len(b) || err != api.OK {
			t.Fatal(size, n, err)
		}
		if got, err := One(b); !bytes.Equal(got, load) || err != api.OK {
			t.Fatal(size, err)
		}
		expectAll(t, b, [][]byte{load}, len(b), api.OK)
	}
}

// P4.5: whatever is parsed is laid as the same bytes: each byte of frames turned to each other one, with a sum that fits.
func TestParsedIsLaid(t *testing.T) {
	parsed := 0
	check := func(b []byte) {
		load, size, err := Parse(b)
		if err != api.OK {
			return
		}
		parsed++
		if c, e := Lay(load); e != api.OK || !bytes.Equal(c, b[:size]) {
			t.Fatalf("%v was parsed as %v, and laid as %v %v", b, load, c, e)
		}
	}
	for _, load := range [][]byte{nil, []byte("ab"), some(1, 127), some(2, 128), some(3, 300)} {
		body := told(load)
		body = body[:len(body)-4]
		for i := range min(len(body), 8) {
			for c := range 256 {
				turned := slices.Clone(body)
				turned[i] = byte(c)
				check(sealed(turned...))
				check(join(sealed(turned...), []byte("more")))
			}
		}
	}
	// The numbers of each text of up to three bytes, with loads of the length that a looser reading would find.
	for n := range 300 {
		for _, number := range [][]byte{{byte(n) | 128, byte(n >> 7)}, {byte(n) | 128, byte(n>>7) | 128, 0}, {byte(n) | 128, byte(n>>7) | 128, 128, 0}} {
			check(sealed(join([]byte{71, 98, 1}, number, some(6, n))...))
		}
	}
	if parsed < 1000 {
		t.Fatal("too few were parsed to tell:", parsed)
	}
}

// P4.6: every burst of one or two bits, and drawn ones, from the eighth byte on.
func TestBurstIsNeverParsed(t *testing.T) {
	for _, load := range [][]byte{nil, []byte("a"), []byte("ab"), []byte("abcd"), some(1, 20), some(2, 128), some(3, 200)} {
		b := told(load)
		for at := 7 * 8; at < 8*len(b); at++ {
			for i := range 32 {
				mask := uint32(1) | 1<<i
				expectBurst(t, b, at, mask)
				expectBurst(t, b, at, uint32(draw(uint64(at*32+i)))|1)
				expectBurst(t, b, at, math.MaxUint32<<i>>i)
			}
		}
	}
}

// expectBurst is a check that a burst, whose bit 0 is one of b's, keeps the frame from being parsed.
func expectBurst(t *testing.T, b []byte, at int, mask uint32) {
	t.Helper()
	turned := crc.Burst(b, at, mask)
	if bytes.Equal(turned, b) {
		t.Fatal("nothing was turned at", at, mask)
	}
	if load, size, err := Parse(turned); load != nil || size != 0 || err != api.ErrSum {
		t.Fatalf("%v, turned at %d by %X: %v %d %v", b, at, mask, load, size, err)
	}
	if load, err := One(turned); load != nil || err != api.ErrSum {
		t.Fatal(at, mask, load, err)
	}
	if loads, size, err := All(turned); loads != nil || size != 0 || err != api.ErrSum {
		t.Fatal(at, mask, loads, size, err)
	}
}

// P4.6: the same of the longest frame, at its seams and at drawn places.
func TestBurstOfLongest(t *testing.T) {
	b := told(some(8, 2048))
	for i := range 300 {
		at := 56 + int(draw(uint64(i))%uint64(8*len(b)-56))
		expectBurst(t, b, at, uint32(draw(uint64(i)+5000))|1)
	}
	for at := 8*len(b) - 70; at < 8*len(b); at++ {
		expectBurst(t, b, at, math.MaxUint32)
		expectBurst(t, b, at, 1)
	}
}

// R4: what is answered is apart from what was handed in, and nothing is written into that, nor behind its end.
func TestListsApart(t *testing.T) {
	room := append(told([]byte("ab")), "behind"...)
	before := slices.Clone(room)
	handed := room[:10]
	load, _, _ := Parse(handed)
	one, _ := One(handed)
	loads, _, _ := All(handed)
	b, _ := Lay(handed)
	if _, _, err := All(room); err != api.ErrForm || !bytes.Equal(room, before) {
		t.Fatal("written into what was handed in")
	}
	for _, answer := range [][]byte{load, one, loads[0], b} {
		clear(answer)
		_ = append(answer, 9, 9, 9, 9)
		_ = append(answer[:0], 8, 8)
	}
	if !bytes.Equal(room, before) {
		t.Fatal("an answer shares with what was handed in")
	}
	clear(room)
	again, _ := Lay(before[:10])
	if other, _, err := Parse(before); string(other) != "ab" || err != api.OK || !bytes.Equal(again, told(before[:10])) {
		t.Fatal("something was kept")
	}
}

// R4: no two loads of one answer share.
func TestLoadsApart(t *testing.T) {
	loads, _, _ := All(join(told([]byte("ab")), told([]byte("cd")), told([]byte("ef"))))
	for i := range loads {
		_ = append(loads[i], "xxxxxxxxxxxx"...)
	}
	loads[0][0], loads[1][1] = 'x', 'y'
	if string(loads[0]) != "xb" || string(loads[1]) != "cy" || string(loads[2]) != "ef" {
		t.Fatalf("%q", loads)
	}
}

// R3, R6: the same bytes are answered the same, in nil lists and empty ones, and with room behind their end.
func TestSameAnswers(t *testing.T) {
	room := append(told([]byte("ab")), told([]byte("cd"))...)
	for n := range len(room) + 1 {
		a, i, e := Parse(room[:n])
		b, j, f := Parse(slices.Clone(room[:n:n]))
		if !bytes.Equal(a, b) || i != j || e != f {
			t.Fatal(n, a, b, i, j, e, f)
		}
	}
	if !bytes.Equal(laid(t, nil), laid(t, []byte{})) {
		t.Fatal("no bytes are laid in two ways")
	}
}

package msg

import (
	"bytes"
	"encoding/binary"
	"hash/crc32"
	"math"
	"reflect"
	"slices"
	"testing"

	"garboard/api"
)

// draw is some number that hangs on n alone.
func draw(n uint64) uint64 {
	n = (n + 1) * 0x9e3779b97f4a7c15
	n = (n ^ n>>30) * 0xbf58476d1ce4e5b9
	return n ^ n>>27
}

// chapter is which fields count for each kind, in order, as the chapter's table tells them.
var chapter = map[int][]string{
	1:  {"Stream", "Session", "Job"},
	2:  {"Stream", "N"},
	3:  {"Stream"},
	4:  {"Stream", "N", "List"},
	5:  {"Stream", "N", "Why"},
	6:  {"Attempt", "Inc", "N", "Job"},
	7:  {"Attempt", "Inc"},
	8:  {"Attempt", "Inc", "N", "List"},
	9:  {"Attempt", "Inc", "N", "Why"},
	10: {"N"},
	11: {"N", "Inc", "Count"},
	12: {"Inc"},
}

// fieldNames are all fields but the kind.
var fieldNames = []string{"Stream", "Session", "Attempt", "Inc", "N", "Count", "Why", "Job", "List"}

// with is m with a field set to some value that is not 0.
func with(m Msg, field string, seed uint64) Msg {
	n := 1 + draw(seed)%math.MaxInt64
	switch field {
	case "Why":
		m.Why = int(1 + n%255)
	case "Job":
		m.Job = api.Job{Seed: n, Most: int(1 + n%256), Prompt: someTokens(seed, int(1+n%9))}
	case "List":
		m.List = someTokens(seed, int(1+n%9))
	default:
		reflect.ValueOf(&m).Elem().FieldByName(field).SetUint(n >> (n % 60))
		if reflect.ValueOf(m).FieldByName(field).Uint() == 0 {
			reflect.ValueOf(&m).Elem().FieldByName(field).SetUint(1)
		}
	}
	return m
}

// someTokens are so many tokens that hang on seed alone.
func someTokens(seed uint64, count int) []int {
	tokens := make([]int, count)
	for i := range tokens {
		tokens[i] = int(draw(seed<<20+uint64(i)) % 64)
	}
	return tokens
}

// someMsg is a message of a kind that may be, with all fields that count set.
func someMsg(kind int, seed uint64) Msg {
	m := Msg{Kind: kind}
	for i, field := range chapter[kind] {
		m = with(m, field, seed*16+uint64(i))
	}
	return m
}

// numbers is a load of these numbers, written by the library.
func numbers(nums ...uint64) []byte {
	var b []byte
	for _, n := range nums {
		b = binary.AppendUvarint(b, n)
	}
	return b
}

// ofTokens are how many there are, and these.
func ofTokens(tokens []int) []uint64 {
	nums := []uint64{uint64(len(tokens))}
	for _, x := range tokens {
		nums = append(nums, uint64(x))
	}
	return nums
}

// told are the numbers of a message's load, as the chapter tells them.
func told(m Msg) []uint64 {
	nums := []uint64{uint64(m.Kind)}
	for _, field := range chapter[m.Kind] {
		switch field {
		case "Why":
			nums = append(nums, uint64(m.Why))
		case "Job":
			nums = append(nums, m.Job.Seed, uint64(m.Job.Most))
			nums = append(nums, ofTokens(m.Job.Prompt)...)
		case "List":
			nums = append(nums, ofTokens(m.List)...)
		default:
			nums = append(nums, reflect.ValueOf(m).FieldByName(field).Uint())
		}
	}
	return nums
}

// framed is the frame of a load, as layer 4's chapter tells it.
func framed(load []byte) []byte {
	b := binary.AppendUvarint([]byte{71, 98, 1}, uint64(len(load)))
	b = append(b, load...)
	return binary.LittleEndian.AppendUint32(b, crc32.ChecksumIEEE(b))
}

// like tells whether two messages have the same in all fields; lists of no tokens are the same.
func like(a, b Msg) bool {
	for _, m := range []*Msg{&a, &b} {
		if len(m.List) == 0 {
			m.List = nil
		}
		if len(m.Job.Prompt) == 0 {
			m.Job.Prompt = nil
		}
	}
	return reflect.DeepEqual(a, b)
}

// hasTokens tells whether a kind has tokens, of a Prompt or a List.
func hasTokens(kind int) bool {
	return slices.Contains(chapter[kind], "Job") || slices.Contains(chapter[kind], "List")
}

// withTokens is m with these as its Prompt or its List, whichever counts.
func withTokens(m Msg, tokens []int) Msg {
	if slices.Contains(chapter[m.Kind], "Job") {
		m.Job.Prompt = tokens
	} else {
		m.List = tokens
	}
	return m
}

// goodMsgs are messages that may be, of each kind: bare ones, ordinary ones and those at the edges.
func goodMsgs() []Msg {
	var all []Msg
	for kind := 1; kind <= 12; kind++ {
		all = append(all, Msg{Kind: kind})
		for seed := uint64(0); seed < 12; seed++ {
			all = append(all, someMsg(kind, seed+100*uint64(kind)))
		}
		for _, field := range chapter[kind] {
			switch field {
			case "Why":
				for _, why := range []int{0, 1, 127, 128, 254, 255} {
					m := someMsg(kind, 1)
					m.Why = why
					all = append(all, m)
				}
			case "Job":
				for _, most := range []int{0, 1, 127, 128, 255, api.MaxTokens} {
					m := someMsg(kind, 2)
					m.Job.Most = most
					all = append(all, m)
				}
			case "List":
			default:
				for _, n := range []uint64{0, 127, 128, 1<<32 - 1, 1 << 63, math.MaxUint64} {
					m := someMsg(kind, 3)
					reflect.ValueOf(&m).Elem().FieldByName(field).SetUint(n)
					all = append(all, m)
				}
			}
		}
		if hasTokens(kind) {
			for _, tokens := range [][]int{nil, {}, {0}, {63}, {0, 63, 0}, someTokens(4, 127), someTokens(5, 128), someTokens(6, 255), someTokens(7, api.MaxTokens)} {
				all = append(all, withTokens(someMsg(kind, 8), tokens))
			}
		}
	}
	return append(all, longest())
}

// longest is a message whose load has more bytes than that of any other.
func longest() Msg {
	const n = math.MaxUint64
	return Msg{Kind: 6, Attempt: n, Inc: n, N: n, Job: api.Job{Seed: n, Most: 256, Prompt: someTokens(9, 256)}}
}

// badMsgs are messages that may not be, each for one reason.
func badMsgs() []Msg {
	var all []Msg
	for _, kind := range []int{0, -1, 13, 14, 255, 257, math.MinInt, math.MaxInt} {
		all = append(all, Msg{Kind: kind}, Msg{Kind: kind, Stream: 5}, Msg{Kind: kind, N: 1, Inc: 2})
	}
	for kind := 1; kind <= 12; kind++ {
		for i, field := range fieldNames {
			if !slices.Contains(chapter[kind], field) {
				all = append(all, with(Msg{Kind: kind}, field, uint64(i)), with(someMsg(kind, 1), field, uint64(i)))
				all = append(all, leastOther(kind, field)...)
			}
		}
		all = append(all, badFields(kind)...)
	}
	return all
}

// leastOther are messages of a kind with as little as may be in a field that does not count for it.
func leastOther(kind int, field string) []Msg {
	base := someMsg(kind, 2)
	var all []Msg
	add := func(change func(*Msg)) {
		m := base
		change(&m)
		all = append(all, m)
	}
	switch field {
	case "Why":
		for _, why := range []int{1, -1, 255, 256} {
			add(func(m *Msg) { m.Why = why })
		}
	case "Job":
		add(func(m *Msg) { m.Job.Seed = 1 })
		add(func(m *Msg) { m.Job.Most = 1 })
		add(func(m *Msg) { m.Job.Most = -1 })
		add(func(m *Msg) { m.Job.Prompt = []int{0} })
	case "List":
		add(func(m *Msg) { m.List = []int{0} })
	default:
		add(func(m *Msg) { reflect.ValueOf(m).Elem().FieldByName(field).SetUint(1) })
		add(func(m *Msg) { reflect.ValueOf(m).Elem().FieldByName(field).SetUint(1 << 63) })
	}
	return all
}

// badFields are messages of a kind with something in a field that counts that may not stand there.
func badFields(kind int) []Msg {
	var all []Msg
	if slices.Contains(chapter[kind], "Why") {
		for _, why := range []int{-1, 256, 257, math.MinInt, math.MaxInt} {
			m := someMsg(kind, 3)
			m.Why = why
			all = append(all, m)
		}
	}
	if slices.Contains(chapter[kind], "Job") {
		for _, most := range []int{-1, api.MaxTokens + 1, math.MinInt, math.MaxInt} {
			m := someMsg(kind, 4)
			m.Job.Most = most
			all = append(all, m)
		}
	}
	if hasTokens(kind) {
		lists := [][]int{{-1}, {64}, {math.MinInt}, {math.MaxInt}, {1, 2, -1}, {64, 1, 2}, {1, -1, 2}, someTokens(5, api.MaxTokens+1), make([]int, 3000)}
		lists = append(lists, append(someTokens(6, api.MaxTokens-1), 64), append(someTokens(6, api.MaxTokens-1), -1))
		for _, tokens := range lists {
			all = append(all, withTokens(someMsg(kind, 5), tokens))
		}
	}
	return all
}

// expectRead is a check that Read of a load, and Parse of its frame, answer just an error.
func expectRead(t *testing.T, load []byte, want api.Errno) {
	t.Helper()
	if m, err := Read(load); !reflect.DeepEqual(m, Msg{}) || err != want {
		t.Fatalf("Read(%v): %+v %v, not %v", load, m, err, want)
	}
	if len(load) > api.MaxPayload {
		want = api.ErrMany
	}
	expectParse(t, framed(load), want)
}

// expectParse is a check that Parse answers just an error.
func expectParse(t *testing.T, b []byte, want api.Errno) {
	t.Helper()
	if m, err := Parse(b); !reflect.DeepEqual(m, Msg{}) || err != want {
		t.Fatalf("Parse(%v): %+v %v, not %v", b, m, err, want)
	}
}

// The chapter's kinds, by their numbers.
func TestKinds(t *testing.T) {
	kinds := []int{Ask, Got, Stop, Tokens, End, Start, Quit, Emit, Over, Probe, Pong, Drain}
	if !slices.Equal(kinds, []int{1, 2, 3, 4, 5, 6, 7, 8, 9, 10, 11, 12}) {
		t.Fatal(kinds)
	}
}

// P5.1: the chapter's example.
func TestStopOfStream5(t *testing.T) {
	m := Msg{Kind: Stop, Stream: 5}
	if b, err := Load(m); !bytes.Equal(b, []byte{3, 5}) || err != api.OK {
		t.Fatal(b, err)
	}
	if r, err := Read([]byte{3, 5}); !reflect.DeepEqual(r, m) || err != api.OK {
		t.Fatal(r, err)
	}
}

// P5.1: loads, written out.
func TestLoadsWrittenOut(t *testing.T) {
	job := api.Job{Seed: 300, Most: 256, Prompt: []int{0, 63, 1}}
	for _, c := range []struct {
		m    Msg
		load []byte
	}{
		{Msg{Kind: Ask, Stream: 5, Session: 6, Job: job}, []byte{1, 5, 6, 172, 2, 128, 2, 3, 0, 63, 1}},
		{Msg{Kind: Ask}, []byte{1, 0, 0, 0, 0, 0}},
		{Msg{Kind: Got, Stream: 5, N: 7}, []byte{2, 5, 7}},
		{Msg{Kind: Tokens, Stream: 5, N: 7, List: []int{9, 0}}, []byte{4, 5, 7, 2, 9, 0}},
		{Msg{Kind: Tokens, Stream: 5, N: 7}, []byte{4, 5, 7, 0}},
		{Msg{Kind: End, Stream: 5, N: 7, Why: 255}, []byte{5, 5, 7, 255, 1}},
		{Msg{Kind: Start, Attempt: 1, Inc: 2, N: 3, Job: job}, []byte{6, 1, 2, 3, 172, 2, 128, 2, 3, 0, 63, 1}},
		{Msg{Kind: Quit, Attempt: 1, Inc: 2}, []byte{7, 1, 2}},
		{Msg{Kind: Emit, Attempt: 1, Inc: 2, N: 3, List: []int{4}}, []byte{8, 1, 2, 3, 1, 4}},
		{Msg{Kind: Over, Attempt: 1, Inc: 2, N: 3, Why: 4}, []byte{9, 1, 2, 3, 4}},
		{Msg{Kind: Probe, N: 128}, []byte{10, 128, 1}},
		{Msg{Kind: Pong, N: 1, Inc: 2, Count: 3}, []byte{11, 1, 2, 3}},
		{Msg{Kind: Drain, Inc: 9}, []byte{12, 9}},
	} {
		if b, err := Load(c.m); !bytes.Equal(b, c.load) || err != api.OK {
			t.Fatalf("Load(%+v): %v %v, not %v", c.m, b, err, c.load)
		}
		if m, err := Read(c.load); !like(m, c.m) || err != api.OK {
			t.Fatalf("Read(%v): %+v %v, not %+v", c.load, m, err, c.m)
		}
	}
}

// P5.1: what may be, and its load.
func TestWhatMayBe(t *testing.T) {
	for _, m := range goodMsgs() {
		if !May(m) {
			t.Fatalf("may not be: %+v", m)
		}
		if b, err := Load(m); !bytes.Equal(b, numbers(told(m)...)) || err != api.OK {
			t.Fatalf("Load(%+v): %v %v", m, b, err)
		}
	}
}

// P5.1, P5.3: what may not be is neither loaded nor laid.
func TestWhatMayNotBe(t *testing.T) {
	for _, m := range badMsgs() {
		if May(m) {
			t.Fatalf("may be: %+v", m)
		}
		if b, err := Load(m); b != nil || err != api.ErrArg {
			t.Fatalf("Load(%+v): %v %v", m, b, err)
		}
		if b, err := Lay(m); b != nil || err != api.ErrArg {
			t.Fatalf("Lay(%+v): %v %v", m, b, err)
		}
	}
}

// P5.1: lists that are empty are none, where a list counts and where not (R6).
func TestEmptyLists(t *testing.T) {
	for kind := 1; kind <= 12; kind++ {
		bare, empty := Msg{Kind: kind}, Msg{Kind: kind, List: []int{}, Job: api.Job{Prompt: []int{}}}
		if !May(bare) || !May(empty) || !Same(bare, empty) || !Same(empty, bare) {
			t.Fatal(kind)
		}
		a, _ := Load(bare)
		b, _ := Load(empty)
		if len(a) == 0 || !bytes.Equal(a, b) {
			t.Fatal(kind, a, b)
		}
	}
}

// changes are messages that are unlike m, in one field alone.
func changes(m Msg) []Msg {
	var all []Msg
	add := func(change func(*Msg)) {
		c := m
		c.List, c.Job.Prompt = slices.Clone(m.List), slices.Clone(m.Job.Prompt)
		change(&c)
		all = append(all, c)
	}
	add(func(c *Msg) { c.Kind++ })
	add(func(c *Msg) { c.Kind = -c.Kind - 1 })
	for _, field := range []string{"Stream", "Session", "Attempt", "Inc", "N", "Count"} {
		for _, bit := range []int{0, 7, 31, 63} {
			add(func(c *Msg) {
				v := reflect.ValueOf(c).Elem().FieldByName(field)
				v.SetUint(v.Uint() ^ 1<<bit)
			})
		}
	}
	add(func(c *Msg) { c.Why++ })
	add(func(c *Msg) { c.Why = -c.Why - 1 })
	add(func(c *Msg) { c.Job.Seed ^= 1 })
	add(func(c *Msg) { c.Job.Seed ^= 1 << 63 })
	add(func(c *Msg) { c.Job.Most++ })
	add(func(c *Msg) { c.Job.Prompt = append(c.Job.Prompt, 0) })
	add(func(c *Msg) { c.List = append(c.List, 0) })
	for i := range m.List {
		add(func(c *Msg) { c.List[i] ^= 1 })
	}
	for i := range m.Job.Prompt {
		add(func(c *Msg) { c.Job.Prompt[i] ^= 1 })
	}
	if n := len(m.List); n > 0 {
		add(func(c *Msg) { c.List = c.List[:n-1] })
		add(func(c *Msg) { c.List = nil })
	}
	if n := len(m.Job.Prompt); n > 0 {
		add(func(c *Msg) { c.Job.Prompt = c.Job.Prompt[:n-1] })
		add(func(c *Msg) { c.Job.Prompt = nil })
	}
	return all
}

// P5.1, P5.6: messages that are unlike in one field alone are not the same, whether they may be or not, and have unlike loads.
func TestUnlikeInOneField(t *testing.T) {
	full := Msg{Kind: 4, Stream: 1, Session: 2, Attempt: 3, Inc: 4, N: 5, Count: 6, Why: 7, Job: api.Job{Seed: 8, Most: 9, Prompt: []int{10, 11}}, List: []int{12, 13}}
	for _, m := range append(goodMsgs(), full, Msg{}, Msg{Kind: -1, Why: math.MinInt, List: []int{-1, math.MaxInt}}) {
		twin := m
		twin.List, twin.Job.Prompt = slices.Clone(m.List), slices.Clone(m.Job.Prompt)
		if !Same(m, twin) || !Same(m, m) {
			t.Fatalf("not the same: %+v", m)
		}
		own, err := Load(m)
		for _, c := range changes(m) {
			if Same(m, c) || Same(c, m) {
				t.Fatalf("the same: %+v and %+v", m, c)
			}
			other, otherErr := Load(c)
			if err == api.OK && otherErr == api.OK && bytes.Equal(own, other) {
				t.Fatalf("one load: %+v and %+v", m, c)
			}
		}
	}
}

// P5.6: of any two messages that may be, the loads are the same just if the messages are; so are the bytes.
func TestUnlikeLoads(t *testing.T) {
	loads, frames := map[string]Msg{}, map[string]Msg{}
	check := func(seen map[string]Msg, m Msg, b []byte) {
		if other, ok := seen[string(b)]; ok && !like(m, other) {
			t.Fatalf("the same bytes: %+v and %+v", m, other)
		}
		seen[string(b)] = m
	}
	all := goodMsgs()
	// Short ones, so that many have the same numbers at other places.
	for n := uint64(0); n < 4*4*4*4; n++ {
		a, b, c, d := n%4, n/4%4, n/16%4, n/64
		list := make([]int, d)
		all = append(all, Msg{Kind: 1, Stream: a, Session: b, Job: api.Job{Seed: c, Most: int(d)}},
			Msg{Kind: 1, Stream: a, Session: b, Job: api.Job{Prompt: list, Most: int(c)}},
			Msg{Kind: 2, Stream: a, N: b}, Msg{Kind: 3, Stream: a}, Msg{Kind: 4, Stream: a, N: b, List: list},
			Msg{Kind: 5, Stream: a, N: b, Why: int(c)}, Msg{Kind: 6, Attempt: a, Inc: b, N: c, Job: api.Job{Seed: d}},
			Msg{Kind: 7, Attempt: a, Inc: b}, Msg{Kind: 8, Attempt: a, Inc: b, N: c, List: list},
			Msg{Kind: 9, Attempt: a, Inc: b, N: c, Why: int(d)}, Msg{Kind: 10, N: a}, Msg{Kind: 11, N: a, Inc: b, Count: c}, Msg{Kind: 12, Inc: a})
	}
	for _, m := range all {
		load, err := Load(m)
		if err != api.OK {
			t.Fatalf("Load(%+v): %v", m, err)
		}
		check(loads, m, load)
		laid, err := Lay(m)
		if err != api.OK {
			t.Fatalf("Lay(%+v): %v", m, err)
		}
		check(frames, m, laid)
	}
}

// P5.3, P5.4: a message's bytes are the frame of its load, and are parsed.
func TestLaidIsParsed(t *testing.T) {
	for _, m := range goodMsgs() {
		b, err := Lay(m)
		if err != api.OK || !bytes.Equal(b, framed(numbers(told(m)...))) {
			t.Fatalf("Lay(%+v): %v %v", m, b, err)
		}
		if p, err := Parse(b); err != api.OK || !like(p, m) || !Same(p, m) {
			t.Fatalf("Parse: %+v %v, not %+v", p, err, m)
		}
		load, _ := Load(m)
		if r, err := Read(load); err != api.OK || !like(r, m) {
			t.Fatalf("Read: %+v %v, not %+v", r, err, m)
		}
	}
}

// P5.5: what is read may be, and its load is the same: of loads, of loads with a byte turned, and of any bytes.
func TestReadMayBe(t *testing.T) {
	read := 0
	check := func(load []byte) {
		m, err := Read(load)
		if err != api.OK {
			if !reflect.DeepEqual(m, Msg{}) {
				t.Fatalf("Read(%v): %+v beside %v", load, m, err)
			}
			return
		}
		read++
		if !May(m) {
			t.Fatalf("Read(%v): %+v may not be", load, m)
		}
		if b, err := Load(m); err != api.OK || !bytes.Equal(b, load) {
			t.Fatalf("Read(%v): %+v, whose load is %v %v", load, m, b, err)
		}
	}
	for _, m := range goodMsgs() {
		load := numbers(told(m)...)
		check(load)
		for i := 0; i < min(len(load), 24); i++ {
			for _, c := range []byte{0, 1, 12, 13, 63, 64, 127, 128, 129, 255} {
				turned := slices.Clone(load)
				turned[i] = c
				check(turned)
			}
		}
	}
	for n := uint64(0); n < 20000; n++ {
		load := make([]byte, n%12)
		for i := range load {
			load[i] = byte(draw(n<<8+uint64(i)) % 16)
			if draw(n<<8+uint64(i))>>60 == 0 {
				load[i] += 128
			}
		}
		check(load)
	}
	if read < 2000 {
		t.Fatal("too few loads were read:", read)
	}
}

// P5.2: a load that ends, within or ahead of each of its numbers.
func TestLoadEnds(t *testing.T) {
	expectRead(t, nil, api.ErrEnd)
	expectRead(t, []byte{}, api.ErrEnd)
	expectRead(t, []byte{128}, api.ErrEnd)
	for kind := 1; kind <= 12; kind++ {
		for _, m := range []Msg{someMsg(kind, 7), {Kind: kind}} {
			load := numbers(told(m)...)
			for cut := range load {
				expectRead(t, load[:cut], api.ErrEnd)
			}
		}
	}
	load := numbers(told(longest())...)
	for cut := range load {
		expectRead(t, load[:cut], api.ErrEnd)
	}
}

// P5.2: each error of layer 2, at each number of a load.
func TestWrongNumbers(t *testing.T) {
	tooLong := []byte{255, 255, 255, 255, 255, 255, 255, 255, 255, 2}
	for kind := 1; kind <= 12; kind++ {
		nums := told(someMsg(kind, 9))
		for i := range nums {
			head := numbers(nums[:i]...)
			for _, tail := range [][]byte{nil, {5}, numbers(nums[i+1:]...)} {
				expectRead(t, slices.Concat(head, []byte{129, 0}, tail), api.ErrForm)
				expectRead(t, slices.Concat(head, []byte{128, 128, 0}, tail), api.ErrForm)
				expectRead(t, slices.Concat(head, tooLong, tail), api.ErrForm)
				expectRead(t, slices.Concat(head, bytes.Repeat([]byte{128}, 10), tail), api.ErrForm)
			}
			expectRead(t, slices.Concat(head, []byte{129}), api.ErrEnd)
			expectRead(t, slices.Concat(head, bytes.Repeat([]byte{255}, 9)), api.ErrEnd)
		}
	}
}

// P5.2: a kind that is none, whatever follows.
func TestNoKind(t *testing.T) {
	for _, kind := range []uint64{0, 13, 14, 127, 128, 255, 256, 257, 1<<32 + 1, 1<<63 - 1, 1 << 63, 1<<63 + 3, math.MaxUint64} {
		for _, tail := range [][]byte{nil, {5}, {128}, {129, 0}, {1, 1, 1, 1, 1}, make([]byte, 3000)} {
			expectRead(t, append(numbers(kind), tail...), api.ErrKind)
		}
	}
}

// P5.2: a number that may not be, at each place where one may stand, ahead of whatever is wrong behind it.
func TestNumberThatMayNotBe(t *testing.T) {
	tails := [][]byte{nil, {0}, {1, 1, 1}, {128}, {129, 0}, {64}, make([]byte, 300)}
	try := func(head []byte, above uint64) {
		for _, n := range []uint64{above, above + 1, 1 << 31, 1 << 32, 1<<32 + 1, 1<<63 - 1, 1 << 63, 1<<63 + 1, math.MaxUint64} {
			for _, tail := range tails {
				expectRead(t, slices.Concat(head, numbers(n), tail), api.ErrArg)
			}
		}
	}
	for _, head := range [][]byte{{5, 1, 2}, {9, 1, 2, 3}} { // Why
		try(head, 256)
	}
	for _, head := range [][]byte{{1, 1, 2, 3}, {6, 1, 2, 3, 4}} { // Most
		try(head, api.MaxTokens+1)
	}
	for _, head := range [][]byte{{1, 1, 2, 3, 4}, {6, 1, 2, 3, 4, 5}, {4, 1, 2}, {8, 1, 2, 3}} { // how many, and a token
		try(head, api.MaxTokens+1)
		for _, count := range []uint64{1, 2, 5, api.MaxTokens} {
			for _, ahead := range []uint64{0, 1, count - 1} {
				if ahead < count {
					try(slices.Concat(head, numbers(count), make([]byte, ahead)), api.MaxVocab)
				}
			}
		}
	}
}

// P5.2: numbers at the edge of what may be are read.
func TestNumbersAtTheEdge(t *testing.T) {
	for _, m := range []Msg{
		{Kind: End, Why: 255}, {Kind: Over, Why: 255},
		{Kind: Ask, Job: api.Job{Most: 256, Prompt: slices.Repeat([]int{63}, 256)}},
		{Kind: Start, Job: api.Job{Most: 256, Prompt: slices.Repeat([]int{63}, 256)}},
		{Kind: Tokens, List: slices.Repeat([]int{63}, 256)},
		{Kind: Emit, List: slices.Repeat([]int{63}, 256)},
	} {
		if r, err := Read(numbers(told(m)...)); err != api.OK || !like(r, m) {
			t.Fatalf("Read: %+v %v, not %+v", r, err, m)
		}
	}
}

// P5.2: bytes behind all, whatever they are.
func TestBytesBehindAll(t *testing.T) {
	for kind := 1; kind <= 12; kind++ {
		for _, m := range []Msg{someMsg(kind, 11), {Kind: kind}} {
			load := numbers(told(m)...)
			for _, tail := range [][]byte{{0}, {1}, {128}, {129, 0}, {255}, load, make([]byte, 3000)} {
				expectRead(t, slices.Concat(load, tail), api.ErrForm)
			}
		}
	}
}

// P5.2: of two errors the one that holds first: a number's own ahead of what it tells, and what is ahead in the load.
func TestFirstError(t *testing.T) {
	for _, c := range []struct {
		load []byte
		want api.Errno
	}{
		{[]byte{141, 0}, api.ErrForm},                    // 13, in another text: no kind
		{[]byte{141}, api.ErrEnd},                        // it may become a kind that is none
		{[]byte{13, 129, 0}, api.ErrKind},                // no kind, and a wrong number
		{[]byte{5, 129, 0, 7, 128, 2}, api.ErrForm},      // a wrong number, and a Why that may not be
		{[]byte{5, 1, 7, 128, 2, 9}, api.ErrArg},         // that Why, and a byte behind all
		{[]byte{5, 1, 7, 128, 130, 0}, api.ErrForm},      // a Why in another text, above 255
		{[]byte{5, 1, 7, 128}, api.ErrEnd},               // a Why that may become one that may not be
		{[]byte{1, 1, 2, 3, 129, 2, 129, 2}, api.ErrArg}, // Most, and how many
		{[]byte{1, 1, 2, 3, 129, 2}, api.ErrArg},         // Most, and the end
		{[]byte{1, 1, 2, 3, 4, 129, 2}, api.ErrArg},      // how many, and the end
		{[]byte{1, 1, 2, 3, 4, 129, 2, 64}, api.ErrArg},  // how many, and a token
		{[]byte{4, 1, 2, 2, 64}, api.ErrArg},             // a token, and the end
		{[]byte{4, 1, 2, 2, 1}, api.ErrEnd},              // the end, behind a token
		{[]byte{4, 1, 2, 2, 129, 0, 64}, api.ErrForm},    // a wrong number, and a token
		{[]byte{4, 1, 2, 2, 64, 129, 0}, api.ErrArg},     // a token, and a wrong number
		{[]byte{4, 1, 2, 1, 64, 9}, api.ErrArg},          // a token, and a byte behind all
		{[]byte{3, 5, 0}, api.ErrForm},                   // a byte behind all
	} {
		expectRead(t, c.load, c.want)
	}
}

// P5.3: no message has a load that is too long for a frame, but bytes may tell of one.
func TestTooLongForAFrame(t *testing.T) {
	b, err := Lay(longest())
	if err != api.OK || len(b) > api.MaxPayload {
		t.Fatal(len(b), err)
	}
	load := append([]byte{3, 5}, make([]byte, api.MaxPayload)...)
	if m, err := Read(load); !reflect.DeepEqual(m, Msg{}) || err != api.ErrForm {
		t.Fatal(m, err)
	}
	expectParse(t, framed(load), api.ErrMany)
	expectParse(t, framed(load[:api.MaxPayload]), api.ErrForm)
	expectParse(t, framed(load[:api.MaxPayload+1]), api.ErrMany)
}

// P5.3: each error of layer 4, ahead of Read's.
func TestParseFrameErrors(t *testing.T) {
	good := framed([]byte{3, 5})
	turned := func(b []byte, at int) []byte {
		b = slices.Clone(b)
		b[at] ^= 4
		return b
	}
	for _, load := range [][]byte{{3, 5}, {13}, {3}, {5, 1, 2, 128, 2}, {3, 5, 9}} {
		b := framed(load)
		expectParse(t, turned(b, 0), api.ErrForm)
		expectParse(t, turned(b, 1), api.ErrForm)
		expectParse(t, turned(b, 2), api.ErrKind)
		for at := 4; at < len(b); at++ {
			expectParse(t, turned(b, at), api.ErrSum)
		}
		for cut := range b {
			expectParse(t, b[:cut], api.ErrEnd)
		}
		expectParse(t, append(slices.Clone(b), 0), api.ErrForm)
		expectParse(t, slices.Concat(b, good), api.ErrForm)
	}
	expectParse(t, nil, api.ErrEnd)
	expectParse(t, []byte{}, api.ErrEnd)
	expectParse(t, []byte{71, 98, 1, 129, 0, 3, 5, 0, 0, 0, 0}, api.ErrForm)
	expectParse(t, []byte{71, 98, 1, 129, 16}, api.ErrMany)
	expectParse(t, []byte{3, 5}, api.ErrForm)
}

// P5.3: each error of Read, by Parse.
func TestParseReadErrors(t *testing.T) {
	for _, c := range []struct {
		load []byte
		want api.Errno
	}{
		{nil, api.ErrEnd}, {[]byte{3}, api.ErrEnd}, {[]byte{3, 129, 0}, api.ErrForm},
		{[]byte{13}, api.ErrKind}, {[]byte{5, 1, 2, 128, 2}, api.ErrArg}, {[]byte{3, 5, 9}, api.ErrForm},
	} {
		expectParse(t, framed(c.load), c.want)
	}
}

// R4: no call writes into what it was handed, or keeps it, and no two answers share.
func TestListsApart(t *testing.T) {
	for kind := 1; kind <= 12; kind++ {
		m := someMsg(kind, 13)
		// Room behind the lists' ends is another's.
		m.List, m.Job.Prompt = append(m.List, 99, 99)[:len(m.List)], append(m.Job.Prompt, 99, 99)[:len(m.Job.Prompt)]
		want := someMsg(kind, 13)
		load, _ := Load(m)
		laid, _ := Lay(m)
		load = append(load, 77, 77)[:len(load)]
		r, _ := Read(load)
		p, _ := Parse(laid)
		again, _ := Read(load)
		if !like(m, want) || !bytes.Equal(load, numbers(told(want)...)) || !bytes.Equal(laid, framed(load)) || !bytes.Equal(load[:len(load)+2][len(load):], []byte{77, 77}) {
			t.Fatal("written into", kind)
		}
		for _, list := range [][]int{m.List, m.Job.Prompt} {
			if rest := list[len(list):cap(list)]; !slices.Equal(rest[:2], []int{99, 99}) {
				t.Fatal("written behind", kind, rest)
			}
		}
		clear(m.List)
		clear(m.Job.Prompt)
		clear(load)
		clear(laid)
		clear(again.List)
		clear(again.Job.Prompt)
		if !like(r, want) || !like(p, want) {
			t.Fatal("kept", kind)
		}
		fresh, _ := Load(r)
		other, _ := Load(r)
		clear(fresh)
		if !bytes.Equal(other, numbers(told(want)...)) {
			t.Fatal("shared", kind)
		}
	}
}

// May, Same and Load of messages with long lists leave these as they are.
func TestAskingChangesNothing(t *testing.T) {
	for _, m := range append(goodMsgs(), badMsgs()...) {
		before := m
		before.List, before.Job.Prompt = slices.Clone(m.List), slices.Clone(m.Job.Prompt)
		May(m)
		Same(m, Msg{})
		Load(m)
		Lay(m)
		if !reflect.DeepEqual(m, before) {
			t.Fatalf("%+v, not %+v", m, before)
		}
	}
}

package scale

import (
	"math"
	"testing"

	"garboard/api"
	"garboard/rand"
)

// setting is what a scaler is set to, how far the time goes on at most from call to call, and how many calls there are.
type setting struct {
	Setting
	ahead int64
	calls int
}

// someSettings are scalers of few and of many, with and without Slack, that wait for nothing, for a while and for as long as they may.
func someSettings() []setting {
	return []setting{
		{Setting{0, 8, 10, 0, 0, 0}, 2, 800}, {Setting{1, 8, 10, 20, 5, 9}, 3, 800}, {Setting{2, 6, 10, 20, 9, 5}, 3, 800}, {Setting{0, 8, 1, 0, 1, 1}, 1, 800},
		{Setting{0, 8, 1, 50, 2, 3}, 1, 800}, {Setting{0, 8, 100, 99, 3, 2}, 1, 800}, {Setting{1, 8, 1000, 99, 7, 1}, 2, 800}, {Setting{0, 1, 10, 10, 4, 4}, 2, 800},
		{Setting{1, 1, 10, 10, 4, 4}, 2, 800}, {Setting{8, 8, 10, 10, 4, 4}, 2, 800}, {Setting{3, 4, 7, 33, 6, 12}, 4, 800}, {Setting{0, 8, 999, 1, 20, 30}, 9, 800},
		{Setting{2, 7, 25, 4, 100, 10}, 12, 800}, {Setting{2, 7, 25, 4, 10, 100}, 12, 800}, {Setting{0, 5, 3, 75, 0, 8}, 2, 800}, {Setting{0, 5, 3, 75, 8, 0}, 2, 800},
		{Setting{1, 8, 50, 30, 1 << 30, 1 << 31}, 1 << 29, 800}, {Setting{1, 8, 50, 30, longest, 1 << 20}, 1 << 30, 600}, {Setting{0, 8, 10, 10, 0, longest}, 1 << 30, 600}, {Setting{0, 8, 10, 10, longest, longest}, 1 << 30, 600},
	}
}

// draws are what a test's calls are made of: of a fleet, which does each step that it is told, and whose load stays for a while.
type draws struct {
	*rand.Source
	setting
	live int
	load int
	left int // for how many calls the load stays
}

// newDraws are draws that hang on a label and a setting's number.
func newDraws(label, n int, s setting) *draws {
	d := &draws{Source: rand.New(rand.Derive(25, uint64(label), uint64(n))), setting: s}
	d.live = d.below(10)
	return d
}

// below is a number below another one.
func (d *draws) below(n int) int { return int(d.Next() % uint64(n)) }

// upTo is a number from 0 to another one.
func (d *draws) upTo(n int64) int64 { return int64(d.Next() % uint64(n+1)) }

// otherLoad is a load: often beside what some have room for, or what the fleet less one has room for with Slack, seldom far from all.
func (d *draws) otherLoad() int {
	near := d.below(3) - 1
	switch d.below(8) {
	case 0:
		return []int{math.MinInt, -1, 0, 1, math.MaxInt/100 + 1, 1 << 60, math.MaxInt - 1, math.MaxInt}[d.below(8)]
	case 1, 2:
		return d.below(10 * d.Per)
	case 3, 4, 5:
		return (d.live-1)*d.Per*(100-d.Slack)/100 + near
	}
	return d.below(10)*d.Per + near
}

// feel draws the load anew, if it is time.
func (d *draws) feel() {
	d.left--
	if d.left < 0 {
		d.load = d.otherLoad()
		d.left = d.below(12)
	}
}

// fleet is how many are live: those that the steps led to, but seldom other ones, which the steps go on from or not.
func (d *draws) fleet() int {
	switch d.below(24) {
	case 0:
		return []int{math.MinInt, -1, 0, d.Min - 1, d.Min, d.Max, d.Max + 1, 9, 1 << 32, math.MaxInt}[d.below(10)]
	case 1, 2:
		d.live = d.below(10)
	}
	return d.live
}

// time is a now of a scaler whose time is known: often the same one, seldom one that is none or an earlier one.
func (d *draws) time(now int64) int64 {
	switch d.below(12) {
	case 0:
		return []int64{math.MinInt64, -1, lastTick + 1, math.MaxInt64}[d.below(4)]
	case 1:
		return now - 1 - d.upTo(4)
	case 2, 3:
		return now
	}
	return now + d.upTo(d.ahead)
}

// nearEnd is a time beside that at which a scaler may step again.
func (d *draws) nearEnd(b *book) int64 {
	ends := []int64{b.up + b.UpWait, b.up + b.DownWait, b.down + b.DownWait}
	return ends[d.below(3)] + d.upTo(2) - 1
}

// now is a now of a scaler that is known.
func (d *draws) now(b *book) int64 {
	if d.below(4) == 0 {
		return d.nearEnd(b)
	}
	return d.time(b.now)
}

// bounds are numbers for Set, which may be or not.
func (d *draws) bounds() (int, int) {
	if d.below(2) == 0 {
		return d.Min, d.Max
	}
	return d.below(12) - 2, d.below(12) - 1
}

// What a Set meets.
const (
	doneSet    = "Set of bounds that may be"
	refusedSet = "Set of bounds that may not be"
)

// does is a drawn call, behind which nothing is asked: what it met.
func (d *draws) does(t *testing.T, p pair) string {
	t.Helper()
	if d.below(20) == 0 {
		least, most := d.bounds()
		got, want := p.scaler.Set(least, most), p.book.set(least, most)
		if got != want {
			t.Fatalf("Set(%d, %d) is %v, want %v, of %+v", least, most, got, want, *p.book)
		}
		if got != api.OK {
			return refusedSet
		}
		return doneSet
	}
	d.feel()
	now, live := d.now(p.book), d.fleet()
	then := *p.book
	then.goOn(now)
	met := then.reason(live, d.load)
	step := p.asks(t, now, live, d.load)
	if live == d.live {
		d.live += step
	}
	return string(met)
}

// someMet are all that calls meet.
func someMet() []string {
	all := []string{doneSet, refusedSet}
	for _, w := range allWhy() {
		all = append(all, string(w))
	}
	return all
}

// TestDrawnCalls (P25.1, P25.2): calls in drawn orders and at drawn times answer as the chapter's words say, and leave behind what they say.
func TestDrawnCalls(t *testing.T) {
	count := map[string]int{}
	for n, s := range someSettings() {
		for round := range 8 {
			p, d := newPair(t, s.Setting), newDraws(round, n, s)
			for range s.calls {
				count[d.does(t, p)]++
				p.check(t)
				p.checkKept(t)
			}
		}
	}
	for _, m := range someMet() {
		if count[m] < 1000 {
			t.Errorf("%s: %d times", m, count[m])
		}
	}
	if len(count) != len(someMet()) {
		t.Errorf("met was %v", count)
	}
}

// TestDrawnCallsAlone (P25.1, P25.2): so they do where nothing is asked between them.
func TestDrawnCallsAlone(t *testing.T) {
	for n, s := range someSettings() {
		for round := range 40 {
			p, d := newPair(t, s.Setting), newDraws(10+round, n, s)
			for range d.below(s.calls) {
				d.does(t, p)
			}
			p.check(t)
			p.checkKept(t)
		}
	}
}

// TestDrawnLastTicks (P25.2): so do calls up to the last tick and at it.
func TestDrawnLastTicks(t *testing.T) {
	atEnd := 0
	for n, s := range someSettings() {
		for round := range 20 {
			p, d := newPair(t, s.Setting), newDraws(60+round, n, s)
			p.steps(t, lastTick-d.upTo(20*s.ahead), d.fleet(), d.otherLoad())
			for range 100 {
				d.does(t, p)
				p.check(t)
			}
			p.checkKept(t)
			if p.book.now == lastTick {
				atEnd++
			}
		}
	}
	if atEnd < 100 {
		t.Errorf("%d came to the last tick", atEnd)
	}
}

// TestDrawnSame (R5): the same calls do the same.
func TestDrawnSame(t *testing.T) {
	for n, s := range someSettings() {
		one, other := newScaler(t, s.Setting), newScaler(t, s.Setting)
		d, e := newDraws(80, n, s), newDraws(80, n, s)
		for range 200 {
			now, live, load := d.time(one.Now()), d.fleet(), d.otherLoad()
			a := one.Step(now, live, load)
			b := other.Step(e.time(other.Now()), e.fleet(), e.otherLoad())
			if a != b || one.Now() != other.Now() || one.Want(load) != other.Want(load) {
				t.Fatalf("Step(%d, %d, %d) is %d and %d", now, live, load, a, b)
			}
		}
	}
}

// away is how far a number is from bounds, if it is not within them.
func away(n, least, most int) int { return max(least-n, n-most, 0) }

// TestWithin (P25.3): each step leads nearer to Min and Max, or is within them, by the calls' answers alone; from outside there is a step at each call, so that it is soon within.
func TestWithin(t *testing.T) {
	outside, within, atBounds := 0, 0, 0
	for n, s := range someSettings() {
		for round := range 40 {
			z, d := newScaler(t, s.Setting), newDraws(100+round, n, s)
			d.live = d.below(30)
			for range 200 {
				if d.below(40) == 0 {
					z.Set(d.bounds())
				}
				d.feel()
				least, most := z.Bounds()
				far := away(d.live, least, most)
				step := z.Step(d.time(z.Now()), d.live, d.load)
				switch then := away(d.live+step, least, most); {
				case far == 0 && then != 0:
					t.Fatalf("a step leads from %d to %d, out of %d to %d", d.live, d.live+step, least, most)
				case far == 0:
					within++
					atBounds += told(d.live == least) + told(d.live == most)
				case then != far-1:
					t.Fatalf("a step leads from %d to %d, where %d to %d may be", d.live, d.live+step, least, most)
				default:
					outside++
				}
				if step < -1 || step > 1 {
					t.Fatalf("a step is %d", step)
				}
				d.live += step
			}
		}
	}
	if outside < 5000 || within < 50000 || atBounds < 20000 {
		t.Errorf("%d were outside, %d within, of them %d at a bound", outside, within, atBounds)
	}
}

// told is a number that stands for whether something is so.
func told(is bool) int {
	if is {
		return 1
	}
	return 0
}

// starts are numbers of replicas to begin with, as far from the bounds as one likes.
func starts() []int { return []int{math.MinInt, -100, -1, 0, 1, 2, 3, 4, 5, 6, 7, 8, 9, 20, 300} }

// loads are loads that stay: beside all that some have room for, with Slack and without, and far from all.
func (s Setting) loads() []int {
	all := someLoads(s.Per)
	for n := range replicas {
		most := n * s.Per * (100 - s.Slack) / 100
		all = append(all, most, most+1)
	}
	return all
}

// rests asks until there was no step for long enough that all waits have ended: how many there are then, and how many steps there were; the time goes on by drawn ticks.
func (d *draws) rests(t *testing.T, z *Scaler, start, load int, ahead int64) (int, int) {
	t.Helper()
	live, steps := max(start, 0), 0
	quiet := z.Now() // since when there was no step
	for z.Now()-quiet <= 2*max(d.UpWait, d.DownWait)+2 {
		step := z.Step(z.Now()+1+d.upTo(ahead), live, load)
		if step != 0 {
			live, steps, quiet = live+step, steps+1, z.Now()
		}
		if steps > 1000 || z.Now() > lastTick-1-ahead {
			t.Fatalf("%+v: there is no end of %d steps from %d with the load %d", d.Setting, steps, start, load)
		}
	}
	return live, steps
}

// mayRest tells whether so many may be at rest with a load: as many as it wants, or so few more that one less has not Slack.
func mayRest(s Setting, z *Scaler, live, load int) bool {
	want := z.Want(load)
	return live == want || live > want && live <= s.Max && load > (live-1)*s.Per*(100-s.Slack)/100
}

// TestRest (P25.4): with the same load, from any number of replicas, there are as many steps as there are replicas between the start and the rest, and then no more for as long as there are ticks.
func TestRest(t *testing.T) {
	ups, downs, spare := 0, 0, 0
	for n, s := range someSettings() {
		for at, start := range starts() {
			d := newDraws(200+at, n, s)
			for _, load := range s.loads() {
				z := newScaler(t, s.Setting)
				z.Step(d.upTo(s.ahead), d.below(10), d.otherLoad())
				live, steps := d.rests(t, z, start, load, 2*s.ahead)
				first := max(start, 0)
				if steps != max(live-first, first-live) {
					t.Fatalf("%+v: from %d to the rest %d with the load %d there are %d steps", s.Setting, start, live, load, steps)
				}
				if !mayRest(s.Setting, z, live, load) {
					t.Fatalf("%+v: the rest is %d with the load %d, from %d", s.Setting, live, load, start)
				}
				ups += told(live > first)
				downs += told(live < first)
				spare += told(live > z.Want(load))
				for _, later := range []int64{0, 0, 1, 2, longest} {
					if step := z.Step(z.Now()+later, live, load); step != 0 {
						t.Fatalf("%+v: at the rest %d with the load %d a step is %d", s.Setting, live, load, step)
					}
				}
			}
		}
	}
	if ups < 2000 || downs < 2000 || spare < 500 {
		t.Errorf("there were steps up %d times, and down %d times, and %d times there were more than wanted", ups, downs, spare)
	}
}

// TestRestForever (P25.4): at rest there is no step up to the last tick, also with those that were live at New.
func TestRestForever(t *testing.T) {
	for n, s := range someSettings() {
		d := newDraws(300, n, s)
		for _, load := range s.loads() {
			z := newScaler(t, s.Setting)
			live, _ := d.rests(t, z, d.below(12), load, 2*s.ahead)
			for range 100 {
				if step := z.Step(min(z.Now()+d.upTo(lastTick/20), lastTick), live, load); step != 0 {
					t.Fatalf("%+v: at the rest %d with the load %d a step is %d, at %d", s.Setting, live, load, step, z.Now())
				}
			}
			if z.Now() != lastTick {
				t.Fatalf("the time is %d", z.Now())
			}
		}
	}
}

// waited counts what was seen of waits, and keeps when the last steps were done; by the calls' answers alone.
type waited struct {
	up, down                 int64
	ups, downs, forced, held int
}

// sees tells where a step came too soon behind the last one, though how many were live was within the bounds.
func (w *waited) sees(t *testing.T, s Setting, now int64, isForced bool, step int) {
	t.Helper()
	switch {
	case step == 0:
		w.held++
		return
	case isForced:
		w.forced++
	case step == 1 && w.up != never:
		w.ups++
		if now-w.up < s.UpWait {
			t.Fatalf("%+v: a step up at %d, and one at %d", s, w.up, now)
		}
	case step == -1 && w.down != never:
		w.downs++
		if now-w.down < s.DownWait {
			t.Fatalf("%+v: a step down at %d, and one at %d", s, w.down, now)
		}
	}
	if step == 1 {
		w.up = now
	} else {
		w.down = now
	}
}

// TestWaits (P25.5): between two steps down there is DownWait, between two up UpWait, but as long as there are too few, or too many; then there is one at each call.
func TestWaits(t *testing.T) {
	for n, s := range someSettings() {
		all := waited{}
		for round := range 20 {
			z, d := newScaler(t, s.Setting), newDraws(400+round, n, s)
			w := waited{up: never, down: never}
			for range s.calls {
				d.feel()
				least, most := z.Bounds()
				live := d.fleet()
				isForced := away(max(live, 0), least, most) > 0
				step := z.Step(d.time(z.Now()), live, d.load)
				if isForced && step == 0 {
					t.Fatalf("%+v: no step, with %d of %d to %d", s.Setting, live, least, most)
				}
				w.sees(t, s.Setting, z.Now(), isForced, step)
				if live == d.live {
					d.live += step
				}
				if d.below(50) == 0 {
					z.Set(d.bounds())
				}
			}
			all.ups, all.downs, all.forced, all.held = all.ups+w.ups, all.downs+w.downs, all.forced+w.forced, all.held+w.held
		}
		if all.ups < 20 || all.downs < 20 || all.forced < 500 || all.held < 500 {
			t.Errorf("%+v: there were %d steps up, %d down, %d at once, and %d times none", s.Setting, all.ups, all.downs, all.forced, all.held)
		}
	}
}

// TestWaitsDirected (P25.5): with a load that wants all, or none, asked at each tick, the steps are just their waits apart.
func TestWaitsDirected(t *testing.T) {
	for _, wait := range []int64{0, 1, 2, 7, 100} {
		for _, other := range []int64{0, 3, 1000} {
			z := newScaler(t, Setting{Min: 0, Max: 8, Per: 10, UpWait: wait, DownWait: other})
			wantApart(t, z, 0, 80, max(wait, 1))
			z = newScaler(t, Setting{Min: 0, Max: 8, Per: 10, UpWait: other, DownWait: wait})
			wantApart(t, z, 8, 0, max(wait, 1))
		}
	}
}

// wantApart tells where steps, asked for at each tick, are not so far apart.
func wantApart(t *testing.T, z *Scaler, live, load int, apart int64) {
	t.Helper()
	for now := range apart*7 + 1 {
		step := z.Step(now, live, load)
		if (step != 0) != (now%apart == 0) {
			t.Fatalf("at %d the step is %d, and they are %d apart", now, step, apart)
		}
		live += step
	}
	if live != 8 && live != 0 {
		t.Fatalf("%d are live", live)
	}
}

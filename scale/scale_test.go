package scale

import (
	"math"
	"testing"

	"garboard/api"
)

// TestExample: the chapter's example.
func TestExample(t *testing.T) {
	s := newScaler(t, Setting{Min: 1, Max: 4, Per: 10})
	wantWant(t, s, 25, 3)
	wantStep(t, s, 0, 1, 25, 1)
}

// part is a part of a setting, and whether it may be.
type part struct {
	n   int64
	may bool
}

// mosts are numbers for Max.
func mosts() []part {
	return []part{{math.MinInt, false}, {-8, false}, {-1, false}, {0, false}, {1, true}, {2, true}, {7, true}, {8, true}, {9, false}, {1 << 32, false}, {1<<32 + 1, false}, {math.MaxInt, false}}
}

// leasts are numbers for Min beside one for Max; whether they may be counts where that may be.
func leasts(most int64) []part {
	return []part{{math.MinInt, false}, {math.MinInt + 1, false}, {-1, false}, {0, true}, {1, most >= 1}, {most - 1, most >= 1}, {most, most >= 0}, {most + 1, false}, {9, false}, {1 << 32, false}, {math.MaxInt, false}}
}

// pers are numbers for Per.
func pers() []part {
	return []part{{math.MinInt, false}, {-1000, false}, {-1, false}, {0, false}, {1, true}, {2, true}, {999, true}, {1000, true}, {1001, false}, {1<<32 + 1, false}, {math.MaxInt, false}}
}

// slacks are numbers for Slack.
func slacks() []part {
	return []part{{math.MinInt, false}, {-99, false}, {-1, false}, {0, true}, {1, true}, {98, true}, {99, true}, {100, false}, {101, false}, {1 << 32, false}, {math.MaxInt, false}}
}

// waits are numbers for UpWait and DownWait.
func waits() []part {
	return []part{{math.MinInt64, false}, {-longest, false}, {-1, false}, {0, true}, {1, true}, {longest - 1, true}, {longest, true}, {longest + 1, false}, {lastTick, false}, {math.MaxInt64, false}}
}

// tally counts the settings that are taken, and those that are refused.
type tally struct{ taken, refused int }

// news asks for a scaler, which is given or not.
func (c *tally) news(t *testing.T, s Setting, may bool) {
	t.Helper()
	z, err := New(s)
	if !may {
		c.refused++
		if z != nil || err != api.ErrArg {
			t.Fatalf("New(%+v) is %v, %v", s, z, err)
		}
		return
	}
	c.taken++
	if z == nil || err != api.OK {
		t.Fatalf("New(%+v) is %v, %v", s, z, err)
	}
	wantBounds(t, z, s.Min, s.Max)
	wantNow(t, z, 0)
}

// newsOfBounds asks for scalers with bounds, and all else.
func (c *tally) newsOfBounds(t *testing.T, least, most int, may bool) {
	t.Helper()
	for _, per := range pers() {
		for _, slack := range slacks() {
			for _, up := range waits() {
				for _, down := range waits() {
					s := Setting{Min: least, Max: most, Per: int(per.n), Slack: int(slack.n), UpWait: up.n, DownWait: down.n}
					c.news(t, s, may && per.may && slack.may && up.may && down.may)
				}
			}
		}
	}
}

// TestNew (P25.1): settings whose parts are within their bounds, at them and beyond them, one alone and several at once.
func TestNew(t *testing.T) {
	c := &tally{}
	for _, most := range mosts() {
		for _, least := range leasts(most.n) {
			c.newsOfBounds(t, int(least.n), int(most.n), most.may && least.may)
		}
	}
	if c.taken < 1000 || c.refused < 10000 {
		t.Errorf("%+v", *c)
	}
}

// TestNewBounds (P25.1): of all pairs beside 0 and 8 those may be that are in order, and whose greater one is 1 to 8.
func TestNewBounds(t *testing.T) {
	c := &tally{}
	for most := -3; most <= 12; most++ {
		for least := -3; least <= 12; least++ {
			may := 0 <= least && least <= most && 1 <= most && most <= 8
			c.news(t, Setting{Min: least, Max: most, Per: 1}, may)
		}
	}
	if c.taken != 44 {
		t.Errorf("%+v", *c)
	}
}

// TestNewNone (P25.1): the setting that has nothing, and ones without a Max or a Per, are none.
func TestNewNone(t *testing.T) {
	c := &tally{}
	for _, s := range []Setting{{}, {Max: 1}, {Per: 1}, {Min: 1}, {Min: 1, Per: 1}, {Slack: 1}, {UpWait: 1}, {DownWait: 1}, {Min: 1, Max: 1, Slack: 1, UpWait: 1, DownWait: 1}} {
		c.news(t, s, false)
	}
	c.news(t, Setting{Max: 1, Per: 1}, true)
}

// TestNewNoStep (P25.1, P25.2): New's has done no step: it waits for none, at the time 0 and at others.
func TestNewNoStep(t *testing.T) {
	for _, wait := range []int64{0, 1, 10, longest} {
		for _, at := range []int64{0, 1, 9, longest - 1, lastTick} {
			s := Setting{Min: 0, Max: 8, Per: 10, UpWait: wait, DownWait: wait}
			newPair(t, s).must(t, at, 3, 31, 1)
			newPair(t, s).must(t, at, 3, 20, -1)
			newPair(t, s).must(t, at, 0, 1, 1)
			newPair(t, s).must(t, at, 1, 0, -1)
			newPair(t, s).must(t, at, 3, 30, 0)
			newPair(t, s).checkKept(t)
		}
	}
}

// someBounds are Mins and Maxes that may be.
func someBounds() [][2]int {
	return [][2]int{{0, 1}, {1, 1}, {0, 8}, {1, 8}, {8, 8}, {3, 3}, {2, 6}, {0, 4}, {5, 7}}
}

// somePers are Pers that may be.
func somePers() []int { return []int{1, 2, 3, 7, 10, 99, 100, 999, 1000} }

// within is a number, or the bound that it is beyond.
func within(n int, bounds [2]int) int { return min(max(n, bounds[0]), bounds[1]) }

// TestWant (P25.1): as many as have Per streams each, upward; a load below 0 is none.
func TestWant(t *testing.T) {
	for _, bounds := range someBounds() {
		for _, per := range somePers() {
			s := newScaler(t, Setting{Min: bounds[0], Max: bounds[1], Per: per})
			for _, load := range []int{0, -1, -per, math.MinInt, math.MinInt + 1} {
				wantWant(t, s, load, bounds[0])
			}
			wantWant(t, s, 1, within(1, bounds))
			for k := 1; k <= 8; k++ {
				wantWant(t, s, k*per, within(k, bounds))
				wantWant(t, s, k*per+1, within(k+1, bounds))
				wantWant(t, s, (k-1)*per+1, within(k, bounds))
			}
			for _, load := range []int{9 * per, 9*per + 1, 1 << 32, math.MaxInt/100 + 1, math.MaxInt/2 + 1, math.MaxInt - per + 1, math.MaxInt - 1, math.MaxInt} {
				wantWant(t, s, load, bounds[1])
			}
		}
	}
}

// TestWantOneFewer (P25.1): one stream fewer than k have room for wants k, too, but where one stream is all that one has.
func TestWantOneFewer(t *testing.T) {
	for _, bounds := range someBounds() {
		for _, per := range somePers() {
			s := newScaler(t, Setting{Min: bounds[0], Max: bounds[1], Per: per})
			for k := 1; k <= 8; k++ {
				want := k
				if per == 1 {
					want = k - 1
				}
				wantWant(t, s, k*per-1, within(want, bounds))
			}
		}
	}
}

// TestWantEachLoad (P25.1): every load up to beyond what 8 have room for, by the chapter's words.
func TestWantEachLoad(t *testing.T) {
	for _, bounds := range someBounds() {
		for _, per := range []int{1, 2, 10, 33} {
			p := newPair(t, Setting{Min: bounds[0], Max: bounds[1], Per: per, Slack: 99, UpWait: 5, DownWait: 5})
			for load := -2 * per; load < 11*per; load++ {
				wantWant(t, p.scaler, load, p.book.want(load))
			}
		}
	}
}

// TestWantAlone (P25.1): Want hangs on the load alone: steps, times, Slack and waits are nothing to it.
func TestWantAlone(t *testing.T) {
	for _, at := range []int64{0, 100, lastTick} {
		for _, s := range everywhere(t, at) {
			bounds := [2]int{s.book.Min, s.book.Max}
			for n, load := range []int{0, 10, 20, 30, 40, 50, 60, 70, 80, 90} {
				wantWant(t, s.scaler, load, within(n, bounds))
			}
			s.check(t)
			s.checkKept(t)
		}
	}
}

// TestSet (P25.1): bounds that may be, at their ends and beyond them; those that are refused change nothing.
func TestSet(t *testing.T) {
	set, refused := 0, 0
	for _, most := range mosts() {
		for _, least := range leasts(most.n) {
			for _, s := range everywhere(t, 100) {
				was := *s.book
				err := s.sets(t, int(least.n), int(most.n))
				if most.may && least.may {
					set++
					if err != api.OK {
						t.Fatalf("Set(%d, %d) is %v", least.n, most.n, err)
					}
					wantBounds(t, s.scaler, int(least.n), int(most.n))
				} else {
					refused++
					if err != api.ErrArg {
						t.Fatalf("Set(%d, %d) is %v", least.n, most.n, err)
					}
					wantBounds(t, s.scaler, was.Min, was.Max)
				}
				s.checkKept(t)
			}
		}
	}
	if set < 100 || refused < 1000 {
		t.Errorf("%d were set, %d were refused", set, refused)
	}
}

// TestSetSmall (P25.1): of all pairs beside 0 and 8 those may be set that New takes.
func TestSetSmall(t *testing.T) {
	n := 0
	for most := -3; most <= 12; most++ {
		for least := -3; least <= 12; least++ {
			p := newPair(t, Setting{Min: 2, Max: 6, Per: 10})
			if p.sets(t, least, most) == api.OK {
				n++
			}
			if _, err := New(Setting{Min: least, Max: most, Per: 10}); err != p.scaler.Set(least, most) {
				t.Errorf("Set(%d, %d) is not as New, which is %v", least, most, err)
			}
		}
	}
	if n != 44 {
		t.Errorf("%d may be set", n)
	}
}

// TestSetThenStep (P25.1, P25.2): behind bounds that were set how many live may be below or above them; then a step is answered at once.
func TestSetThenStep(t *testing.T) {
	for _, least := range []int{0, 1, 3, 8} {
		for most := max(least, 1); most <= 8; most++ {
			for live := 0; live <= 9; live++ {
				for _, load := range []int{0, 39, 40, 41, 500} {
					for _, s := range everywhere(t, 100) {
						s.mustSet(t, least, most)
						switch {
						case live < least:
							s.must(t, 100, live, load, 1)
						case live > most:
							s.must(t, 100, live, load, -1)
						default:
							s.steps(t, 100, live, load)
						}
						s.checkKept(t)
					}
				}
			}
		}
	}
}

// TestSetRefusedThenStep (P25.1, P25.2): behind bounds that were refused a step is what it would have been.
func TestSetRefusedThenStep(t *testing.T) {
	s := newScaler(t, Setting{Min: 2, Max: 6, Per: 10})
	for n, bad := range [][2]int{{7, 3}, {-1, 8}, {0, 0}, {0, 9}, {9, 9}, {-1, -1}, {math.MinInt, math.MaxInt}, {math.MaxInt, math.MinInt}} {
		if err := s.Set(bad[0], bad[1]); err != api.ErrArg {
			t.Errorf("Set(%d, %d) is %v", bad[0], bad[1], err)
		}
		wantBounds(t, s, 2, 6)
		wantWant(t, s, 0, 2)
		wantWant(t, s, 70, 6)
		wantStep(t, s, int64(n), 1, 0, 1)
		wantStep(t, s, int64(n), 7, 70, -1)
		wantStep(t, s, int64(n), 2, 0, 0)
		wantStep(t, s, int64(n), 6, 70, 0)
	}
}

// TestSetKeepsAll (P25.1, P25.2): what is set keeps Per, Slack, the waits, the time, and when steps were done.
func TestSetKeepsAll(t *testing.T) {
	s := newScaler(t, Setting{Min: 0, Max: 8, Per: 10, Slack: 20, UpWait: 5, DownWait: 9})
	wantStep(t, s, 50, 1, 11, 1)
	for _, bounds := range [][2]int{{1, 4}, {4, 4}, {0, 1}, {0, 8}} {
		if err := s.Set(bounds[0], bounds[1]); err != api.OK {
			t.Fatal(err)
		}
		wantNow(t, s, 50)
	}
	wantWant(t, s, 25, 3)
	wantStep(t, s, 54, 2, 21, 0)
	wantStep(t, s, 54, 2, 8, 0)
	wantStep(t, s, 55, 2, 21, 1)
	wantStep(t, s, 63, 2, 8, 0)
	wantStep(t, s, 64, 2, 9, 0)
	wantStep(t, s, 64, 2, 8, -1)
}

// lives are numbers of replicas beside bounds and far from them.
func lives(bounds [2]int) []int {
	all := []int{math.MinInt, math.MinInt + 1, -9, -1, 0, 1, bounds[0] - 1, bounds[0], bounds[0] + 1, bounds[1] - 1, bounds[1], bounds[1] + 1, 9, 100, 1 << 32, math.MaxInt - 1, math.MaxInt}
	return all
}

// TestStepLives (P25.2): with a load that wants 4, of 2 to 6.
func TestStepLives(t *testing.T) {
	for live, want := range map[int]int{
		math.MinInt: 1, math.MinInt + 1: 1, -1: 1, 0: 1, 1: 1, 2: 1, 3: 1, 4: 0,
		5: -1, 6: -1, 7: -1, 8: -1, 9: -1, 1 << 32: -1, math.MaxInt - 1: -1, math.MaxInt: -1,
	} {
		for _, now := range []int64{0, 7, lastTick} {
			p := newPair(t, Setting{Min: 2, Max: 6, Per: 10})
			p.must(t, now, live, 40, want)
			p.checkKept(t)
		}
	}
}

// TestStepLivesBelow0 (P25.2): a live below 0 is 0: none is too few where Min is 0 and nothing is told.
func TestStepLivesBelow0(t *testing.T) {
	for _, live := range []int{math.MinInt, -100, -1, 0} {
		s := newScaler(t, Setting{Min: 0, Max: 8, Per: 10, UpWait: 5})
		wantStep(t, s, 0, live, 0, 0)
		wantStep(t, s, 0, live, -1, 0)
		wantStep(t, s, 1, live, 1, 1)
		wantStep(t, s, 5, live, 1, 0)
		wantStep(t, s, 6, live, 1, 1)
		least := newScaler(t, Setting{Min: 1, Max: 8, Per: 10, UpWait: 5})
		wantStep(t, least, 0, live, 0, 1)
		wantStep(t, least, 1, live, 0, 1)
	}
}

// TestStepGrid (P25.2): lives and loads beside all bounds, of scalers from everywhere, by the chapter's words.
func TestStepGrid(t *testing.T) {
	count := map[why]int{}
	for _, at := range []int64{100, lastTick} {
		for _, bounds := range someBounds() {
			for _, live := range lives(bounds) {
				for _, load := range someLoads(10) {
					for _, s := range everywhere(t, at) {
						c := s.copied()
						c.scaler.Set(bounds[0], bounds[1])
						c.book.set(bounds[0], bounds[1])
						count[c.book.reason(live, load)]++
						c.asks(t, at, live, load)
						c.checkKept(t)
					}
				}
			}
		}
	}
	for _, w := range allWhy() {
		if count[w] < 50 {
			t.Errorf("%s: %d times", w, count[w])
		}
	}
}

// TestStepByWant (P25.2): a load that wants one more, as many, and one fewer.
func TestStepByWant(t *testing.T) {
	for _, per := range somePers() {
		for live := 1; live <= 7; live++ {
			s := Setting{Min: 0, Max: 8, Per: per}
			newPair(t, s).must(t, 0, live, live*per+1, 1)
			newPair(t, s).must(t, 0, live, live*per, 0)
			newPair(t, s).must(t, 0, live, (live-1)*per+1, 0)
			newPair(t, s).must(t, 0, live, (live-1)*per, -1)
		}
	}
}

// TestStepAtBounds (P25.2): at Max none comes and at Min none goes, whatever the load.
func TestStepAtBounds(t *testing.T) {
	for _, bounds := range someBounds() {
		for _, per := range somePers() {
			for _, load := range []int{9 * per, 1000 * per, math.MaxInt} {
				newPair(t, Setting{Min: bounds[0], Max: bounds[1], Per: per}).must(t, 3, bounds[1], load, 0)
			}
			for _, load := range []int{0, -1, math.MinInt} {
				newPair(t, Setting{Min: bounds[0], Max: bounds[1], Per: per}).must(t, 3, bounds[0], load, 0)
			}
		}
	}
}

// slackAt is a load of which 100 times is just so many less one, times Per, times what Slack leaves of 100.
type slackAt struct{ per, slack, live, load int }

// slackEnds are such loads.
func slackEnds() []slackAt {
	return []slackAt{
		{1, 0, 1, 0}, {1, 0, 2, 1}, {1, 0, 8, 7}, {10, 0, 2, 10}, {10, 0, 5, 40}, {1000, 0, 2, 1000}, {1000, 0, 8, 7000},
		{1, 99, 1, 0}, {100, 99, 1, 0}, {100, 99, 2, 1}, {100, 99, 8, 7}, {1000, 99, 2, 10}, {1000, 99, 8, 70}, {500, 99, 3, 10}, {50, 99, 3, 1},
		{10, 20, 2, 8}, {10, 20, 5, 32}, {5, 20, 2, 4}, {10, 50, 4, 15}, {10, 10, 8, 63}, {1, 50, 3, 1}, {1, 75, 5, 1}, {25, 4, 2, 24}, {1000, 1, 8, 6930},
	}
}

// TestSlack (P25.2): one goes with just that load and with one stream fewer; with one more it stays.
func TestSlack(t *testing.T) {
	for _, c := range slackEnds() {
		if 100*c.load != (c.live-1)*c.per*(100-c.slack) {
			t.Fatalf("%+v is none", c)
		}
		s := Setting{Min: 0, Max: 8, Per: c.per, Slack: c.slack}
		newPair(t, s).must(t, 0, c.live, c.load, -1)
		newPair(t, s).must(t, 0, c.live, c.load-1, -1)
		newPair(t, s).must(t, 0, c.live, math.MinInt, -1)
		for _, load := range []int{c.load + 1, c.load + 2, (c.live-1)*c.per + 1, c.live * c.per} {
			if load > c.load && load <= c.live*c.per {
				newPair(t, s).must(t, 0, c.live, load, 0)
			}
		}
	}
}

// TestSlackBetween (P25.2): where there is no such load, one goes with the load next below it, and stays with the one next above.
func TestSlackBetween(t *testing.T) {
	for _, c := range []slackAt{
		{1, 99, 2, 0}, {1, 99, 8, 0}, {10, 99, 8, 0}, {99, 99, 2, 0}, {199, 99, 2, 1}, {10, 1, 2, 9}, {10, 11, 2, 8}, {10, 19, 2, 8}, {10, 21, 2, 7},
		{3, 50, 2, 1}, {7, 33, 4, 14}, {999, 99, 8, 69}, {999, 1, 2, 989}, {1, 1, 8, 6},
	} {
		s := Setting{Min: 0, Max: 8, Per: c.per, Slack: c.slack}
		newPair(t, s).must(t, 0, c.live, c.load, -1)
		newPair(t, s).must(t, 0, c.live, c.load+1, 0)
	}
}

// TestSlackEachLoad (P25.2): every load up to beyond what all have room for, by the chapter's words.
func TestSlackEachLoad(t *testing.T) {
	for _, per := range []int{1, 7, 10, 100} {
		for _, slack := range []int{0, 1, 20, 50, 98, 99} {
			for live := 1; live <= 8; live++ {
				fresh := newPair(t, Setting{Min: 0, Max: 8, Per: per, Slack: slack})
				for load := -1; load <= 9*per; load++ {
					fresh.copied().asks(t, 0, live, load)
				}
			}
		}
	}
}

// TestSlackGreatLoads (P25.2): loads so far from 0 that 100 times them is no number want all that may be, or the fewest.
func TestSlackGreatLoads(t *testing.T) {
	for _, slack := range []int{0, 50, 99} {
		for _, per := range []int{1, 1000} {
			s := Setting{Min: 1, Max: 8, Per: per, Slack: slack}
			for _, load := range []int{math.MaxInt, math.MaxInt - 1, math.MaxInt/100 + 1, math.MaxInt/100 + 2, math.MaxInt/50 + 1, math.MaxInt / 2, math.MaxInt/2 + 1, 1 << 57, 1 << 58, 1 << 59, 1 << 60, 1 << 61, 1 << 62} {
				newPair(t, s).must(t, 0, 8, load, 0)
				newPair(t, s).must(t, 0, 7, load, 1)
				newPair(t, s).must(t, 0, 9, load, -1)
			}
			for _, load := range []int{math.MinInt, math.MinInt + 1, math.MinInt / 2, math.MinInt/100 - 1, -1 << 58, -1 << 61, -1 << 62} {
				newPair(t, s).must(t, 0, 8, load, -1)
				newPair(t, s).must(t, 0, 2, load, -1)
				newPair(t, s).must(t, 0, 1, load, 0)
				newPair(t, s).must(t, 0, 0, load, 1)
			}
		}
	}
}

// someWaits are waits that may be.
func someWaits() []int64 { return []int64{0, 1, 2, 10, longest - 1, longest} }

// oneBefore are the ticks of someone who is asked just ahead of a wait's end, at it and behind it: what is answered there.
func oneBefore(wait int64, d int) map[int64]int {
	if wait == 0 {
		return map[int64]int{0: d, 1: d}
	}
	return map[int64]int{wait - 1: 0, wait: d, wait + 1: d}
}

// TestUpWait (P25.2): a step up behind a step up: as long ago as UpWait, a tick less, a tick more; behind one that was wanted, and one at once.
func TestUpWait(t *testing.T) {
	for _, wait := range someWaits() {
		for _, at := range []int64{0, 1, 100, 1 << 33} {
			for later, want := range oneBefore(wait, 1) {
				for _, live := range []int{0, 1, 2} {
					p := newPair(t, Setting{Min: 1, Max: 8, Per: 10, UpWait: wait, DownWait: longest})
					p.must(t, at, live, 55, 1)
					p.must(t, at+later, live+1, 55, want)
					p.checkKept(t)
				}
			}
		}
	}
}

// TestDownWait (P25.2): a step down behind a step down, and behind a step up: as long ago as DownWait, a tick less, a tick more.
func TestDownWait(t *testing.T) {
	for _, wait := range someWaits() {
		for _, at := range []int64{0, 1, 100, 1 << 33} {
			for later, want := range oneBefore(wait, -1) {
				s := Setting{Min: 1, Max: 7, Per: 10, Slack: 20, UpWait: longest, DownWait: wait}
				for _, first := range []int{4, 8, 9} {
					p := newPair(t, s)
					p.must(t, at, first, 16, -1)
					p.must(t, at+later, min(first-1, 7), 16, want)
					p.checkKept(t)
				}
				for _, live := range []int{0, 2} {
					p := newPair(t, s)
					p.must(t, at, live, 60, 1)
					p.must(t, at+later, live+2, 8, want)
					p.checkKept(t)
				}
			}
		}
	}
}

// TestUpBehindDown (P25.2): a step up waits for no step down, and UpWait goes on from the last step up through it.
func TestUpBehindDown(t *testing.T) {
	s := newScaler(t, Setting{Min: 0, Max: 8, Per: 10, UpWait: 10, DownWait: 4})
	wantStep(t, s, 0, 3, 20, -1)
	wantStep(t, s, 0, 2, 21, 1)
	wantStep(t, s, 3, 3, 20, 0)
	wantStep(t, s, 4, 3, 20, -1)
	wantStep(t, s, 9, 2, 21, 0)
	wantStep(t, s, 10, 2, 21, 1)
	wantStep(t, s, 13, 3, 20, 0)
	wantStep(t, s, 14, 3, 20, -1)
	wantStep(t, s, 17, 2, 10, 0)
	wantStep(t, s, 18, 2, 10, -1)
	wantStep(t, s, 19, 1, 21, 0)
	wantStep(t, s, 20, 1, 21, 1)
}

// TestZeroIsNoStep (P25.2): a call that answers 0 does no step, so that no wait begins by it.
func TestZeroIsNoStep(t *testing.T) {
	s := newScaler(t, Setting{Min: 0, Max: 8, Per: 10, Slack: 50, UpWait: 10, DownWait: 20})
	wantStep(t, s, 0, 2, 20, 0)
	wantStep(t, s, 1, 2, 21, 1)
	wantStep(t, s, 10, 3, 31, 0)
	wantStep(t, s, 10, 3, 30, 0)
	wantStep(t, s, 11, 3, 31, 1)
	wantStep(t, s, 30, 4, 15, 0)
	wantStep(t, s, 31, 4, 16, 0)
	wantStep(t, s, 31, 4, 15, -1)
	wantStep(t, s, 50, 3, 10, 0)
	wantStep(t, s, 51, 3, 10, -1)
}

// TestAtOnce (P25.2): too many and too few are answered at once just behind each step, whatever the load, and are steps as others are.
func TestAtOnce(t *testing.T) {
	for _, load := range []int{math.MinInt, -1, 0, 20, 35, 60, 61, math.MaxInt} {
		for _, wait := range []int64{0, 1, 10, longest} {
			for _, at := range []int64{0, 5, 1 << 33} {
				s := Setting{Min: 2, Max: 6, Per: 10, Slack: 99, UpWait: wait, DownWait: wait}
				for _, first := range []int{-1, 0, 1, 7, 8, math.MaxInt} {
					p := newPair(t, s)
					p.steps(t, at, first, load)
					for range 3 {
						p.must(t, at, 1, load, 1)
						p.must(t, at, 0, load, 1)
						p.must(t, at, -1, load, 1)
						p.must(t, at, 7, load, -1)
						p.must(t, at, math.MaxInt, load, -1)
						p.checkKept(t)
					}
				}
			}
		}
	}
}

// TestAtOnceIsStep (P25.2): from a step that was answered at once a wait begins anew.
func TestAtOnceIsStep(t *testing.T) {
	setting := Setting{Min: 2, Max: 6, Per: 10, UpWait: 10, DownWait: 20}
	s := newScaler(t, setting)
	wantStep(t, s, 0, 2, 40, 1)
	wantStep(t, s, 5, 1, 40, 1)
	wantStep(t, s, 10, 2, 40, 0)
	wantStep(t, s, 14, 2, 40, 0)
	wantStep(t, s, 15, 2, 40, 1)
	s = newScaler(t, setting)
	wantStep(t, s, 0, 6, 40, -1)
	wantStep(t, s, 15, 7, 40, -1)
	wantStep(t, s, 20, 6, 40, 0)
	wantStep(t, s, 34, 6, 40, 0)
	wantStep(t, s, 35, 6, 40, -1)
	s = newScaler(t, setting)
	wantStep(t, s, 0, 1, 40, 1)
	wantStep(t, s, 19, 6, 40, 0)
	wantStep(t, s, 20, 6, 40, -1)
}

// TestFirstCounts (P25.2): where two conditions hold at one time the first one counts, and where it does not hold another may.
func TestFirstCounts(t *testing.T) {
	setting := Setting{Min: 3, Max: 5, Per: 10, Slack: 50, UpWait: 10, DownWait: 10}
	s := newScaler(t, setting)
	wantStep(t, s, 0, 2, 50, 1)  // below Min, and below Want
	wantStep(t, s, 1, 2, 50, 1)  // below Min; below Want would have to wait
	wantStep(t, s, 1, 2, 0, 1)   // below Min; as load wants 3
	wantStep(t, s, 2, 6, 0, -1)  // above Max; above Want would have to wait
	wantStep(t, s, 2, 6, 99, -1) // above Max; a load that wants 5, and has no Slack
	wantStep(t, s, 3, 5, 0, 0)
	wantStep(t, s, 3, 3, 50, 0)
	wantStep(t, s, 11, 3, 50, 1)
	wantStep(t, s, 21, 5, 21, 0)
	wantStep(t, s, 21, 5, 20, -1)
}

// someNows are nows of a scaler whose time is at: its own, earlier and later ones, and ones that are none; and the time that it has then.
func someNows(at int64) map[int64]int64 {
	return map[int64]int64{
		at: at, at - 1: at, at - 6: at, 0: at, -1: at, -at - 1: at, math.MinInt64: at, math.MinInt64 + 1: at,
		min(at+1, lastTick): min(at+1, lastTick), min(at+5, lastTick): min(at+5, lastTick), min(at+9, lastTick): min(at+9, lastTick), lastTick - 1: max(at, lastTick-1), lastTick: lastTick,
		lastTick + 1: at, lastTick + at + 1: at, 1 << 41: at, math.MaxInt64 - 1: at, math.MaxInt64: at,
	}
}

// TestNow (P25.2): the time is the last now that was one, and not an earlier one; whatever the step.
func TestNow(t *testing.T) {
	for _, at := range []int64{0, 100, 1000, 1 << 33, lastTick - 20, lastTick} {
		for _, s := range everywhere(t, at) {
			for now, want := range someNows(at) {
				for _, live := range []int{-1, 0, 2, 4, 6, 9} {
					for _, load := range []int{0, 16, 17, 40, 60, 99} {
						c := s.copied()
						c.asks(t, now, live, load)
						wantNow(t, c.scaler, want)
						c.check(t)
						c.checkKept(t)
					}
				}
			}
		}
	}
}

// TestNowZero (P25.2): a step of 0 has its now's time, too.
func TestNowZero(t *testing.T) {
	s := newScaler(t, Setting{Min: 1, Max: 4, Per: 10})
	for _, c := range [][2]int64{{0, 0}, {5, 5}, {4, 5}, {-1, 5}, {5, 5}, {math.MinInt64, 5}, {lastTick + 1, 5}, {math.MaxInt64, 5}, {6, 6}, {lastTick, lastTick}, {lastTick - 1, lastTick}, {lastTick + 1, lastTick}, {0, lastTick}} {
		wantStep(t, s, c[0], 2, 20, 0)
		wantNow(t, s, c[1])
	}
}

// TestNoneIsScalersTime (P25.2): a now that is none, and an earlier one, is the scaler's time: steps are done then, and waits end by it.
func TestNoneIsScalersTime(t *testing.T) {
	for _, now := range []int64{math.MinInt64, -1, 0, 49, 50, lastTick + 1, math.MaxInt64} {
		s := newScaler(t, Setting{Min: 0, Max: 8, Per: 10, UpWait: 10, DownWait: 20})
		wantStep(t, s, 50, 3, 30, 0)
		wantStep(t, s, now, 3, 31, 1)
		wantStep(t, s, 59, 4, 41, 0)
		wantStep(t, s, now, 4, 41, 0)
		wantStep(t, s, 60, 4, 40, 0)
		wantStep(t, s, now, 4, 41, 1)
		wantStep(t, s, 79, 5, 40, 0)
		wantStep(t, s, now, 5, 40, 0)
		wantNow(t, s, 79)
		wantStep(t, s, 80, 5, 50, 0)
		wantStep(t, s, now, 5, 40, -1)
		wantNow(t, s, 80)
	}
}

// TestAskingDoesNothing (P25.1, P25.2): Want, Bounds and Now, asked as often as one likes, and Set, do nothing to the time and to when steps were done.
func TestAskingDoesNothing(t *testing.T) {
	for _, at := range []int64{0, 100, lastTick} {
		for _, s := range everywhere(t, at) {
			least, most := s.book.Min, s.book.Max
			for _, bounds := range someBounds() {
				for range 3 {
					s.check(t)
				}
				s.mustSet(t, bounds[0], bounds[1])
				s.sets(t, bounds[1]+1, bounds[0])
				wantNow(t, s.scaler, at)
			}
			s.mustSet(t, least, most)
			s.checkKept(t)
		}
	}
}

// TestLongest (P25.2): the longest waits, from 0 and up to the last tick.
func TestLongest(t *testing.T) {
	for _, at := range []int64{0, 1, lastTick - longest - 1, lastTick - longest} {
		s := newScaler(t, Setting{Min: 0, Max: 8, Per: 1000, Slack: 99, UpWait: longest, DownWait: longest})
		wantStep(t, s, at, 7, 7001, 1)
		wantStep(t, s, at+longest-1, 7, 7001, 0)
		wantStep(t, s, at+longest-1, 8, 0, 0)
		wantStep(t, s, at+longest, 8, 71, 0)
		wantStep(t, s, at+longest, 8, 70, -1)
		wantStep(t, s, at+longest, 7, 7001, 1)
		wantStep(t, s, lastTick, 7, 7000, 0)
	}
}

// notGiven are scalers that New did not give.
func notGiven(t *testing.T) map[string]*Scaler {
	t.Helper()
	bad, err := New(Setting{Min: 5, Max: 4, Per: 10})
	if err != api.ErrArg {
		t.Fatal(err)
	}
	return map[string]*Scaler{"nil": nil, "that of nothing": {}, "that of new": new(Scaler), "that of a setting that is none": bad}
}

// TestNotGiven (P25.2): a nil scaler, and one that New did not give, answers 0 and ErrArg, and nothing can be set or done to it.
func TestNotGiven(t *testing.T) {
	for name, s := range notGiven(t) {
		for range 2 {
			for _, now := range []int64{0, 5, -1, lastTick, lastTick + 1, math.MinInt64, math.MaxInt64} {
				for _, live := range []int{-1, 0, 1, 8, 9, math.MinInt, math.MaxInt} {
					for _, load := range []int{-1, 0, 1, 80, math.MinInt, math.MaxInt} {
						if got := s.Step(now, live, load); got != 0 {
							t.Errorf("%s: Step(%d, %d, %d) is %d", name, now, live, load, got)
						}
						if got := s.Want(load); got != 0 {
							t.Errorf("%s: Want(%d) is %d", name, load, got)
						}
					}
				}
			}
			for _, bounds := range append(someBounds(), [2]int{0, 0}, [2]int{3, 2}, [2]int{-1, 9}) {
				if err := s.Set(bounds[0], bounds[1]); err != api.ErrArg {
					t.Errorf("%s: Set(%v) is %v", name, bounds, err)
				}
			}
			wantBounds(t, s, 0, 0)
			wantNow(t, s, 0)
		}
	}
}

// TestAlone (P25.1, P25.2): what is done to one scaler is nothing to another one of the same setting.
func TestAlone(t *testing.T) {
	setting := Setting{Min: 1, Max: 6, Per: 10, UpWait: 10, DownWait: 10}
	one, other := newPair(t, setting), newPair(t, setting)
	one.must(t, 5, 1, 60, 1)
	one.mustSet(t, 2, 3)
	other.check(t)
	wantNow(t, other.scaler, 0)
	wantBounds(t, other.scaler, 1, 6)
	other.must(t, 1, 2, 60, 1)
	other.must(t, 2, 3, 60, 0)
	one.check(t)
	one.must(t, 14, 2, 60, 0)
	one.must(t, 15, 2, 60, 1)
	wantNow(t, other.scaler, 2)
	setting.Min, setting.Per = 8, 0
	wantBounds(t, other.scaler, 1, 6)
	wantWant(t, other.scaler, 25, 3)
}

package pool_test

import (
	"errors"
	"math"
	"testing"

	"quoin/api"
	"quoin/pool"
)

func handle(place, turn int) api.Handle {
	return api.Handle{Place: place, Turn: turn}
}

// takes takes a place, and tells if it isn't this one.
func takes(t *testing.T, p *pool.Pool, want api.Handle) {
	t.Helper()
	if h, err := p.Take(); h != want || err != nil {
		t.Fatalf("Take: %v %v, not %v", h, err, want)
	}
}

// isFull takes no place, and tells if there was one.
func isFull(t *testing.T, p *pool.Pool) {
	t.Helper()
	if h, err := p.Take(); h != (api.Handle{}) || !errors.Is(err, api.ErrFull) {
		t.Fatalf("Take: %v %v, not ErrFull", h, err)
	}
}

// frees frees a place, and tells if it wasn't taken.
func frees(t *testing.T, p *pool.Pool, h api.Handle) {
	t.Helper()
	if err := p.Free(h); err != nil {
		t.Fatalf("Free(%v): %v", h, err)
	}
}

// isClosed tells if h is one that is taken, or that can be freed.
func isClosed(t *testing.T, p *pool.Pool, h api.Handle) {
	t.Helper()
	n := p.Len()
	if p.Has(h) {
		t.Fatalf("Has(%v): true", h)
	}
	if err := p.Free(h); !errors.Is(err, api.ErrHandle) {
		t.Fatalf("Free(%v): %v, not ErrHandle", h, err)
	}
	if p.Len() != n {
		t.Fatalf("Len: %d behind a Free that answered an error, not %d", p.Len(), n)
	}
}

func hasLen(t *testing.T, p *pool.Pool, want int) {
	t.Helper()
	if n := p.Len(); n != want {
		t.Fatalf("Len: %d, not %d", n, want)
	}
}

// filled is a pool of so many places, each taken once.
func filled(t *testing.T, most int) *pool.Pool {
	t.Helper()
	p := pool.New(most)
	for i := range most {
		takes(t, p, handle(i, 1))
	}
	return p
}

// book is the reference: each place is looked at, and nothing is kept sorted.
type book struct {
	times []int
	taken []bool
}

func newBook(most int) *book {
	return &book{times: make([]int, most), taken: make([]bool, most)}
}

func (b *book) take() (api.Handle, bool) {
	for at := range b.taken {
		if !b.taken[at] {
			b.taken[at] = true
			b.times[at]++
			return handle(at, b.times[at]), true
		}
	}
	return api.Handle{}, false
}

func (b *book) has(h api.Handle) bool {
	return h.Place >= 0 && h.Place < len(b.taken) && b.taken[h.Place] && b.times[h.Place] == h.Turn
}

func (b *book) count() int {
	n := 0
	for _, is := range b.taken {
		if is {
			n++
		}
	}
	return n
}

// 3.1

func TestNewHoldsMost(t *testing.T) {
	for _, x := range []struct{ most, want int }{
		{math.MinInt, 0}, {-1 << 40, 0}, {-1, 0}, {0, 0}, {1, 1}, {2, 2}, {7, 7}, {9999, 9999},
		{10000, 10000}, {10001, 10000}, {1 << 32, 10000}, {math.MaxInt, 10000},
	} {
		p := pool.New(x.most)
		hasLen(t, p, 0)
		for i := range x.want {
			takes(t, p, handle(i, 1))
		}
		isFull(t, p)
		hasLen(t, p, x.want)
	}
}

func TestTakeAnswersTheLeastFreePlace(t *testing.T) {
	p := filled(t, 6)
	for _, at := range []int{4, 1, 5, 2} {
		frees(t, p, handle(at, 1))
	}
	takes(t, p, handle(1, 2))
	takes(t, p, handle(2, 2))
	frees(t, p, handle(0, 1))
	takes(t, p, handle(0, 2))
	takes(t, p, handle(4, 2))
	takes(t, p, handle(5, 2))
	isFull(t, p)
}

func TestTakeAnswersOneThatWasFreedAheadOfNewOnes(t *testing.T) {
	p := pool.New(10)
	takes(t, p, handle(0, 1))
	takes(t, p, handle(1, 1))
	takes(t, p, handle(2, 1))
	frees(t, p, handle(1, 1))
	takes(t, p, handle(1, 2))
	takes(t, p, handle(3, 1))
	frees(t, p, handle(3, 1))
	takes(t, p, handle(3, 2))
	takes(t, p, handle(4, 1))
}

func TestTurnIsHowOftenThePlaceWasTaken(t *testing.T) {
	p := filled(t, 3)
	for turn := 1; turn <= 50; turn++ {
		frees(t, p, handle(1, turn))
		takes(t, p, handle(1, turn+1))
	}
	frees(t, p, handle(0, 1))
	takes(t, p, handle(0, 2))
	frees(t, p, handle(2, 1))
	takes(t, p, handle(2, 2))
}

func TestTakeOfFullOne(t *testing.T) {
	isFull(t, pool.New(0))
	p := filled(t, 2)
	for range 3 {
		isFull(t, p)
		hasLen(t, p, 2)
	}
	frees(t, p, handle(1, 1))
	takes(t, p, handle(1, 2))
	isFull(t, p)
	if !p.Has(handle(0, 1)) || !p.Has(handle(1, 2)) {
		t.Error("a Take that answered an error closed a handle")
	}
}

func TestFree(t *testing.T) {
	p := filled(t, 3)
	frees(t, p, handle(1, 1))
	hasLen(t, p, 2)
	isClosed(t, p, handle(1, 1))
	if !p.Has(handle(0, 1)) || !p.Has(handle(2, 1)) {
		t.Error("Free closed another one's handle")
	}
	frees(t, p, handle(0, 1))
	frees(t, p, handle(2, 1))
	hasLen(t, p, 0)
	takes(t, p, handle(0, 2))
	hasLen(t, p, 1)
}

func TestHandlesThatWereNeverGiven(t *testing.T) {
	p := pool.New(5)
	isClosed(t, p, handle(0, 0))
	isClosed(t, p, handle(0, 1))
	takes(t, p, handle(0, 1))
	takes(t, p, handle(1, 1))
	takes(t, p, handle(2, 1))
	frees(t, p, handle(1, 1))
	frees(t, p, handle(2, 1))
	takes(t, p, handle(1, 2))
	for _, h := range []api.Handle{
		{}, handle(0, 2), handle(0, -1), handle(1, 1), handle(1, 3), handle(1, 0), handle(2, 0), handle(2, 1), handle(2, 2),
		handle(3, 0), handle(3, 1), handle(4, 0), handle(4, 1), handle(5, 1), handle(-1, 1), handle(-1, 0), handle(-5, 1),
		handle(math.MaxInt, 1), handle(math.MinInt, 1), handle(1<<32, 1), handle(0, 1<<32+1), handle(1, math.MinInt),
	} {
		isClosed(t, p, h)
	}
	if !p.Has(handle(0, 1)) || !p.Has(handle(1, 2)) {
		t.Error("a Free that answered an error closed a handle")
	}
	takes(t, p, handle(2, 2))
	takes(t, p, handle(3, 1))
}

func TestPoolsShareNothing(t *testing.T) {
	a, b := pool.New(2), pool.New(2)
	takes(t, a, handle(0, 1))
	isClosed(t, b, handle(0, 1))
	takes(t, b, handle(0, 1))
	frees(t, b, handle(0, 1))
	takes(t, b, handle(0, 2))
	if !a.Has(handle(0, 1)) || a.Has(handle(0, 2)) {
		t.Error("what is done with one pool is to be seen in another one")
	}
}

// Each Take and each Free of a long run is as the reference has it: what is
// taken and what is freed goes by a short rule, that fills and empties it.
func TestLongRunAsTheReference(t *testing.T) {
	for _, most := range []int{0, 1, 2, 7, 40} {
		p, b := pool.New(most), newBook(most)
		for step := range 4000 {
			if step*step%7 < 3 || step%200 < most {
				want, ok := b.take()
				if h, err := p.Take(); h != want || (err == nil) != ok {
					t.Fatalf("%d, step %d: Take: %v %v, not %v %v", most, step, h, err, want, ok)
				}
			} else {
				h := handle(step*31%(most+1), step%5+step/97)
				if place := step * 13 % (most + 1); place < most && step%3 > 0 {
					h = handle(place, b.times[place])
				}
				has := b.has(h)
				if has {
					b.taken[h.Place] = false
				}
				if err := p.Free(h); (err == nil) != has {
					t.Fatalf("%d, step %d: Free(%v): %v, but Has: %v", most, step, h, err, has)
				}
			}
			hasLen(t, p, b.count())
			for at := -1; at <= most; at++ {
				for turn := -1; turn <= 3; turn++ {
					h := handle(at, turn)
					if at >= 0 && at < most && turn > 0 {
						h.Turn = b.times[at] + turn - 2
					}
					if got := p.Has(h); got != b.has(h) {
						t.Fatalf("%d, step %d: Has(%v): %v", most, step, h, got)
					}
				}
			}
		}
	}
}

// 3.2

func TestClosedHandleIsNeverAnotherOnes(t *testing.T) {
	p := pool.New(4)
	given := map[api.Handle]bool{}
	var open []api.Handle
	for step := range 600 {
		if len(open) < 4 && step%5 != 4 {
			h, err := p.Take()
			if err != nil || given[h] {
				t.Fatalf("step %d: Take: %v %v, given ahead of it: %v", step, h, err, given[h])
			}
			given[h] = true
			open = append(open, h)
		} else {
			at := step * 7 % len(open)
			frees(t, p, open[at])
			open = append(open[:at], open[at+1:]...)
		}
		isOpen := map[api.Handle]bool{}
		for _, h := range open {
			isOpen[h] = true
		}
		for h := range given {
			if p.Has(h) != isOpen[h] {
				t.Fatalf("step %d: Has(%v): %v", step, h, p.Has(h))
			}
			if !isOpen[h] {
				isClosed(t, p, h)
			}
		}
	}
}

// 3.3

func TestNoCallPanics(t *testing.T) {
	defer func() {
		if r := recover(); r != nil {
			t.Error("a call panicked:", r)
		}
	}()
	wild := []int{0, 1, 2, -1, 9999, 10000, 10001, 1 << 31, 1 << 32, -1 << 32, math.MaxInt, math.MinInt}
	for _, most := range wild {
		p := pool.New(most)
		for range 3 {
			for _, place := range wild {
				for _, turn := range wild {
					p.Has(handle(place, turn))
					p.Free(handle(place, turn))
					p.Len()
				}
			}
			p.Take()
			p.Take()
		}
	}
}

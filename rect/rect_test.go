package rect_test

import (
	"math"
	"slices"
	"testing"

	"quoin/api"
	"quoin/rect"
)

const wide = api.Wide

func at(x, y, w, h int64) api.Rect {
	return api.Rect{X: x, Y: y, W: w, H: h}
}

// small is each rectangle of a little field, those without points too.
func small() []api.Rect {
	var l []api.Rect
	for x := int64(-2); x <= 1; x++ {
		for y := int64(-1); y <= 1; y++ {
			for w := int64(0); w <= 3; w++ {
				for h := int64(0); h <= 2; h++ {
					l = append(l, at(x, y, w, h))
				}
			}
		}
	}
	return l
}

// far is Ok rectangles at the bounds of the chapter.
func far() []api.Rect {
	var l []api.Rect
	for _, x := range []int64{-wide, 0, wide} {
		for _, y := range []int64{-wide, -1, wide} {
			for _, w := range []int64{0, 1, wide} {
				for _, h := range []int64{0, wide - 1, wide} {
					l = append(l, at(x, y, w, h))
				}
			}
		}
	}
	return l
}

// hasPoint is the reference for Has, told by how far the point is from r's
// place, which doesn't wrap round for Ok ones and the points of these tests.
func hasPoint(r api.Rect, x, y int64) bool {
	return x-r.X >= 0 && x-r.X < r.W && y-r.Y >= 0 && y-r.Y < r.H
}

// holds tells whether all of r, its ends too, is within all.
func holds(all, r api.Rect) bool {
	return all.X <= r.X && all.Y <= r.Y && all.X+all.W >= r.X+r.W && all.Y+all.H >= r.Y+r.H
}

// 2.1

func TestOk(t *testing.T) {
	good := []api.Rect{
		{}, at(1, 2, 3, 4), at(-1, -2, 3, 4), at(5, 5, 0, 0), at(0, 0, 1, 0), at(0, 0, 0, 1),
		at(wide, 0, 0, 0), at(-wide, 0, 0, 0), at(0, wide, 0, 0), at(0, -wide, 0, 0),
		at(0, 0, wide, 0), at(0, 0, 0, wide), at(wide, wide, wide, wide), at(-wide, -wide, wide, wide),
	}
	for _, r := range good {
		if !rect.Ok(r) {
			t.Errorf("Ok(%v): false", r)
		}
	}
	wrong := []int64{wide + 1, -wide - 1, math.MaxInt64, math.MinInt64}
	for _, n := range wrong {
		for _, r := range []api.Rect{at(n, 0, 1, 1), at(0, n, 1, 1), at(0, 0, n, 1), at(0, 0, 1, n), at(n, n, n, n)} {
			if rect.Ok(r) {
				t.Errorf("Ok(%v): true", r)
			}
		}
	}
	for _, r := range []api.Rect{at(0, 0, -1, 1), at(0, 0, 1, -1), at(5, 5, -1, -1), at(0, 0, -wide, 0), at(0, 0, 0, -wide)} {
		if rect.Ok(r) {
			t.Errorf("Ok(%v): true", r)
		}
	}
}

func TestHas(t *testing.T) {
	r := at(-3, 10, 5, 2)
	for _, x := range []struct {
		x, y int64
		want bool
	}{
		{-3, 10, true}, {1, 11, true}, {0, 10, true}, {-3, 11, true}, {1, 10, true},
		{-4, 10, false}, {2, 10, false}, {-3, 9, false}, {-3, 12, false}, {2, 12, false}, {-4, 9, false},
		{math.MinInt64, 10, false}, {math.MaxInt64, 10, false}, {0, math.MinInt64, false}, {0, math.MaxInt64, false},
	} {
		if got := rect.Has(r, x.x, x.y); got != x.want {
			t.Errorf("Has(%v, %d, %d): %v", r, x.x, x.y, got)
		}
	}
	for _, r := range []api.Rect{{}, at(2, 3, 0, 4), at(2, 3, 4, 0), at(wide, wide, 0, 0)} {
		if rect.Has(r, r.X, r.Y) {
			t.Errorf("Has(%v) of its own place: true, without points", r)
		}
	}
}

func TestHasAtTheBounds(t *testing.T) {
	for _, r := range append(small(), far()...) {
		for _, x := range []int64{r.X - 1, r.X, r.X + 1, r.X + r.W - 1, r.X + r.W, r.X + r.W + 1} {
			for _, y := range []int64{r.Y - 1, r.Y, r.Y + 1, r.Y + r.H - 1, r.Y + r.H, r.Y + r.H + 1} {
				if got := rect.Has(r, x, y); got != hasPoint(r, x, y) {
					t.Errorf("Has(%v, %d, %d): %v", r, x, y, got)
				}
			}
		}
	}
}

func TestMove(t *testing.T) {
	for _, x := range []struct {
		r    api.Rect
		x, y int64
		want api.Rect
	}{
		{api.Rect{}, 0, 0, api.Rect{}},
		{at(1, 2, 3, 4), 0, 0, at(1, 2, 3, 4)},
		{at(1, 2, 3, 4), 10, 200, at(11, 202, 3, 4)},
		{at(1, 2, 3, 4), -10, -200, at(-9, -198, 3, 4)},
		{at(1, 2, 0, 0), 5, 0, at(6, 2, 0, 0)},
		{at(1, 2, 0, 0), 0, 5, at(1, 7, 0, 0)},
		{at(-wide, wide, wide, wide), 2 * wide, -2 * wide, at(wide, -wide, wide, wide)},
		{at(wide, -wide, 1, 1), 1, -1, at(wide+1, -wide-1, 1, 1)},
	} {
		was := x.r
		if got := rect.Move(x.r, x.x, x.y); got != x.want {
			t.Errorf("Move(%v, %d, %d): %v, not %v", x.r, x.x, x.y, got, x.want)
		}
		if x.r != was {
			t.Errorf("Move turned %v to %v", was, x.r)
		}
	}
}

func TestJoin(t *testing.T) {
	for _, x := range []struct {
		l    []api.Rect
		want api.Rect
	}{
		{nil, api.Rect{}},
		{[]api.Rect{}, api.Rect{}},
		{[]api.Rect{at(3, 4, 5, 6)}, at(3, 4, 5, 6)},
		{[]api.Rect{at(-9, -8, 1, 2)}, at(-9, -8, 1, 2)},
		{[]api.Rect{at(7, 7, 0, 0)}, at(7, 7, 0, 0)},
		{[]api.Rect{at(3, 4, 5, 6), at(3, 4, 5, 6)}, at(3, 4, 5, 6)},
		{[]api.Rect{at(1, 1, 2, 2), at(10, 20, 3, 4)}, at(1, 1, 12, 23)},
		{[]api.Rect{at(10, 1, 2, 2), at(1, 20, 3, 4)}, at(1, 1, 11, 23)},
		{[]api.Rect{at(0, 0, 10, 10), at(2, 3, 4, 4)}, at(0, 0, 10, 10)},
		{[]api.Rect{at(5, 5, 2, 2), {}}, at(0, 0, 7, 7)},
		{[]api.Rect{{}, at(5, 5, 2, 2)}, at(0, 0, 7, 7)},
		{[]api.Rect{at(5, 5, 2, 2), at(20, 6, 0, 0)}, at(5, 5, 15, 2)},
		{[]api.Rect{at(5, 5, 2, 2), at(6, -4, 0, 3)}, at(5, -4, 2, 11)},
		{[]api.Rect{at(5, 5, 0, 0), at(1, 9, 0, 0)}, at(1, 5, 4, 4)},
		{[]api.Rect{at(5, 5, 1, 1), at(8, 5, 1, 1), at(6, 1, 1, 1), at(6, 9, 1, 3)}, at(5, 1, 4, 11)},
		{[]api.Rect{at(-wide, -wide, 0, 0), at(wide, wide, wide, wide)}, at(-wide, -wide, 3*wide, 3*wide)},
	} {
		was := slices.Clone(x.l)
		if got := rect.Join(x.l...); got != x.want {
			t.Errorf("Join(%v): %v, not %v", x.l, got, x.want)
		}
		back := slices.Clone(x.l)
		slices.Reverse(back)
		if got := rect.Join(back...); got != x.want {
			t.Errorf("Join(%v): %v, not %v", back, got, x.want)
		}
		if !slices.Equal(was, x.l) {
			t.Errorf("Join turned %v to %v", was, x.l)
		}
	}
}

// The least one holds each, and one of them is at each of its four sides.
func TestJoinIsTheLeast(t *testing.T) {
	pairs := append(small(), far()...)
	for _, a := range pairs {
		for _, b := range pairs {
			got := rect.Join(a, b)
			if !holds(got, a) || !holds(got, b) {
				t.Fatalf("Join(%v, %v): %v doesn't have both", a, b, got)
			}
			if got.X != a.X && got.X != b.X || got.Y != a.Y && got.Y != b.Y {
				t.Fatalf("Join(%v, %v): %v begins too early", a, b, got)
			}
			endX, endY := got.X+got.W, got.Y+got.H
			if endX != a.X+a.W && endX != b.X+b.W || endY != a.Y+a.H && endY != b.Y+b.H {
				t.Fatalf("Join(%v, %v): %v ends too late", a, b, got)
			}
		}
	}
}

func TestMeet(t *testing.T) {
	for _, x := range []struct {
		a, b, want api.Rect
		ok         bool
	}{
		{api.Rect{}, api.Rect{}, api.Rect{}, true},
		{at(1, 2, 3, 4), at(1, 2, 3, 4), at(1, 2, 3, 4), true},
		{at(0, 0, 10, 10), at(2, 3, 4, 5), at(2, 3, 4, 5), true},
		{at(0, 0, 10, 10), at(5, 6, 10, 10), at(5, 6, 5, 4), true},
		{at(0, 0, 10, 10), at(5, -6, 10, 10), at(5, 0, 5, 4), true},
		{at(-10, -10, 12, 13), at(-20, -20, 11, 12), at(-10, -10, 1, 2), true},
		{at(0, 0, 10, 10), at(10, 3, 5, 5), at(10, 3, 0, 5), true},
		{at(0, 0, 10, 10), at(3, 10, 5, 5), at(3, 10, 5, 0), true},
		{at(0, 0, 10, 10), at(10, 10, 5, 5), at(10, 10, 0, 0), true},
		{at(0, 0, 10, 10), at(4, 4, 0, 0), at(4, 4, 0, 0), true},
		{at(0, 0, 10, 10), at(11, 3, 5, 5), api.Rect{}, false},
		{at(0, 0, 10, 10), at(3, 11, 5, 5), api.Rect{}, false},
		{at(0, 0, 10, 10), at(11, 11, 5, 5), api.Rect{}, false},
		{at(0, 0, 10, 10), at(11, 10, 0, 0), api.Rect{}, false},
		{at(4, 4, 0, 0), at(5, 4, 0, 0), api.Rect{}, false},
		{at(-wide, -wide, wide, wide), at(wide, wide, wide, wide), api.Rect{}, false},
		{at(-wide, -wide, wide, wide), at(0, 0, wide, wide), at(0, 0, 0, 0), true},
		{at(wide, wide, wide, wide), at(wide, wide, wide, wide), at(wide, wide, wide, wide), true},
	} {
		for _, pair := range [][2]api.Rect{{x.a, x.b}, {x.b, x.a}} {
			got, ok := rect.Meet(pair[0], pair[1])
			if got != x.want || ok != x.ok {
				t.Errorf("Meet(%v, %v): %v %v, not %v %v", pair[0], pair[1], got, ok, x.want, x.ok)
			}
		}
	}
}

// Reference: from the greater place to the lesser end, on each of the axes.
func TestMeetOnBothAxes(t *testing.T) {
	axis := func(a, n, b, m int64) (int64, int64) {
		from, to := slices.Max([]int64{a, b}), slices.Min([]int64{a + n, b + m})
		return from, to - from
	}
	all := append(small(), far()...)
	for _, a := range all {
		for _, b := range all {
			x, w := axis(a.X, a.W, b.X, b.W)
			y, h := axis(a.Y, a.H, b.Y, b.H)
			want, is := at(x, y, w, h), w >= 0 && h >= 0
			if !is {
				want = api.Rect{}
			}
			if got, ok := rect.Meet(a, b); got != want || ok != is {
				t.Fatalf("Meet(%v, %v): %v %v, not %v %v", a, b, got, ok, want, is)
			}
		}
	}
}

// 2.2

func TestPointIsInWhatTwoHaveJustIfInBoth(t *testing.T) {
	for _, a := range small() {
		for _, b := range small() {
			both, ok := rect.Meet(a, b)
			for x := int64(-3); x <= 5; x++ {
				for y := int64(-2); y <= 4; y++ {
					in := rect.Has(a, x, y) && rect.Has(b, x, y)
					if rect.Has(both, x, y) != in || in && !ok {
						t.Fatalf("%d, %d: in %v and %v: %v; Meet: %v %v", x, y, a, b, in, both, ok)
					}
				}
			}
		}
	}
}

func TestPointIsInBothAtTheBounds(t *testing.T) {
	all := append(far(), at(-1, -1, 2, 2), at(wide-1, -wide, 2, 1))
	for _, a := range all {
		for _, b := range all {
			both, _ := rect.Meet(a, b)
			for _, x := range []int64{a.X - 1, a.X, a.X + a.W - 1, a.X + a.W, b.X, b.X + b.W - 1, b.X + b.W} {
				for _, y := range []int64{a.Y - 1, a.Y, a.Y + a.H - 1, a.Y + a.H, b.Y, b.Y + b.H - 1, b.Y + b.H} {
					in := hasPoint(a, x, y) && hasPoint(b, x, y)
					if rect.Has(both, x, y) != in {
						t.Fatalf("%d, %d: in %v and %v: %v; Meet: %v", x, y, a, b, in, both)
					}
				}
			}
		}
	}
}

// 2.3

func TestNoCallPanics(t *testing.T) {
	defer func() {
		if r := recover(); r != nil {
			t.Error("a call panicked:", r)
		}
	}()
	wild := []int64{0, 1, -1, wide, wide + 1, -wide, -wide - 1, math.MaxInt64, math.MinInt64}
	var all []api.Rect
	for _, x := range wild {
		for _, w := range wild {
			all = append(all, at(x, w, w, x), at(x, x, w, w), at(0, x, 0, w))
		}
	}
	rect.Join()
	rect.Join(all...)
	for _, a := range all {
		rect.Ok(a)
		rect.Join(a)
		for _, x := range wild {
			rect.Has(a, x, -x)
			rect.Has(a, x, x)
			rect.Move(a, x, -x)
		}
		for _, b := range all {
			rect.Join(a, b)
			if got, ok := rect.Meet(a, b); !ok && got != (api.Rect{}) {
				t.Fatalf("Meet(%v, %v): %v beside a false", a, b, got)
			}
		}
	}
}

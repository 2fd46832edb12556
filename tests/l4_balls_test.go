package tests

import (
	"math"
	"slices"
	"strings"
	"sync"
	"testing"

	"loop.example/growingpictures/impl"
)

// stepTable has for each spot that is up to 60 from 0, 0 both ways how many steps lead there.
type stepTable [121][121]int

// stepTables counts the steps of each way, and knows of no distances: steps along rows and columns, those of a king, and both by turns.
var stepTables = sync.OnceValue(func() [3]*stepTable {
	beside, king := pic(0, -1, -1, 0, 1, 0, 0, 1), block(-1, -1, 3, 9)
	return [3]*stepTable{stepped(beside, beside), stepped(king, king), stepped(beside, king)}
})

func stepped(first, second spots) *stepTable {
	table := &stepTable{}
	known := [121][121]bool{60: {60: true}}
	for n, fresh := 0, true; fresh; n++ {
		steps := first
		if n%2 == 1 {
			steps = second
		}
		fresh = false
		before := known
		for i, inside := range before {
			for j, in := range inside {
				for _, s := range steps {
					x, y := i+s.X, j+s.Y
					if in && x >= 0 && x <= 120 && y >= 0 && y <= 120 && !known[x][y] {
						known[x][y], table[x][y], fresh = true, n+1, true
					}
				}
			}
		}
	}
	return table
}

func stepsBetween(a, b impl.Spot, way int) int {
	return stepTables()[way][60+a.X-b.X][60+a.Y-b.Y]
}

// grownSet tells by steps what is at most a radius from a picture, and whether it is a picture.
func grownSet(p spots, radius, way int) (spots, bool) {
	set := map[impl.Spot]bool{}
	for _, b := range p {
		for _, d := range block(-4, -4, 9, 81) {
			if stepsBetween(d, at(0, 0), way) <= radius {
				set[at(b.X+d.X, b.Y+d.Y)] = true
			}
		}
	}
	for a := range set {
		if max(a.X, -a.X, a.Y, -a.Y) > 30 {
			return nil, false
		}
	}
	return pictureOf(set), len(set) <= 60
}

// drawn is the picture of rows of signs, the lowest one first, of which the middle one is 0, 0.
func drawn(rows string) spots {
	var p spots
	list := strings.Fields(rows)
	for y, row := range list {
		for x, sign := range row {
			if sign == '#' {
				p = append(p, at(x-len(row)/2, y-len(list)/2))
			}
		}
	}
	return p
}

// eachBall visits all radii in all ways.
func eachBall(visit func(radius, way int)) {
	for way := range impl.Ways {
		for radius := range impl.MaxRadius + 1 {
			visit(radius, way)
		}
	}
}

// noWays is numbers that are no way to tell distances.
func noWays() []int {
	return append(extremes(), -1, -2, -3, 3, 4, 5, 6)
}

func noRadii() []int {
	return append(extremes(), -1, -2, -3, -4, 4, 5, 6, 7, 8)
}

// farSpots is spots that are too far, if only just, or in one of both numbers.
func farSpots() spots {
	list := pic(31, 0, -31, 0, 0, 31, 0, -31, 31, 31, -31, -31, 30, 31, -31, 30, 32, -30)
	for _, n := range extremes() {
		list = append(list, at(n, 0), at(0, n), at(n, n), at(n, 30), at(-30, n))
	}
	return append(list, at(math.MinInt, math.MaxInt), at(math.MaxInt, math.MinInt))
}

// endSpots is spots in the middle, beside each other, and at the ends both ways.
func endSpots() spots {
	return append(block(-2, -2, 5, 25), pic(30, 30, -30, 30, 30, -30, -30, -30, 30, 0, 0, 30, -30, 0, 0, -30,
		29, -30, -29, 28, 7, 11, -13, 17, 10, -20, 15, 15, -3, 4)...)
}

// ballPictures is pictures of which many may grow by a ball, and of which some go beyond the ends or have too many spots.
func ballPictures() []spots {
	list := append(sumPictures(),
		pic(30, 30), pic(-30, -30), pic(29, 0), pic(0, -29), pic(28, -28), pic(-27, 27), pic(26, 27), pic(-27, -26), pic(0, 28),
		row(-9, 0, 18), row(-9, 0, 19), row(-9, 0, 20), column(0, -10, 17), column(5, -10, 18), block(-3, -3, 5, 25), block(-3, -3, 6, 36),
		block(0, 0, 10, 60), row(-30, 30, 60), pic(-9, -9, 9, -9, -9, 9, 9, 9), pic(-3, 0, 3, 0), pic(0, -2, 0, 2))
	return append(list, samplePictures()...)
}

// Promise 16.

func TestDistancesAreSteps(t *testing.T) {
	all := block(-30, -30, 61, 61*61)
	for way := range impl.Ways {
		for _, a := range endSpots() {
			for _, b := range all {
				want := stepsBetween(a, b, way)
				if got := impl.DistanceOf(a, b, way); got != want {
					t.Fatalf("from %v to %v in the way %d: %d, want %d", a, b, way, got, want)
				}
				if got := impl.DistanceOf(b, a, way); got != want {
					t.Fatalf("from %v back to %v in the way %d: %d, want %d", b, a, way, got, want)
				}
			}
		}
	}
}

func TestAFewDistances(t *testing.T) {
	for _, c := range []struct {
		what string
		b    impl.Spot
		want [3]int
	}{
		{"the same spot", at(0, 0), [3]int{0, 0, 0}},
		{"on the right", at(1, 0), [3]int{1, 1, 1}},
		{"below", at(0, -1), [3]int{1, 1, 1}},
		{"aslant, 4 thirds", at(1, 1), [3]int{2, 1, 2}},
		{"2 and 1, 6 thirds", at(-2, 1), [3]int{3, 2, 2}},
		{"2 and 2, 8 thirds", at(2, -2), [3]int{4, 2, 3}},
		{"3 and 1, 8 thirds", at(3, 1), [3]int{4, 3, 3}},
		{"3 and 2, 10 thirds", at(-3, -2), [3]int{5, 3, 4}},
		{"3 and 3, 12 thirds", at(3, 3), [3]int{6, 3, 4}},
		{"4 and 1, 10 thirds", at(1, -4), [3]int{5, 4, 4}},
		{"4 and 2, 12 thirds", at(4, 2), [3]int{6, 4, 4}},
		{"4 and 3, 14 thirds", at(3, 4), [3]int{7, 4, 5}},
		{"a row", at(30, 0), [3]int{30, 30, 30}},
		{"a column", at(0, -30), [3]int{30, 30, 30}},
		{"30 and 14, 88 thirds", at(30, 14), [3]int{44, 30, 30}},
		{"30 and 15, 90 thirds", at(-30, 15), [3]int{45, 30, 30}},
		{"30 and 16, 92 thirds", at(30, -16), [3]int{46, 30, 31}},
		{"the end", at(-30, 30), [3]int{60, 30, 40}},
		{"beside the end", at(29, 30), [3]int{59, 30, 40}},
		{"two beside the end", at(30, 28), [3]int{58, 30, 39}},
	} {
		for way, want := range c.want {
			if got := impl.DistanceOf(at(0, 0), c.b, way); got != want {
				t.Errorf("%s in the way %d: %d, want %d", c.what, way, got, want)
			}
		}
	}
	for way, want := range []int{120, 60, 80} {
		if got := impl.DistanceOf(at(-30, 30), at(30, -30), way); got != want {
			t.Errorf("from end to end in the way %d: %d, want %d", way, got, want)
		}
	}
}

func TestEqualSpotsAreNotApart(t *testing.T) {
	for way := range impl.Ways {
		for _, a := range block(-30, -30, 61, 61*61) {
			if got := impl.DistanceOf(a, a, way); got != 0 {
				t.Fatalf("from %v to itself in the way %d: %d", a, way, got)
			}
			if got := impl.DistanceOf(a, at(7, -9), way); (got == 0) != (a == at(7, -9)) {
				t.Fatalf("from %v to another spot in the way %d: %d", a, way, got)
			}
		}
	}
}

func TestNoWayRoundIsShorter(t *testing.T) {
	list := endSpots()
	for way := range impl.Ways {
		for _, a := range list {
			for _, b := range list {
				direct := impl.DistanceOf(a, b, way)
				for _, c := range list {
					if round := impl.DistanceOf(a, c, way) + impl.DistanceOf(c, b, way); round < direct {
						t.Fatalf("from %v to %v in the way %d: %d, over %v %d", a, b, way, direct, c, round)
					}
				}
			}
		}
	}
}

func TestWaysAreInOrder(t *testing.T) {
	for _, a := range endSpots() {
		for _, b := range block(-30, -30, 61, 61*61) {
			least, between, most := impl.DistanceOf(a, b, 1), impl.DistanceOf(a, b, 2), impl.DistanceOf(a, b, 0)
			if least > between || between > most {
				t.Fatalf("from %v to %v: %d, %d, %d", a, b, least, between, most)
			}
		}
	}
}

func TestInvalidDistances(t *testing.T) {
	for way := range impl.Ways {
		for _, far := range farSpots() {
			for _, a := range append(pic(0, 0, 30, 30, -30, -30, 30, 0), far) {
				if got := impl.DistanceOf(far, a, way); got != -1 {
					t.Fatalf("from %v to %v in the way %d: %d", far, a, way, got)
				}
				if got := impl.DistanceOf(a, far, way); got != -1 {
					t.Fatalf("from %v to %v in the way %d: %d", a, far, way, got)
				}
			}
		}
	}
	for _, way := range noWays() {
		for _, a := range pic(0, 0, 30, 30, -31, 0, math.MinInt, math.MaxInt) {
			for _, b := range pic(0, 0, 1, 2, 31, 31) {
				if got := impl.DistanceOf(a, b, way); got != -1 {
					t.Fatalf("from %v to %v in the way %d: %d", a, b, way, got)
				}
			}
		}
	}
}

// Promise 17.

func TestBallsAreDrawn(t *testing.T) {
	king := []string{"#", "### ### ###", "##### ##### ##### ##### #####", strings.Repeat("####### ", 7)}
	for way, balls := range [][]string{
		{"#", ".#. ### .#.", "..#.. .###. ##### .###. ..#..", "...#... ..###.. .#####. ####### .#####. ..###.. ...#..."},
		king,
		{"#", ".#. ### .#.", ".###. ##### ##### ##### .###.", "..###.. .#####. ####### ####### ####### .#####. ..###.."},
	} {
		for radius, rows := range balls {
			wantPicture(t, "ball of the radius "+decimal(radius)+" in the way "+decimal(way), impl.BallOf(radius, way), drawn(rows))
		}
	}
}

func TestBallsAreAllThatIsNear(t *testing.T) {
	eachBall(func(radius, way int) {
		ball := impl.BallOf(radius, way)
		for _, a := range block(-30, -30, 61, 61*61) {
			near := stepsBetween(a, at(0, 0), way) <= radius
			if slices.Contains(ball, a) != near || impl.HasSpot(ball, a) != near {
				t.Fatalf("the ball of %d in the way %d, %v: near is %v", radius, way, a, near)
			}
		}
	})
}

func TestBallsAreTheSameTurned(t *testing.T) {
	eachBall(func(radius, way int) {
		ball := impl.BallOf(radius, way)
		if !impl.PictureOk(ball) || !impl.HasSpot(ball, at(0, 0)) {
			t.Fatalf("the ball of %d in the way %d: %v", radius, way, ball)
		}
		wantPicture(t, "turned ball", impl.TurnedOf(ball), ball)
		if radius == impl.MaxRadius {
			return
		}
		more := impl.BallOf(radius+1, way)
		if !impl.WithinOk(ball, more) || impl.WithinOk(more, ball) {
			t.Fatalf("the ball of %d in the way %d, and the next one: %v", radius, way, more)
		}
		if way < 2 {
			sum, ok := impl.SumOf(ball, impl.BallOf(1, way))
			wantTold(t, "ball summed with that of 1", sum, ok, more)
		}
	})
}

func TestBallsOfTheRadiusZeroAreOneSpot(t *testing.T) {
	for way := range impl.Ways {
		wantPicture(t, "ball of the radius 0", impl.BallOf(0, way), pic(0, 0))
	}
}

func TestInvalidBalls(t *testing.T) {
	refused := func(radius, way int) {
		t.Helper()
		if ball := impl.BallOf(radius, way); len(ball) != 0 {
			t.Fatalf("the ball of %d in the way %d: %v", radius, way, ball)
		}
		if n := impl.CountBall(radius, way); n != -1 {
			t.Fatalf("the ball of %d in the way %d is counted: %d", radius, way, n)
		}
		for _, p := range []spots{nil, {}, pic(0, 0), pic(30, 30), row(0, 0, 3), block(0, 0, 10, 60)} {
			grown, ok := impl.GrownBall(p, radius, way)
			wantNone(t, "grown by no ball", grown, ok)
		}
	}
	for _, radius := range noRadii() {
		for way := range impl.Ways {
			refused(radius, way)
		}
		for _, way := range noWays() {
			refused(radius, way)
		}
	}
	for _, way := range noWays() {
		for radius := range impl.MaxRadius + 1 {
			refused(radius, way)
		}
	}
}

// Promise 18.

func TestFarFromTheNearestSpot(t *testing.T) {
	for _, p := range ballPictures() {
		in := setOf(p)
		for way := range impl.Ways {
			if len(p) == 0 {
				continue
			}
			for y := -30; y <= 30; y += 3 {
				for x := -30; x <= 30; x++ {
					a, want := at(x, y), 1000
					for _, b := range p {
						want = min(want, stepsBetween(a, b, way))
					}
					got := impl.FarFrom(p, a, way)
					if got != want || (got == 0) != in[a] || (got == 0) != impl.HasSpot(p, a) {
						t.Fatalf("%v from %v in the way %d: %d, want %d", a, p, way, got, want)
					}
				}
			}
		}
	}
}

func TestBesideASpotItIsOneMoreOrLess(t *testing.T) {
	for _, p := range []spots{pic(0, 0), pic(30, -30), pic(-30, 0, 30, 0), pic(-4, 1, 3, 2, 0, 9), block(-5, -3, 10, 60), row(-30, -30, 60), scattered(9, 30)[8]} {
		for way := range impl.Ways {
			for _, a := range block(-30, -30, 60, 60*61) {
				here, beside := impl.FarFrom(p, a, way), impl.FarFrom(p, at(a.X+1, a.Y), way)
				if beside > here+1 || beside < here-1 || here < 0 || beside < 0 {
					t.Fatalf("%v from %v in the way %d: %d, and on the right of it %d", a, p, way, here, beside)
				}
			}
		}
	}
}

func TestAFewAreFar(t *testing.T) {
	for _, c := range []struct {
		what string
		p    spots
		a    impl.Spot
		want [3]int
	}{
		{"the spot itself", pic(4, 4), at(4, 4), [3]int{0, 0, 0}},
		{"one spot, aslant", pic(4, 4), at(2, 6), [3]int{4, 2, 3}},
		{"the nearest one is the last", pic(-9, 0, 0, 0, 4, 0), at(3, 1), [3]int{2, 1, 2}},
		{"the nearest one is the first", pic(3, -2, -9, 0, 9, 5), at(4, -2), [3]int{1, 1, 1}},
		{"the nearest one is in between", pic(-9, -9, 1, 1, 9, 9), at(0, 3), [3]int{3, 2, 2}},
		{"another one is the nearest in each way", pic(5, 0, 3, 3), at(0, 0), [3]int{5, 3, 4}},
		{"in a hole", pic(0, 0, 1, 0, 2, 0, 0, 1, 2, 1, 0, 2, 1, 2, 2, 2), at(1, 1), [3]int{1, 1, 1}},
		{"from end to end", pic(-30, -30), at(30, 30), [3]int{120, 60, 80}},
		{"from end to end along a row", pic(30, 30), at(-30, 30), [3]int{60, 60, 60}},
		{"60 spots", row(-30, 30, 60), at(30, -30), [3]int{61, 60, 60}},
	} {
		for way, want := range c.want {
			if got := impl.FarFrom(c.p, c.a, way); got != want {
				t.Errorf("%s in the way %d: %d, want %d", c.what, way, got, want)
			}
		}
	}
}

func TestNothingIsNearNothing(t *testing.T) {
	for _, none := range []spots{nil, {}, make(spots, 0, 9)} {
		for _, a := range append(endSpots(), farSpots()...) {
			for _, way := range append(noWays(), 0, 1, 2) {
				if got := impl.FarFrom(none, a, way); got != -1 {
					t.Fatalf("%v from the empty picture in the way %d: %d", a, way, got)
				}
			}
		}
	}
}

func TestInvalidFarFrom(t *testing.T) {
	refused := func(what string, p spots, a impl.Spot, way int) {
		t.Helper()
		if got := impl.FarFrom(p, a, way); got != -1 {
			t.Fatalf("%s: %v from %v in the way %d: %d", what, a, p, way, got)
		}
	}
	for way := range impl.Ways {
		for what, bad := range invalid() {
			refused(what, bad, at(0, 0), way)
			refused(what, bad, at(30, 30), way)
			refused(what, bad, bad[0], way)
		}
		for _, far := range farSpots() {
			refused("too far", pic(0, 0), far, way)
			refused("too far", pic(-30, -30, 30, 30), far, way)
			refused("too far", spots{far}, far, way)
		}
	}
	for _, way := range noWays() {
		refused("no way", pic(0, 0), at(0, 0), way)
		refused("no way", block(0, 0, 10, 60), at(30, -30), way)
	}
}

// Promise 19.

func TestGrownByABallIsAllThatIsNear(t *testing.T) {
	told, refused := 0, 0
	for _, p := range ballPictures() {
		eachBall(func(radius, way int) {
			want, ok := grownSet(p, radius, way)
			grown, isTold := impl.GrownBall(p, radius, way)
			wantIfTold(t, "grown by the ball of "+decimal(radius)+" in the way "+decimal(way), grown, isTold, want, ok)
			if !ok {
				refused++
				return
			}
			if len(p) > 0 && radius > 0 {
				told++
			}
			for _, a := range block(-9, -9, 19, 19*19) {
				far := impl.FarFrom(p, a, way)
				if near := far >= 0 && far <= radius; near != impl.HasSpot(grown, a) {
					t.Fatalf("%v grown by the ball of %d in the way %d is %v, but %v is as far as %d", p, radius, way, grown, a, far)
				}
			}
		})
	}
	if told < 100 || refused < 100 {
		t.Fatalf("only %d are told, and %d are not", told, refused)
	}
}

func TestSmallPicturesGrow(t *testing.T) {
	for _, corner := range pic(0, 0, -1, 0, -29, 28, 26, -29) {
		for _, p := range subsets(corner.X, corner.Y) {
			eachBall(func(radius, way int) {
				want, ok := grownSet(p, radius, way)
				grown, isTold := impl.GrownBall(p, radius, way)
				wantIfTold(t, "small one grown", grown, isTold, want, ok)
			})
		}
	}
}

func TestGrownByTheRadiusZeroItIsThePicture(t *testing.T) {
	list := append(ballPictures(), pic(30, 30), pic(-30, -30), row(-30, 30, 60), column(-30, -30, 60), block(-30, -30, 61, 60))
	for _, p := range list {
		for way := range impl.Ways {
			grown, ok := impl.GrownBall(p, 0, way)
			wantTold(t, "grown by the radius 0", grown, ok, p)
		}
	}
}

func TestOneSpotGrowsToABall(t *testing.T) {
	eachBall(func(radius, way int) {
		grown, ok := impl.GrownBall(pic(0, 0), radius, way)
		wantTold(t, "0, 0 grown", grown, ok, impl.BallOf(radius, way))
	})
}

func TestTheEmptyPictureGrowsToNothing(t *testing.T) {
	for _, none := range []spots{nil, {}, make(spots, 0, 9)} {
		eachBall(func(radius, way int) {
			grown, ok := impl.GrownBall(none, radius, way)
			wantTold(t, "the empty picture grown", grown, ok, nil)
		})
	}
}

func TestGrowingAtTheEnds(t *testing.T) {
	eachBall(func(radius, way int) {
		for far := 25; far <= 30; far++ {
			for _, a := range pic(far, 0, -far, 0, 0, far, 0, -far, far, far, -far, far, far, -far, -far, -far) {
				for _, p := range []spots{{a}, pictureOf(setOf(spots{a, at(0, 0)}))} {
					want, told := grownSet(p, radius, way)
					if len(p) == 1 && told != (far+radius <= 30) {
						t.Fatalf("%v may grow by %d: %v", p, radius, told)
					}
					grown, ok := impl.GrownBall(p, radius, way)
					wantIfTold(t, "grown at the end", grown, ok, want, told)
				}
			}
		}
	})
}

func TestGrowingToSixtySpots(t *testing.T) {
	var gapped spots
	for i := range 20 {
		gapped = append(gapped, at(3*(i%10)-14, 3*(i/10)))
	}
	sixtyOne := pic(0, 0, 1, 0, 5, 0, 6, 0, 10, 0, 13, 0, 16, 0, 19, 0, 22, 0, 25, 0, 28, 0, 0, 3, 3, 3)
	for _, c := range []struct {
		what        string
		p           spots
		radius, way int
		want        int
	}{
		{"12 spots that are apart, way 0", gapped[:12], 1, 0, 60},
		{"12 spots that are apart, way 2", gapped[:12], 1, 2, 60},
		{"13 spots that are apart, way 0", gapped[:13], 1, 0, -1},
		{"13 spots that are apart, way 2", gapped[:13], 1, 2, -1},
		{"one too many, way 0", sixtyOne, 1, 0, -1},
		{"without one of these", sixtyOne[:12], 1, 0, 56},
		{"a row of 18, way 1", row(-9, 0, 18), 1, 1, 60},
		{"a row of 19, way 1", row(-9, 0, 19), 1, 1, -1},
		{"a row of 19, way 0", row(-9, 0, 19), 1, 0, 59},
		{"a row of 20, way 0", row(-9, 0, 20), 1, 0, -1},
		{"one spot, the greatest square", pic(0, 0), 3, 1, 49},
		{"two spots, the greatest square", row(0, 0, 2), 3, 1, 56},
		{"three spots, the greatest square", row(0, 0, 3), 3, 1, -1},
		{"60 spots", block(0, 0, 10, 60), 1, 0, -1},
		{"60 spots, the radius 0", block(0, 0, 10, 60), 0, 0, 60},
	} {
		grown, ok := impl.GrownBall(c.p, c.radius, c.way)
		if c.want < 0 {
			wantNone(t, c.what, grown, ok)
		} else if !ok || len(grown) != c.want {
			t.Fatalf("%s: %d spots, %v", c.what, len(grown), ok)
		}
	}
}

func TestNoPicturesGrow(t *testing.T) {
	for what, bad := range invalid() {
		eachBall(func(radius, way int) {
			grown, ok := impl.GrownBall(bad, radius, way)
			wantNone(t, what, grown, ok)
		})
		grown, ok := impl.GrownBall(bad, -1, 3)
		wantNone(t, what+", by no ball", grown, ok)
	}
}

// Promise 20. The arguments that are not valid are those of TestInvalidBalls.

func TestBallsAreCounted(t *testing.T) {
	for way, counts := range [][4]int{{1, 5, 13, 25}, {1, 9, 25, 49}, {1, 5, 21, 37}} {
		for radius, want := range counts {
			if got := impl.CountBall(radius, way); got != want || got != len(impl.BallOf(radius, way)) {
				t.Errorf("the ball of %d in the way %d: %d, want %d", radius, way, got, want)
			}
		}
	}
}

func TestBallsAreCountedBySquares(t *testing.T) {
	for r := range impl.MaxRadius + 1 {
		least, most := impl.CountBall(r, 0), impl.CountBall(r, 1)
		if least != r*r+(r+1)*(r+1) || most != (2*r+1)*(2*r+1) {
			t.Fatalf("the balls of %d: %d and %d", r, least, most)
		}
		if between := impl.CountBall(r, 2); between < least || between > most {
			t.Fatalf("the ball of %d in the way 2: %d is not between %d and %d", r, between, least, most)
		}
	}
}

// The general rules: arguments are not written to, results are new, and nothing is kept from call to call.

func TestBallsShareNoMemory(t *testing.T) {
	eachBall(func(radius, way int) {
		checkMemory(t, "BallOf", func([]spots) spots { return impl.BallOf(radius, way) })
		for _, p := range append(ballPictures()[:40], block(0, 0, 10, 60), pic(1, 0, 0, 0)) {
			checkMemory(t, "GrownBall", func(args []spots) spots {
				grown, _ := impl.GrownBall(args[0], radius, way)
				return grown
			}, p)
			checkMemory(t, "FarFrom", func(args []spots) spots {
				return pic(impl.FarFrom(args[0], at(radius, -3), way), 0)
			}, p)
		}
	})
}

func TestAChangedBallChangesNoOtherOne(t *testing.T) {
	eachBall(func(radius, way int) {
		scribble(impl.BallOf(radius, way))
	})
	eachBall(func(radius, way int) {
		want, _ := grownSet(pic(0, 0), radius, way)
		wantPicture(t, "ball after changes", impl.BallOf(radius, way), want)
		if got := impl.CountBall(radius, way); got != len(want) {
			t.Fatalf("the ball of %d in the way %d is counted after changes: %d", radius, way, got)
		}
		grown, ok := impl.GrownBall(pic(2, 5), radius, way)
		want, _ = grownSet(pic(2, 5), radius, way)
		wantTold(t, "grown after changes", grown, ok, want)
		scribble(grown)
	})
}

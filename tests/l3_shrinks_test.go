package tests

import (
	"slices"
	"testing"

	"loop.example/growingpictures/impl"
)

// shrunkSet tells by sets what is left of a picture that another one shrinks, and whether it is told.
func shrunkSet(p, q spots) (spots, bool) {
	if len(q) == 0 {
		return nil, false
	}
	in, left := setOf(p), map[impl.Spot]bool{}
	for _, c := range p {
		a, all := at(c.X-q[0].X, c.Y-q[0].Y), true
		for _, b := range q {
			all = all && in[at(a.X+b.X, a.Y+b.Y)]
		}
		if all {
			left[a] = true
		}
	}
	for a := range left {
		if a.X < -30 || a.X > 30 || a.Y < -30 || a.Y > 30 {
			return nil, false
		}
	}
	return pictureOf(left), true
}

func grownShrunkSet(p, q spots) (spots, bool) {
	grown, told := sumSet(p, q)
	if !told {
		return nil, false
	}
	return shrunkSet(grown, q)
}

func shrunkGrownSet(p, q spots) (spots, bool) {
	shrunk, told := shrunkSet(p, q)
	if !told {
		return nil, false
	}
	return sumSet(shrunk, q)
}

func checkShrunk(t *testing.T, p, q spots) {
	t.Helper()
	want, told := shrunkSet(p, q)
	got, ok := impl.ShrunkBy(p, q)
	wantIfTold(t, "shrunk", got, ok, want, told)
}

// checkBothWays holds what is grown and shrunk, and shrunk and grown, against sets, and against the promises 13 and 14.
func checkBothWays(t *testing.T, p, q spots) {
	t.Helper()
	want, told := grownShrunkSet(p, q)
	got, ok := impl.GrownShrunk(p, q)
	wantIfTold(t, "grown and shrunk", got, ok, want, told)
	if ok {
		again, ok := impl.GrownShrunk(got, q)
		wantTold(t, "grown and shrunk again", again, ok, got)
		if !impl.WithinOk(p, got) {
			t.Fatalf("%v is not within %v, grown and shrunk by %v", p, got, q)
		}
	}
	want, told = shrunkGrownSet(p, q)
	got, ok = impl.ShrunkGrown(p, q)
	wantIfTold(t, "shrunk and grown", got, ok, want, told)
	if ok {
		again, ok := impl.ShrunkGrown(got, q)
		wantTold(t, "shrunk and grown again", again, ok, got)
		if !impl.WithinOk(got, p) {
			t.Fatalf("%v, shrunk and grown by %v, is not within %v", got, q, p)
		}
	}
}

// checkFits asks of each spot that may be one, and of those beside, whether a picture fits there; promise 15.
func checkFits(t *testing.T, p, q spots) {
	t.Helper()
	left, told := shrunkSet(p, q)
	in := setOf(left)
	for y := -32; y <= 32; y++ {
		for x := -32; x <= 32; x++ {
			a := at(x, y)
			got := impl.FitsAt(p, q, a)
			if got != (told && in[a]) {
				t.Fatalf("%v fits into %v at %v: %v", q, p, a, got)
			}
			moved, ok := impl.MovedBy(q, a)
			if told && ok && got != impl.WithinOk(moved, p) {
				t.Fatalf("%v fits into %v at %v: %v, but moved it is %v", q, p, a, got, moved)
			}
		}
	}
}

func wantShrunk(t *testing.T, what string, p, q, want spots) {
	t.Helper()
	got, ok := impl.ShrunkBy(p, q)
	wantTold(t, what, got, ok, want)
}

// wantNotShrunk takes a picture of which no shrinking is told, so that nothing fits and nothing shrinks and grows.
func wantNotShrunk(t *testing.T, what string, p, q spots) {
	t.Helper()
	got, ok := impl.ShrunkBy(p, q)
	wantNone(t, what, got, ok)
	got, ok = impl.ShrunkGrown(p, q)
	wantNone(t, what+", shrunk and grown", got, ok)
	for _, a := range append(pic(0, 0, 1, 0, -1, 0, 5, 0, -5, 0), p...) {
		if impl.FitsAt(p, q, a) {
			t.Fatalf("%s: fits at %v", what, a)
		}
	}
}

// shrinkPictures is pictures of which many are within others.
func shrinkPictures() []spots {
	list := append(sumPictures(),
		block(0, 0, 10, 60), block(-5, -2, 12, 60), block(-30, -30, 10, 60), block(21, 25, 10, 60),
		row(-30, 30, 60), row(-29, -30, 60), column(30, -30, 60), column(-30, -29, 60),
		pic(0, 0, 1, 0, 2, 0, 0, 1, 2, 1, 0, 2, 1, 2, 2, 2), pic(-1, -1, 1, -1, 0, 0, -1, 1, 1, 1))
	return append(list, scattered(6, 3)...)
}

// Promise 12.

func TestShrunkSmallPictures(t *testing.T) {
	for _, corner := range pic(0, 0, -1, 0, -30, -30, 28, 29, -30, 29, 28, -30) {
		for _, p := range subsets(corner.X, corner.Y) {
			for _, other := range pic(0, 0, -1, -1, corner.X, corner.Y) {
				for _, q := range subsets(other.X, other.Y) {
					checkShrunk(t, p, q)
				}
			}
		}
	}
}

func TestShrunkGreaterPictures(t *testing.T) {
	pairs(append(shrinkPictures(), samplePictures()...), func(p, q spots) { checkShrunk(t, p, q) })
}

func TestGrowingAndShrinkingBelongTogether(t *testing.T) {
	list := append(shrinkPictures()[20:], subsets(0, 0)[20:40]...)
	list = append(list, nil, row(0, 0, 2), column(0, 0, 2), row(-29, 0, 59), block(-4, -4, 8, 60))
	within, outside := 0, 0
	for _, q := range list {
		grown := make([]spots, len(list))
		told := make([]bool, len(list))
		for i, r := range list {
			grown[i], told[i] = impl.SumOf(r, q)
		}
		for _, p := range list {
			shrunk, ok := impl.ShrunkBy(p, q)
			for i, r := range list {
				if !ok || !told[i] {
					continue
				}
				is := impl.WithinOk(grown[i], p)
				if is != impl.WithinOk(r, shrunk) {
					t.Fatalf("%v grown by %v within %v: %v, but shrunk it is %v", r, q, p, is, shrunk)
				}
				if is && len(r) > 0 {
					within++
				} else if !is {
					outside++
				}
			}
		}
	}
	if within < 1000 || outside < 1000 {
		t.Fatalf("only %d are within, and %d are not", within, outside)
	}
}

func TestWithAnySpotMoreAtLeastAsMuchIsLeft(t *testing.T) {
	list := append(shrinkPictures(), subsets(0, 0)[20:40]...)
	pairs(list, func(p, q spots) {
		less, ok := impl.ShrunkBy(p, q)
		if !ok {
			return
		}
		for _, a := range append(block(-2, -2, 5, 25), pic(30, 30, -30, -30, 12, 0)...) {
			more, ok := impl.UnionOf(p, spots{a})
			if !ok {
				continue
			}
			left, ok := impl.ShrunkBy(more, q)
			if ok && !impl.WithinOk(less, left) {
				t.Fatalf("%v shrunk by %v is %v, with %v more it is %v", p, q, less, a, left)
			}
		}
	})
}

func TestShrunkBySumsIsShrunkTwice(t *testing.T) {
	list := append(shrinkPictures()[20:], pic(0, 0), pic(1, 2), row(0, 0, 2), column(0, 0, 2), block(0, 0, 2, 4))
	told := 0
	pairs(list, func(q, r spots) {
		sum, ok := impl.SumOf(q, r)
		if !ok {
			return
		}
		for _, p := range list {
			once, ok := impl.ShrunkBy(p, q)
			if !ok {
				continue
			}
			twice, twiceOk := impl.ShrunkBy(once, r)
			both, bothOk := impl.ShrunkBy(p, sum)
			if twiceOk != bothOk || !same(twice, both) {
				t.Fatalf("%v shrunk by %v and %v: %v, by the sum %v", p, q, r, twice, both)
			}
			if len(both) > 0 {
				told++
			}
		}
	})
	if told < 100 {
		t.Fatalf("only %d are told and not empty", told)
	}
}

func TestWhatIsCommonShrinksToWhatIsCommon(t *testing.T) {
	list := shrinkPictures()
	pairs(list, func(p, r spots) {
		for _, q := range list {
			first, firstOk := impl.ShrunkBy(p, q)
			second, secondOk := impl.ShrunkBy(r, q)
			if !firstOk || !secondOk {
				continue
			}
			got, ok := impl.ShrunkBy(impl.CommonOf(p, r), q)
			wantTold(t, "what is common, shrunk", got, ok, impl.CommonOf(first, second))
		}
	})
}

func TestShrinkingTheEmptyPicture(t *testing.T) {
	for _, none := range []spots{nil, {}, make(spots, 0, 9)} {
		for _, q := range append(shrinkPictures(), samplePictures()...) {
			if len(q) == 0 {
				continue
			}
			wantShrunk(t, "none shrunk", none, q, nil)
			got, ok := impl.GrownShrunk(none, q)
			wantTold(t, "none grown and shrunk", got, ok, nil)
			got, ok = impl.ShrunkGrown(none, q)
			wantTold(t, "none shrunk and grown", got, ok, nil)
			for _, a := range append(pic(0, 0, 1, 2), q...) {
				if impl.FitsAt(none, q, a) {
					t.Fatalf("%v fits into none at %v", q, a)
				}
			}
		}
	}
}

func TestShrinkingByTheEmptyPicture(t *testing.T) {
	for _, none := range []spots{nil, {}, make(spots, 0, 9)} {
		for _, p := range append(shrinkPictures(), samplePictures()...) {
			wantNotShrunk(t, "shrunk by none", p, none)
			got, ok := impl.GrownShrunk(p, none)
			wantNone(t, "grown and shrunk by none", got, ok)
		}
	}
}

func TestShrinkingByOneSpotMoves(t *testing.T) {
	list := append(samplePictures(), pic(-30, 0, 4, 1), pic(0, -30, 0, 30), pic(-7, -7), pic(29, -30, -29, 30))
	for _, p := range list {
		for _, b := range append(block(-2, -2, 5, 25), pic(30, 0, -30, 0, 0, 30, 0, -30, 30, -30, -13, 17)...) {
			want, inside := movedInside(p, at(-b.X, -b.Y))
			if inside {
				wantShrunk(t, "shrunk by one spot", p, spots{b}, want)
			} else {
				wantNotShrunk(t, "shrunk by one spot too far", p, spots{b})
			}
			got, ok := impl.ShrunkGrown(p, spots{b})
			wantIfTold(t, "shrunk and grown by one spot", got, ok, p, inside)
		}
	}
}

func TestShrinkingAtTheEnds(t *testing.T) {
	for i := -30; i <= 30; i++ {
		for j := -30; j <= 30; j++ {
			inside := i-j >= -30 && i-j <= 30
			for _, two := range [][2]impl.Spot{{at(i, 0), at(j, 0)}, {at(0, i), at(0, j)}, {at(i, i), at(j, j)}, {at(i, -i), at(j, -j)}} {
				p, q := spots{two[0]}, spots{two[1]}
				want := pic(two[0].X-two[1].X, two[0].Y-two[1].Y)
				if !inside {
					wantNotShrunk(t, "one spot by one spot too far", p, q)
					continue
				}
				wantShrunk(t, "one spot by one spot", p, q, want)
				if !impl.FitsAt(p, q, want[0]) {
					t.Fatalf("%v does not fit into %v", q, p)
				}
			}
		}
	}
	wantNotShrunk(t, "one of two spots too far right", pic(0, 0, 30, 0), pic(-1, 0))
	wantNotShrunk(t, "one of two spots too far left", pic(-30, 0, 0, 0), pic(1, 0))
	wantNotShrunk(t, "one of two spots too far up", pic(0, 0, 0, 30), pic(0, -1))
	wantNotShrunk(t, "one of two spots too far down", pic(0, -30, 0, 0), pic(0, 1))
	wantNotShrunk(t, "too far in the middle", pic(0, 0, 30, 1, 0, 2), pic(-5, 0))
	wantNotShrunk(t, "too far by two spots", row(20, 0, 11), pic(-2, 0, -1, 0))
	wantShrunk(t, "just not too far by two spots", row(20, 0, 11), pic(0, 0, 1, 0), row(20, 0, 10))
	wantShrunk(t, "up to the end", row(20, 0, 11), pic(-1, 0, 0, 0), row(21, 0, 10))
	wantShrunk(t, "what would be too far is not left", pic(0, 0, 1, 0, 30, 0), pic(-5, 0, -4, 0), pic(5, 0))
}

func TestShrinkingByGreaterPictures(t *testing.T) {
	for _, c := range []struct {
		what string
		p, q spots
	}{
		{"a longer row", row(0, 0, 3), row(0, 0, 4)},
		{"a higher column", column(0, 0, 3), column(0, 0, 4)},
		{"a longer row, the farthest ones", row(27, 3, 4), row(-30, 3, 5)},
		{"a wider block of fewer spots", block(0, 0, 3, 30), row(0, 0, 4)},
		{"a higher one of fewer spots", block(0, 0, 30, 60), pic(0, 0, 0, 2)},
		{"60 spots into 59", block(0, 0, 10, 59), block(0, 0, 10, 60)},
		{"the same box, more spots", pic(0, 0, 2, 0, 0, 2, 2, 2), block(0, 0, 3, 9)},
		{"two spots into one", pic(4, 4), pic(0, 0, 1, 0)},
		{"the ends into a block", block(0, 0, 10, 60), pic(-30, -30, 30, 30)},
		{"another shape", pic(0, 0, 1, 0, 0, 1), pic(1, 0, 0, 1, 1, 1)},
	} {
		wantShrunk(t, c.what, c.p, c.q, nil)
		got, ok := impl.ShrunkGrown(c.p, c.q)
		wantTold(t, c.what+", shrunk and grown", got, ok, nil)
		checkFits(t, c.p, c.q)
	}
}

func TestShrinkingPicturesOfSixtySpots(t *testing.T) {
	full := block(0, 0, 10, 60)
	wantShrunk(t, "60 by themselves", full, full, pic(0, 0))
	wantShrunk(t, "60 by 0, 0", full, pic(0, 0), full)
	wantShrunk(t, "60 by the farthest spot", block(-30, -30, 10, 60), pic(-30, -30), full)
	wantShrunk(t, "10 by 6 by 2 by 2", full, block(0, 0, 2, 4), block(0, 0, 9, 45))
	wantShrunk(t, "10 by 6 by 3 by 3 about 0", full, block(-1, -1, 3, 9), block(1, 1, 8, 32))
	wantShrunk(t, "10 by 6 by a row", full, row(0, 0, 10), column(0, 0, 6))
	wantShrunk(t, "10 by 6 by its corners", full, pic(0, 0, 9, 0, 0, 5, 9, 5), pic(0, 0))
	wantShrunk(t, "a row of 60 by 30", row(-30, 0, 60), row(0, 0, 30), row(-30, 0, 31))
	wantShrunk(t, "a column of 60 by 30", column(3, -30, 60), column(3, 0, 30), column(0, -30, 31))
	wantShrunk(t, "a row of 60 by two that are 59 apart", row(-30, 0, 60), pic(-30, 0, 29, 0), pic(0, 0))
	for i := range full {
		less := slices.Delete(slices.Clone(full), i, i+1)
		wantShrunk(t, "60 by all but one", full, less, pic(0, 0))
		wantShrunk(t, "all but one by 60", less, full, nil)
	}
}

// Promises 13 and 14.

func TestSmallPicturesGrowAndShrink(t *testing.T) {
	for _, corner := range pic(0, 0, -30, -30, 28, 29, -15, 14) {
		for _, p := range subsets(corner.X, corner.Y) {
			for _, other := range pic(0, 0, -1, -1, 10, -12) {
				for _, q := range subsets(other.X, other.Y) {
					checkBothWays(t, p, q)
				}
			}
		}
	}
}

func TestGreaterPicturesGrowAndShrink(t *testing.T) {
	pairs(append(shrinkPictures(), samplePictures()...), func(p, q spots) { checkBothWays(t, p, q) })
}

func TestAFewGrowAndShrink(t *testing.T) {
	for _, c := range []struct {
		what       string
		p, q, want spots
	}{
		{"a gap is filled", pic(0, 0, 2, 0), row(0, 0, 2), row(0, 0, 3)},
		{"a gap that is too wide stays", pic(0, 0, 3, 0), row(0, 0, 2), pic(0, 0, 3, 0)},
		{"a gap in height is filled", pic(4, 4, 4, 6), column(0, 0, 3), column(4, 4, 3)},
		{"a hole is filled", pic(0, 0, 1, 0, 2, 0, 0, 1, 2, 1, 0, 2, 1, 2, 2, 2), block(0, 0, 2, 4), block(0, 0, 3, 9)},
		{"one spot is moved and moved back", pic(7, -3), pic(-20, 9), pic(7, -3)},
		{"the farthest ones", pic(28, 30, 30, 30), pic(-1, 0, 0, 0), row(28, 30, 3)},
		{"60 of one spot", block(0, 0, 10, 60), pic(1, 1), block(0, 0, 10, 60)},
	} {
		got, ok := impl.GrownShrunk(c.p, c.q)
		wantTold(t, c.what, got, ok, c.want)
	}
	for _, c := range []struct {
		what string
		p, q spots
	}{
		{"more than 60 on the way", block(0, 0, 10, 60), row(0, 0, 2)},
		{"more than 60 of two", row(0, 0, 31), pic(0, 0, 0, 9)},
		{"too far on the way", pic(30, 0), pic(1, 0)},
		{"one spot too far on the way", pic(0, 0, 30, 0), pic(0, 0, 1, 0)},
		{"too far up on the way", pic(0, 30), pic(0, 0, 0, 1)},
	} {
		got, ok := impl.GrownShrunk(c.p, c.q)
		wantNone(t, c.what, got, ok)
	}
}

func TestAFewShrinkAndGrow(t *testing.T) {
	for _, c := range []struct {
		what       string
		p, q, want spots
	}{
		{"a lone spot goes", pic(0, 0, 1, 0, 3, 0), row(0, 0, 2), row(0, 0, 2)},
		{"a row goes from a block", append(block(0, 0, 2, 4), pic(0, 2)...), block(0, 0, 2, 4), block(0, 0, 2, 4)},
		{"two blocks stay", pic(0, 0, 1, 0, 5, 0, 6, 0, 0, 1, 1, 1, 5, 1, 6, 1), block(0, 0, 2, 4), pic(0, 0, 1, 0, 5, 0, 6, 0, 0, 1, 1, 1, 5, 1, 6, 1)},
		{"what grows on another place", row(10, 10, 4), row(-5, 3, 2), row(10, 10, 4)},
		{"the farthest ones", row(27, 30, 4), row(0, 0, 3), row(27, 30, 4)},
		{"nothing is left", pic(0, 0, 2, 0, 4, 0), row(0, 0, 2), nil},
		{"60 by a block", block(0, 0, 10, 60), block(0, 0, 5, 15), block(0, 0, 10, 60)},
		{"60 in rows of 11", block(0, 0, 11, 60), block(0, 0, 11, 33), block(0, 0, 11, 55)},
		{"60 by themselves, moved", block(0, 0, 10, 60), block(5, -9, 10, 60), block(0, 0, 10, 60)},
	} {
		got, ok := impl.ShrunkGrown(c.p, c.q)
		wantTold(t, c.what, got, ok, c.want)
	}
	got, ok := impl.ShrunkGrown(pic(30, 0), pic(-1, 0))
	wantNone(t, "too far on the way", got, ok)
	got, ok = impl.ShrunkGrown(row(-30, -30, 5), pic(1, 1, 2, 1))
	wantNone(t, "too far down on the way", got, ok)
}

// Promise 15.

func TestWhatFitsIsWithinMoved(t *testing.T) {
	list := []spots{
		nil, pic(0, 0), pic(1, 2), pic(-30, 30), pic(-15, -15, 15, 15), pic(0, 0, 1, 0, 3, 0), row(0, 0, 3), column(2, -3, 4),
		block(0, 0, 2, 4), block(-2, -2, 3, 9), block(0, 0, 10, 60), block(21, 25, 10, 60), row(-30, 30, 60), column(30, -30, 60),
	}
	list = append(list, subsets(28, 29)[60:64]...)
	pairs(list, func(p, q spots) { checkFits(t, p, q) })
}

func TestNothingFitsIfTheShrunkOneIsNotTold(t *testing.T) {
	p, q := pic(0, 0, 30, 0), pic(-5, 0)
	moved, ok := impl.MovedBy(q, at(5, 0))
	if !ok || !impl.WithinOk(moved, p) {
		t.Fatal("moved it is within")
	}
	if impl.FitsAt(p, q, at(5, 0)) || impl.FitsAt(p, q, at(35, 0)) {
		t.Fatal("fits, but the shrunk one is not told")
	}
	if !impl.FitsAt(p[:1], q, at(5, 0)) {
		t.Fatal("does not fit without the spot that is too far")
	}
}

func TestNothingFitsTooFar(t *testing.T) {
	for _, p := range []spots{nil, pic(0, 0), pic(-30, -30), pic(30, 30), row(-30, 0, 60), block(0, 0, 10, 60)} {
		for _, q := range []spots{nil, pic(0, 0), pic(30, 30), pic(-30, -30), pic(0, 0, 1, 0)} {
			for _, n := range extremes() {
				for _, a := range []impl.Spot{at(n, 0), at(0, n), at(n, n), at(n, -30), at(30, n)} {
					if impl.FitsAt(p, q, a) {
						t.Fatalf("%v fits into %v at %v", q, p, a)
					}
				}
			}
		}
	}
}

// Arguments that are not valid.

func TestInvalidShrinks(t *testing.T) {
	good := []spots{nil, {}, pic(0, 0), pic(-1, -1), pic(0, 0, 1, 0), pic(-30, -30), pic(30, 30), block(0, 0, 10, 60)}
	for what, bad := range invalid() {
		for _, p := range append(good, bad) {
			for _, two := range [][2]spots{{p, bad}, {bad, p}} {
				wantNotShrunk(t, what, two[0], two[1])
				got, ok := impl.GrownShrunk(two[0], two[1])
				wantNone(t, "grown and shrunk: "+what, got, ok)
				for _, n := range extremes() {
					if impl.FitsAt(two[0], two[1], at(n, n)) {
						t.Fatalf("%s: fits at %d", what, n)
					}
				}
			}
		}
	}
}

// The general rules: arguments are not written to, and results are new.

func TestShrinksShareNoMemory(t *testing.T) {
	list := []spots{nil, pic(0, 0), pic(1, 0), pic(0, 0, 1, 0), pic(-3, -3, 4, -3, 0, 2), row(0, 0, 30), block(0, 0, 3, 18), block(0, 0, 10, 60)}
	for _, bad := range invalid() {
		list = append(list, bad)
	}
	pairs(list, func(p, q spots) {
		for what, call := range map[string]func(p, q spots) (spots, bool){
			"ShrunkBy":    impl.ShrunkBy,
			"GrownShrunk": impl.GrownShrunk,
			"ShrunkGrown": impl.ShrunkGrown,
			"FitsAt":      func(p, q spots) (spots, bool) { return nil, impl.FitsAt(p, q, at(1, 0)) },
		} {
			checkMemory(t, what, func(args []spots) spots {
				left, _ := call(args[0], args[1])
				return left
			}, p, q)
		}
	})
}

func TestShrinksOfPartsOfOneSlice(t *testing.T) {
	backing := block(-3, 0, 7, 60)
	p, q := backing[:28], backing[3:9]
	for _, two := range [][2]spots{{p, q}, {slices.Clip(p), slices.Clip(q)}, {q, p}, {p, p}, {q, q}} {
		checkShrunk(t, two[0], two[1])
		checkBothWays(t, two[0], two[1])
		checkFits(t, two[0], two[1])
	}
}

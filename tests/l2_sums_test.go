package tests

import (
	"slices"
	"testing"

	"loop.example/growingpictures/impl"
)

// sumSet tells by sets what the sum of two pictures is, and whether it is a picture.
func sumSet(p, q spots) (spots, bool) {
	set := map[impl.Spot]bool{}
	for _, a := range p {
		for _, b := range q {
			set[at(a.X+b.X, a.Y+b.Y)] = true
		}
	}
	for a := range set {
		if a.X < -30 || a.X > 30 || a.Y < -30 || a.Y > 30 {
			return nil, false
		}
	}
	return pictureOf(set), len(set) <= 60
}

// wantIfTold takes a result for one that is told, or for none.
func wantIfTold(t *testing.T, what string, got spots, ok bool, want spots, told bool) {
	t.Helper()
	if told {
		wantTold(t, what, got, ok, want)
	} else {
		wantNone(t, what, got, ok)
	}
}

func checkSum(t *testing.T, p, q spots) {
	t.Helper()
	want, told := sumSet(p, q)
	got, ok := impl.SumOf(p, q)
	wantIfTold(t, "sum", got, ok, want, told)
}

// wantSum takes two pictures whose sum must be told, and be this one.
func wantSum(t *testing.T, what string, p, q, want spots) {
	t.Helper()
	got, ok := impl.SumOf(p, q)
	wantTold(t, what, got, ok, want)
	got, ok = impl.SumOf(q, p)
	wantTold(t, what+", exchanged", got, ok, want)
}

func wantNoSum(t *testing.T, what string, p, q spots) {
	t.Helper()
	got, ok := impl.SumOf(p, q)
	wantNone(t, what, got, ok)
	got, ok = impl.SumOf(q, p)
	wantNone(t, what+", exchanged", got, ok)
}

// row is a picture of one row, from the spot x, y on.
func row(x, y, n int) spots {
	return block(x, y, 61, n)
}

func column(x, y, n int) spots {
	return block(x, y, 1, n)
}

// sumPictures is pictures of a few spots near each other, so that many of their sums are told, and of many spots.
func sumPictures() []spots {
	list := []spots{
		nil, {}, pic(0, 0), pic(1, 2), pic(-30, 30), pic(30, -30), pic(-15, -15, 15, 15),
		row(0, 0, 3), row(-10, 4, 30), row(-30, 0, 31), column(2, -3, 4), column(-30, 0, 31),
		block(0, 0, 2, 4), block(-2, -2, 3, 9), block(-5, 3, 6, 30), pic(0, 0, 1, 0, 3, 0), pic(-1, 0, 0, 1, -2, 3),
		pic(5, 0, -5, 1, 5, 2, -5, 3), pic(0, 0, 10, 0, 0, 10),
	}
	list = append(list, subsets(-1, 0)[40:52]...)
	return append(list, scattered(8, 2)...)
}

// Promise 8.

func TestSumsOfSmallPictures(t *testing.T) {
	for _, corner := range pic(0, 0, -1, 0, -15, -15, 14, 14, -30, -30, 28, 29) {
		pairs(subsets(corner.X, corner.Y), func(p, q spots) { checkSum(t, p, q) })
		for _, p := range subsets(corner.X, corner.Y) {
			for _, q := range subsets(-1, -1) {
				checkSum(t, p, q)
				checkSum(t, q, p)
			}
		}
	}
}

func TestSumsOfGreaterPictures(t *testing.T) {
	pairs(append(sumPictures(), samplePictures()...), func(p, q spots) { checkSum(t, p, q) })
}

func TestSumsExchanged(t *testing.T) {
	pairs(append(sumPictures(), samplePictures()...), func(p, q spots) {
		got, ok := impl.SumOf(p, q)
		turned, turnedOk := impl.SumOf(q, p)
		if ok != turnedOk || !same(got, turned) {
			t.Fatalf("%v and %v: exchanged they differ", p, q)
		}
	})
}

func TestSumsInAnyBrackets(t *testing.T) {
	list := sumPictures()
	told := 0
	pairs(list, func(p, q spots) {
		for _, r := range list {
			left, ok := impl.SumOf(p, q)
			if !ok {
				return
			}
			right, ok := impl.SumOf(q, r)
			if !ok {
				continue
			}
			first, firstOk := impl.SumOf(left, r)
			second, secondOk := impl.SumOf(p, right)
			if firstOk != secondOk || !same(first, second) {
				t.Fatalf("%v, %v and %v: %v and %v", p, q, r, first, second)
			}
			if firstOk {
				told++
			}
		}
	})
	if told < 1000 {
		t.Fatalf("only %d sums of three are told", told)
	}
}

func TestSumsHaveAsManySpotsAsMayBe(t *testing.T) {
	pairs(append(sumPictures(), scattered(20, 3)...), func(p, q spots) {
		sum, ok := impl.SumOf(p, q)
		if !ok {
			return
		}
		if len(sum) > len(p)*len(q) {
			t.Fatalf("%v and %v: %d spots are too many", p, q, len(sum))
		}
		if len(p) > 0 && len(q) > 0 && len(sum) < len(p)+len(q)-1 {
			t.Fatalf("%v and %v: %d spots are too few", p, q, len(sum))
		}
	})
}

func TestSumsOfUnionsAreUnionsOfSums(t *testing.T) {
	list := sumPictures()
	pairs(list, func(p, q spots) {
		for _, r := range list {
			union, ok := impl.UnionOf(p, q)
			if !ok {
				return
			}
			both, ok := impl.SumOf(union, r)
			if !ok {
				continue
			}
			first, firstOk := impl.SumOf(p, r)
			second, secondOk := impl.SumOf(q, r)
			if !firstOk || !secondOk {
				t.Fatalf("%v and %v with %v: only the sum of both is told", p, q, r)
			}
			got, ok := impl.UnionOf(first, second)
			wantTold(t, "union of sums", got, ok, both)
		}
	})
}

func TestSumsWithTheEmptyPicture(t *testing.T) {
	for _, p := range append(samplePictures(), sumPictures()...) {
		for _, none := range []spots{nil, {}, p[:0]} {
			wantSum(t, "sum with none", p, none, nil)
		}
	}
	wantSum(t, "sum of none and none", nil, spots{}, nil)
}

func TestSumsWithOneSpotAreMoves(t *testing.T) {
	for _, p := range samplePictures() {
		wantSum(t, "sum with 0, 0", p, pic(0, 0), p)
		for _, a := range append(block(-4, -4, 9, 81), pic(30, 0, -30, 0, 0, 30, 0, -30, 30, -30)...) {
			want, told := impl.MovedBy(p, a)
			got, ok := impl.SumOf(p, spots{a})
			wantIfTold(t, "sum with one spot", got, ok, want, told)
			got, ok = impl.SumOf(spots{a}, p)
			wantIfTold(t, "sum of one spot", got, ok, want, told)
		}
	}
}

func TestSumsOfRows(t *testing.T) {
	for n := 1; n <= 31; n++ {
		for m := 1; m <= 31; m++ {
			if n+m-1 > 60 {
				wantNoSum(t, "rows that are too long", row(-15, 3, n), row(-15, -3, m))
				continue
			}
			wantSum(t, "rows", row(-15, 3, n), row(-15, -3, m), row(-30, 0, n+m-1))
			wantSum(t, "columns", column(4, -15, n), column(-4, -15, m), column(0, -30, n+m-1))
		}
	}
	wantSum(t, "steps up", pic(0, 0, 1, 1, 2, 2), pic(0, 0, 1, 1), pic(0, 0, 1, 1, 2, 2, 3, 3))
	wantSum(t, "steps down", pic(2, 0, 1, 1, 0, 2), pic(1, 0, 0, 1), pic(3, 0, 2, 1, 1, 2, 0, 3))
	wantSum(t, "every third one", pic(0, 0, 3, 0), pic(0, 0, 3, 0, 6, 0), pic(0, 0, 3, 0, 6, 0, 9, 0))
	wantSum(t, "a row and a column", row(1, 0, 3), column(0, -1, 3), block(1, -1, 3, 9))
	wantSum(t, "rows of other steps", row(0, 0, 2), pic(0, 0, 2, 0, 4, 0), row(0, 0, 6))
}

func TestSumsHaveAtMostSixtySpots(t *testing.T) {
	wantSum(t, "60 from 360", block(0, 0, 3, 15), block(-4, -4, 4, 24), block(-4, -4, 6, 60))
	wantSum(t, "60 from 60 and 1", block(0, 0, 10, 60), pic(-3, 2), block(-3, 2, 10, 60))
	wantSum(t, "60 from 30 and 31", row(-30, 0, 30), row(0, 1, 31), row(-30, 1, 60))
	wantSum(t, "60 from 2 and 30", pic(0, 0, 0, 6), block(0, 0, 5, 30), block(0, 0, 5, 60))
	wantSum(t, "60 of 20 by 3", pic(0, 0, 0, 1, 0, 2), row(-9, -9, 20), block(-9, -9, 20, 60))
	wantNoSum(t, "61 in a row", row(-30, 0, 31), row(0, 0, 31))
	wantNoSum(t, "61 in a column", column(0, -30, 31), column(0, 0, 31))
	wantNoSum(t, "61 from 60 and 2", block(0, 0, 60, 60), pic(0, 0, 1, 0))
	wantNoSum(t, "62 from 2 and 31", pic(0, 0, 0, 9), row(0, 0, 31))
	wantNoSum(t, "63 of 7 by 9", block(0, 0, 4, 16), block(0, 0, 4, 24))
	wantNoSum(t, "120 from 60 and 2", block(0, 0, 10, 60), pic(0, 0, 0, 10))
	wantNoSum(t, "3600 spots", block(-30, -30, 10, 60), spread())
}

// spread is 60 spots so far apart from each other that blocks of 10 by 6 moved by them do not meet, as far as there is room.
func spread() spots {
	var p spots
	for i := range 60 {
		p = append(p, at(i%6*10, i/6*6))
	}
	for i := range p {
		p[i] = at(p[i].X-30, p[i].Y-30)
	}
	return p
}

func TestSumsThatReachTheEnds(t *testing.T) {
	for i := -30; i <= 30; i++ {
		for j := -30; j <= 30; j++ {
			inside := i+j >= -30 && i+j <= 30
			for _, two := range [][2]spots{
				{pic(i, 0), pic(j, 0)}, {pic(0, i), pic(0, j)}, {pic(i, i), pic(j, j)}, {pic(i, -i), pic(j, -j)},
			} {
				if inside {
					wantSum(t, "sum inside", two[0], two[1], pic(two[0][0].X+two[1][0].X, two[0][0].Y+two[1][0].Y))
				} else {
					wantNoSum(t, "sum outside", two[0], two[1])
				}
			}
		}
	}
	wantSum(t, "from end to end", pic(-20, -10, 10, 20), pic(-10, -20, 20, 10), pic(-30, -30, 0, 0, 30, 30))
	wantSum(t, "ends of a column", pic(0, -30, 0, 29), pic(0, 0, 0, 1), pic(0, -30, 0, -29, 0, 29, 0, 30))
	wantSum(t, "ends of a row", pic(-29, 0, 30, 0), pic(-1, 0, 0, 0), pic(-30, 0, -29, 0, 29, 0, 30, 0))
	wantNoSum(t, "one spot too far right", pic(-30, 0, 30, 0), pic(0, 0, 1, 0))
	wantNoSum(t, "one spot too far left", pic(-30, 0, 30, 0), pic(-1, 0, 0, 0))
	wantNoSum(t, "one spot too far up", pic(0, -30, 0, 30), pic(0, 0, 0, 1))
	wantNoSum(t, "one spot too far down", pic(0, -30, 0, 30), pic(0, -1, 0, 0))
	wantNoSum(t, "too far right in the middle", pic(0, 0, 20, 1, 0, 2), pic(0, 0, 11, 0))
	wantNoSum(t, "too far left in the middle", pic(0, 0, -20, 1, 0, 2), pic(-11, 0, 0, 0))
}

func TestInvalidSums(t *testing.T) {
	good := []spots{nil, {}, pic(0, 0), pic(-1, -1), pic(0, 0, 1, 0), pic(-30, -30), block(0, 0, 10, 60)}
	for what, bad := range invalid() {
		for _, p := range append(good, bad) {
			wantNoSum(t, "sum with "+what, p, bad)
		}
		got, ok := impl.DoubledOf(bad)
		wantNone(t, "doubled: "+what, got, ok)
		got, ok = impl.DifferencesOf(bad)
		wantNone(t, "differences: "+what, got, ok)
		wantNoBox(t, what, bad)
	}
}

// Promise 9.

func TestDoubledPictures(t *testing.T) {
	for _, p := range append(samplePictures(), sumPictures()...) {
		want, told := sumSet(p, p)
		got, ok := impl.DoubledOf(p)
		wantIfTold(t, "doubled", got, ok, want, told)
		for _, a := range p {
			if ok && !impl.HasSpot(got, at(2*a.X, 2*a.Y)) {
				t.Fatalf("%v doubled has not twice %v", p, a)
			}
		}
	}
	for _, corner := range pic(-1, -1, 13, 14, -15, -15) {
		for _, p := range subsets(corner.X, corner.Y) {
			want, told := sumSet(p, p)
			got, ok := impl.DoubledOf(p)
			wantIfTold(t, "doubled", got, ok, want, told)
		}
	}
}

func TestDoubledOnes(t *testing.T) {
	for y := -30; y <= 30; y++ {
		for x := -30; x <= 30; x++ {
			got, ok := impl.DoubledOf(pic(x, y))
			told := x >= -15 && x <= 15 && y >= -15 && y <= 15
			wantIfTold(t, "one spot doubled", got, ok, pic(2*x, 2*y), told)
		}
	}
	got, ok := impl.DoubledOf(nil)
	wantTold(t, "none doubled", got, ok, nil)
	got, ok = impl.DoubledOf(spots{})
	wantTold(t, "none doubled", got, ok, nil)
	got, ok = impl.DoubledOf(row(-15, 0, 30))
	wantTold(t, "a row of 30 doubled", got, ok, row(-30, 0, 59))
	got, ok = impl.DoubledOf(row(-15, 0, 31))
	wantNone(t, "a row of 31 doubled", got, ok)
	got, ok = impl.DoubledOf(pic(0, 0, 1, 0, 0, 1))
	wantTold(t, "three doubled", got, ok, pic(0, 0, 1, 0, 2, 0, 0, 1, 1, 1, 0, 2))
}

// Promise 10.

// differenceSet tells by sets what the differences of a picture are, and whether they are a picture.
func differenceSet(p spots) (spots, bool) {
	var other spots
	for _, a := range p {
		other = append(other, at(-a.X, -a.Y))
	}
	return sumSet(p, other)
}

func checkDifferences(t *testing.T, p spots) {
	t.Helper()
	want, told := differenceSet(p)
	got, ok := impl.DifferencesOf(p)
	wantIfTold(t, "differences", got, ok, want, told)
	if !ok {
		return
	}
	wantPicture(t, "differences turned", impl.TurnedOf(got), got)
	if impl.HasSpot(got, at(0, 0)) != (len(p) > 0) {
		t.Fatalf("%v: whether 0, 0 is one of the differences", p)
	}
	for _, a := range pic(1, 2, -7, 3, 0, -11) {
		moved, inside := impl.MovedBy(p, a)
		if !inside {
			continue
		}
		again, ok := impl.DifferencesOf(moved)
		wantTold(t, "differences of the picture moved", again, ok, got)
	}
}

func TestDifferences(t *testing.T) {
	for _, p := range append(samplePictures(), sumPictures()...) {
		checkDifferences(t, p)
	}
	for _, corner := range pic(0, 0, -30, -30, 28, 29) {
		for _, p := range subsets(corner.X, corner.Y) {
			checkDifferences(t, p)
		}
	}
}

func TestDifferencesOfAFew(t *testing.T) {
	for _, c := range []struct {
		what    string
		p, want spots
	}{
		{"none", nil, nil},
		{"an empty slice", spots{}, nil},
		{"one spot", pic(7, -9), pic(0, 0)},
		{"the farthest spot", pic(-30, 30), pic(0, 0)},
		{"two beside each other", pic(4, 4, 5, 4), pic(-1, 0, 0, 0, 1, 0)},
		{"three of a corner", pic(0, 0, 1, 0, 0, 1), pic(0, -1, 1, -1, -1, 0, 0, 0, 1, 0, -1, 1, 0, 1)},
		{"two that are 30 apart", pic(-10, 5, 20, 5), pic(-30, 0, 0, 0, 30, 0)},
		{"two that are 30 apart both ways", pic(-30, -30, 0, 0), pic(-30, -30, 0, 0, 30, 30)},
		{"a row of 30", row(1, 30, 30), row(-29, 0, 59)},
		{"a column of 30", column(-30, 1, 30), column(0, -29, 59)},
		{"a block of 3 by 6", block(0, 0, 3, 18), block(-2, -5, 5, 55)},
	} {
		got, ok := impl.DifferencesOf(c.p)
		wantTold(t, "differences of "+c.what, got, ok, c.want)
	}
	for what, p := range map[string]spots{
		"a row of 31":                      row(-15, 0, 31),
		"two that are 31 apart":            pic(-15, 0, 16, 0),
		"two that are 31 apart, in height": pic(0, -15, 0, 16),
		"two at the ends":                  pic(-30, -30, 30, 30),
		"a block of 4 by 5":                block(0, 0, 4, 20),
		"a block of 60":                    block(0, 0, 10, 60),
	} {
		got, ok := impl.DifferencesOf(p)
		wantNone(t, "differences of "+what, got, ok)
	}
}

// Promise 11.

func wantNoBox(t *testing.T, what string, p spots) {
	t.Helper()
	least, greatest, ok := impl.BoxOf(p)
	if ok || least != at(0, 0) || greatest != at(0, 0) {
		t.Fatalf("box of %s: %v %v %v", what, least, greatest, ok)
	}
}

// cornersOf looks at each spot of a picture that is not empty.
func cornersOf(p spots) (least, greatest impl.Spot) {
	least, greatest = p[0], p[0]
	for _, a := range p {
		least = at(min(least.X, a.X), min(least.Y, a.Y))
		greatest = at(max(greatest.X, a.X), max(greatest.Y, a.Y))
	}
	return least, greatest
}

func checkBox(t *testing.T, p spots) {
	t.Helper()
	if len(p) == 0 {
		wantNoBox(t, "none", p)
		return
	}
	wantLeast, wantGreatest := cornersOf(p)
	least, greatest, ok := impl.BoxOf(p)
	if !ok || least != wantLeast || greatest != wantGreatest {
		t.Fatalf("box of %v: %v %v %v", p, least, greatest, ok)
	}
}

func TestBoxes(t *testing.T) {
	for _, p := range append(samplePictures(), sumPictures()...) {
		checkBox(t, p)
	}
	for _, corner := range pic(0, 0, -1, -1, -30, -30, 28, 29, -30, 29, 28, -30) {
		for _, p := range subsets(corner.X, corner.Y) {
			checkBox(t, p)
		}
	}
	for y := -30; y <= 30; y++ {
		for x := -30; x <= 30; x++ {
			checkBox(t, pic(x, y))
		}
	}
	checkBox(t, pic(3, -8, -4, 0, 9, 0, 2, 7))
	checkBox(t, pic(9, -8, 0, 0, -4, 7))
	wantNoBox(t, "nil", nil)
	wantNoBox(t, "an empty slice", spots{})
}

func TestBoxesOfSums(t *testing.T) {
	told := 0
	pairs(append(sumPictures(), samplePictures()...), func(p, q spots) {
		sum, ok := impl.SumOf(p, q)
		if !ok || len(sum) == 0 {
			return
		}
		told++
		least, greatest, _ := impl.BoxOf(p)
		further, farthest, _ := impl.BoxOf(q)
		low, high, ok := impl.BoxOf(sum)
		if !ok || low != at(least.X+further.X, least.Y+further.Y) || high != at(greatest.X+farthest.X, greatest.Y+farthest.Y) {
			t.Fatalf("box of the sum of %v and %v: %v %v %v", p, q, low, high, ok)
		}
	})
	if told < 100 {
		t.Fatalf("only %d sums are told", told)
	}
}

// The general rules: arguments are not written to, and results are new.

func TestSumsShareNoMemory(t *testing.T) {
	list := []spots{nil, pic(0, 0), pic(0, 0, 1, 0), pic(-3, -3, 4, -3, 0, 2), pic(-15, -15, 15, 15), row(0, 0, 30), block(0, 0, 3, 18), block(0, 0, 10, 60)}
	for _, bad := range invalid() {
		list = append(list, bad)
	}
	pairs(list, func(p, q spots) {
		checkMemory(t, "SumOf", func(args []spots) spots {
			sum, _ := impl.SumOf(args[0], args[1])
			return sum
		}, p, q)
	})
	for _, p := range list {
		for what, call := range map[string]func(p spots) spots{
			"SumOf one": func(p spots) spots { sum, _ := impl.SumOf(p, p); return sum },
			"DoubledOf": func(p spots) spots { sum, _ := impl.DoubledOf(p); return sum },
			"DifferencesOf": func(p spots) spots {
				sum, _ := impl.DifferencesOf(p)
				return sum
			},
			"BoxOf": func(p spots) spots {
				least, greatest, _ := impl.BoxOf(p)
				return spots{least, greatest}
			},
		} {
			checkMemory(t, what, func(args []spots) spots { return call(args[0]) }, p)
		}
	}
}

func TestSumsDoNotDependOnCapacity(t *testing.T) {
	backing := block(-3, 0, 7, 60)
	p, q := backing[:6], backing[3:9]
	checkSum(t, p, q)
	checkSum(t, slices.Clip(p), slices.Clip(q))
	checkDifferences(t, p)
	checkBox(t, q)
}

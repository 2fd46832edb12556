package tests

import (
	"math"
	"regexp"
	"slices"
	"strconv"
	"strings"
	"testing"

	"loop.example/growingpictures/impl"
)

type (
	desk = impl.Desk
	deed = impl.Deed
)

func deskOf(now spots, past ...spots) desk {
	return desk{Now: now, Past: past}
}

// deedOf names as many numbers as are given, X first.
func deedOf(kind int, numbers ...int) deed {
	both := append(numbers, 0, 0)
	return deed{Kind: kind, X: both[0], Y: both[1]}
}

func sameDesk(d, e desk) bool {
	return same(d.Now, e.Now) && samePieces(d.Past, e.Past)
}

func wantDesk(t *testing.T, what string, got, want desk) {
	t.Helper()
	if !sameDesk(got, want) || !impl.DeskOk(got) {
		t.Fatalf("%s: got the desk %v, want %v", what, got, want)
	}
}

func wantNoDesk(t *testing.T, what string, got desk) {
	t.Helper()
	if len(got.Now) != 0 || len(got.Past) != 0 {
		t.Fatalf("%s: got the desk %v, want the zero value", what, got)
	}
}

// pastOf is n different pictures, of which the first one is empty.
func pastOf(n int) []spots {
	var past []spots
	for i := range n {
		past = append(past, block(-i, 2*i-9, 3, i))
	}
	return past
}

// pastCounts is how many pictures of before a desk may have: none, one, a few, one less than all, and all.
func pastCounts() []int {
	return []int{0, 1, 3, 7, 8}
}

// changedSet tells by sets what a deed other than DkBack makes of a picture, and whether it is told.
func changedSet(p spots, a deed) (spots, bool) {
	balls := []spots{pic(0, -1, -1, 0, 0, 0, 1, 0, 0, 1), block(-1, -1, 3, 9)}
	isWay := a.X == 0 || a.X == 1
	switch {
	case a.Kind == impl.DkPut && -30 <= a.X && a.X <= 30 && -30 <= a.Y && a.Y <= 30:
		put := together(p, pic(a.X, a.Y))
		return put, len(put) <= 60
	case a.Kind == impl.DkTake:
		return slices.DeleteFunc(slices.Clone(p), func(b impl.Spot) bool { return b == at(a.X, a.Y) }), true
	case a.Kind == impl.DkMove:
		return movedInside(p, at(a.X, a.Y))
	case a.Kind == impl.DkTurn:
		return turnedSet(p), true
	case a.Kind == impl.DkGrow && isWay:
		return grownSet(p, 1, a.X)
	case a.Kind == impl.DkShrink && isWay:
		return shrunkSet(p, balls[a.X])
	case a.Kind == impl.DkSieve && 1 <= a.X && a.X <= 5:
		return sievedSet(p, a.X), true
	case a.Kind == impl.DkFill:
		filled := bothSet(p)
		return filled, len(filled) <= 60
	}
	return nil, false
}

// afterSet is the desk after a deed, and whether it is done.
func afterSet(d desk, a deed) (desk, bool) {
	switch a.Kind {
	case impl.DkPut, impl.DkTake, impl.DkMove:
	case impl.DkGrow, impl.DkShrink, impl.DkSieve:
		if a.Y != 0 {
			return d, false
		}
	default:
		if a.X != 0 || a.Y != 0 {
			return d, false
		}
	}
	if n := len(d.Past); a.Kind == impl.DkBack {
		if n == 0 {
			return d, false
		}
		return deskOf(d.Past[n-1], d.Past[:n-1]...), true
	}
	now, told := changedSet(d.Now, a)
	if !told || same(now, d.Now) {
		return d, false
	}
	past := append(slices.Clone(d.Past), d.Now)
	if len(past) == 9 {
		past = past[1:]
	}
	return deskOf(now, past...), true
}

// deskPictures is pictures of all kinds, of which many may be changed by each deed, and many may not.
func deskPictures() []spots {
	return slices.Concat(samplePictures(), scattered(20, 2), scattered(20, 5), subsets(-1, 0)[40:], atEnds(squareRing(1)), atEnds(block(0, 0, 3, 7)), []spots{
		squareRing(1), cornerRing(1), squareRing(2), cornerRing(7), squareRing(7), cornerRing(15), stair(), spread(), chain(5), crossing(15, 15, 14, 14), crossing(15, 15, 14, 15),
		block(0, 0, 5, 25), block(-2, -2, 5, 25), block(-3, -3, 7, 49), block(0, 0, 10, 59), block(0, 0, 10, 60), row(-30, 0, 59), row(-30, 0, 60), column(30, -29, 60),
		pic(-30, 0, 30, 0), pic(-30, 0, 29, 0), pic(0, 0), pic(30, 30), pic(-30, -30), pic(1, 2, 3, 2), pic(-1, 0, 1, 0), row(-8, 0, 18), row(-8, 0, 19), row(-8, 0, 20),
	})
}

// nearDeeds is deeds of all kinds with numbers that may well be of use, and some with ones that are of none.
func nearDeeds() []deed {
	var list []deed
	for kind := impl.DkPut; kind <= impl.DkBack; kind++ {
		for _, x := range []int{-31, -30, -1, 0, 1, 2, 3, 5, 6, 30} {
			for _, y := range []int{-30, -1, 0, 1, 2, 30, 31} {
				list = append(list, deedOf(kind, x, y))
			}
		}
	}
	return list
}

// deedNumbers is numbers that a deed may be told with, and may not: near 0, at all ends, and far beyond.
func deedNumbers() []int {
	return append(extremes(), -101, -100, -99, -98, -60, -31, -30, -29, -11, -10, -9, -2, -1, 0, 1, 2, 3, 4, 5, 6, 9, 10, 11, 29, 30, 31, 60, 98, 99, 100, 101)
}

// noKinds is numbers that are no kind of deeds.
func noKinds() []int {
	return append(extremes(), -1, -2, -3, -8, -9, 9, 10, 11, 16, 17, 18)
}

// manyDeeds is n deeds, the same ones in each run, that are often done to small pictures around 0, 0.
func manyDeeds(n int, seed uint32) []deed {
	next := func(below int) int {
		seed = seed*1664525 + 1013904223
		return int(seed>>8) % below
	}
	var list []deed
	for range n {
		switch kind := next(12); kind {
		case impl.DkTurn, impl.DkFill, impl.DkBack:
			list = append(list, deedOf(kind))
		case impl.DkGrow, impl.DkShrink, impl.DkSieve:
			list = append(list, deedOf(kind, next(3)))
		case impl.DkTake, impl.DkMove:
			list = append(list, deedOf(kind, next(5)-2, next(5)-2))
		default:
			list = append(list, deedOf(impl.DkPut, next(7)-3, next(7)-3))
		}
	}
	return list
}

// deskWords is the word of each kind of deeds, and how many numbers are behind it.
var deskWords = []struct {
	word    string
	numbers int
}{
	{"put", 2}, {"take", 2}, {"move", 2}, {"turn", 0}, {"grow", 1}, {"shrink", 1}, {"sieve", 1}, {"fill", 0}, {"back", 0},
}

// deedBySigns is the text of a deed, told by the table above.
func deedBySigns(a deed) string {
	if a.Kind < 0 || a.Kind >= len(deskWords) || a.X < -99 || a.X > 99 || a.Y < -99 || a.Y > 99 {
		return ""
	}
	switch w := deskWords[a.Kind]; {
	case w.numbers == 2:
		return w.word + " " + decimal(a.X) + " " + decimal(a.Y)
	case w.numbers == 1 && a.Y == 0:
		return w.word + " " + decimal(a.X)
	case w.numbers == 0 && a.X == 0 && a.Y == 0:
		return w.word
	}
	return ""
}

var deedLine = regexp.MustCompile(`\A(?:(put|take|move) (0|-?[1-9][0-9]?) (0|-?[1-9][0-9]?)|(grow|shrink|sieve) (0|-?[1-9][0-9]?)|(turn|fill|back))\z`)

// readDeedBySigns holds a text against all that makes it that of a deed, apart from the program's way, which writes what it has read.
func readDeedBySigns(s string) (deed, bool) {
	parts := deedLine.FindStringSubmatch(s)
	if parts == nil {
		return deed{}, false
	}
	word := parts[1] + parts[4] + parts[6]
	var a deed
	for deskWords[a.Kind].word != word {
		a.Kind++
	}
	// Numbers that are not there are read as 0.
	a.X, _ = strconv.Atoi(parts[2] + parts[5])
	a.Y, _ = strconv.Atoi(parts[3])
	return a, true
}

var farLine = regexp.MustCompile(`\Afar (0|-?[1-9][0-9]{0,8}) (0|-?[1-9][0-9]{0,8})\z`)

// farBySteps counts steps from the spot of which a line asks how far it is; "what" if it asks nothing.
func farBySteps(p spots, line string) string {
	parts := farLine.FindStringSubmatch(line)
	if parts == nil {
		return "what"
	}
	x, _ := strconv.Atoi(parts[1])
	y, _ := strconv.Atoi(parts[2])
	if len(p) == 0 || x < -30 || x > 30 || y < -30 || y > 30 {
		return "none"
	}
	nearest := 1000
	for _, a := range p {
		nearest = min(nearest, stepsBetween(a, at(x, y), 0))
	}
	return decimal(nearest)
}

// answerBySets answers a line that is no deed.
func answerBySets(p spots, line string) string {
	switch line {
	case "picture":
		return textBySigns(p)
	case "spots":
		return decimal(len(setOf(p)))
	case "four":
		return decimal(len(piecesSet(p, false)))
	case "eight":
		return decimal(len(piecesSet(p, true)))
	case "holes":
		return decimal(len(holesSet(p)))
	case "euler":
		return decimal(len(piecesSet(p, true)) - len(holesSet(p)))
	case "border":
		return decimal(scanned(p).border)
	case "filled":
		if isFilled(p) {
			return "yes"
		}
		return "no"
	}
	return farBySteps(p, line)
}

// lineBySets is the desk after a line, and the answer.
func lineBySets(d desk, line string) (desk, string) {
	a, ok := readDeedBySigns(line)
	if !ok {
		return d, answerBySets(d.Now, line)
	}
	after, done := afterSet(d, a)
	if !done {
		return d, "not"
	}
	return after, "ok"
}

func questionLines() []string {
	return []string{"picture", "spots", "four", "eight", "holes", "euler", "border", "filled"}
}

// noDesks is desks that are none, each by what is wrong with it.
func noDesks() map[string]desk {
	bad := map[string]desk{
		"one of before too many":   deskOf(pic(0, 0), pastOf(9)...),
		"two of before too many":   deskOf(nil, pastOf(10)...),
		"many of before too many":  deskOf(pic(0, 0), make([]spots, 1000)...),
		"empty ones of before, 9":  deskOf(nil, make([]spots, 9)...),
		"a bad one among too many": deskOf(pic(0, 0), append(pastOf(8), pic(31, 0))...),
	}
	for what, p := range invalid() {
		bad["now: "+what] = deskOf(p)
		bad["now, with some of before: "+what] = deskOf(p, pastOf(3)...)
		bad["now and before: "+what] = deskOf(p, p)
		bad["before, alone: "+what] = deskOf(pic(0, 0), p)
		bad["before, and nothing now: "+what] = deskOf(nil, p)
		bad["before, the first one: "+what] = deskOf(pic(0, 0), append([]spots{p}, pastOf(7)...)...)
		bad["before, in the middle: "+what] = deskOf(pic(0, 0), slices.Concat(pastOf(3), []spots{p}, pastOf(2))...)
		bad["before, the last one: "+what] = deskOf(pic(0, 0), append(pastOf(7), p)...)
	}
	return bad
}

// Promise 55.

// checkDo holds a deed of any kind against sets, and what is undone against the desk before. It returns the desk after it, and whether it was done.
func checkDo(t *testing.T, d desk, a deed) (desk, bool) {
	t.Helper()
	want, can := afterSet(d, a)
	got, done := impl.DeskDo(d, a)
	if done != can {
		t.Fatalf("%v at %v is done: %v, want %v", a, d, done, can)
	}
	wantDesk(t, "after "+deedBySigns(a), got, want)
	if done && a.Kind != impl.DkBack {
		checkUndone(t, d, a, got)
	}
	return got, done
}

func checkUndone(t *testing.T, d desk, a deed, after desk) {
	t.Helper()
	before, ok := impl.DeskDo(after, deedOf(impl.DkBack))
	if !ok {
		t.Fatalf("%v at %v cannot be undone", a, d)
	}
	want := d
	if len(d.Past) == impl.MaxPast {
		want = deskOf(d.Now, d.Past[1:]...)
	}
	wantDesk(t, "undone", before, want)
	switch a.Kind {
	case impl.DkGrow:
		if !impl.WithinOk(d.Now, after.Now) {
			t.Fatalf("%v is grown to %v", d, after)
		}
	case impl.DkShrink, impl.DkSieve:
		if !impl.WithinOk(after.Now, d.Now) {
			t.Fatalf("%v shrinks to %v", d, after)
		}
	}
}

func TestWhatWasDoneCanBeUndone(t *testing.T) {
	done, not := map[int]int{}, map[int]int{}
	for _, p := range deskPictures() {
		for i, a := range nearDeeds() {
			n := pastCounts()[i%5]
			if _, ok := checkDo(t, deskOf(p, pastOf(n)...), a); ok {
				done[a.Kind]++
			} else {
				not[a.Kind]++
			}
		}
	}
	for kind := range 9 {
		if done[kind] < 30 || not[kind] < 30 {
			t.Fatalf("of the kind %d only %d are done, and %d not", kind, done[kind], not[kind])
		}
	}
}

func TestDeedsWithNumbersOfAllKinds(t *testing.T) {
	for _, d := range []desk{{}, deskOf(squareRing(1)), deskOf(pic(30, 30), pastOf(8)...), deskOf(pic(-30, -30, 2, 7), pic(1, 1))} {
		for kind := range 9 {
			for _, x := range deedNumbers() {
				for _, y := range deedNumbers() {
					checkDo(t, d, deedOf(kind, x, y))
				}
			}
		}
	}
}

func TestOtherKindsOfDeeds(t *testing.T) {
	for _, d := range []desk{{}, deskOf(squareRing(1)), deskOf(nil, pastOf(8)...), deskOf(pic(0, 0, 5, 0), pic(1, 1))} {
		for _, kind := range noKinds() {
			for _, x := range []int{-1, 0, 1, 2} {
				if _, done := checkDo(t, d, deedOf(kind, x)); done {
					t.Fatalf("a deed of the kind %d is done", kind)
				}
				checkDo(t, d, deedOf(kind, x, 1))
			}
		}
	}
}

// fewDeeds is rows, the lowest one first, deeds, and the rows after them; "not" if the deed cannot be done.
func fewDeeds() [][3]string {
	return [][3]string{
		{"... .#. ...", "put 1 0", "... .## ..."},
		{"... .#. ...", "put -1 -1", "#.. .#. ..."},
		{"... .#. ...", "put 0 0", "not"},
		{"... .#. ...", "put 31 0", "not"},
		{"... .#. ...", "put 0 -31", "not"},
		{"... .#. ...", "put 99 -99", "not"},
		{"... ... ...", "put 0 1", "... ... .#."},
		{"... ... ...", "put 0 31", "not"},
		{"... .## ...", "take 1 0", "... .#. ..."},
		{"... .#. ...", "take 0 0", "... ... ..."},
		{"... .## ...", "take 0 1", "not"},
		{"... .## ...", "take -99 99", "not"},
		{"... ... ...", "take 0 0", "not"},
		{"... .## ...", "move -1 1", "... ... ##."},
		{"... .## ...", "move 0 -1", ".## ... ..."},
		{"... .## ...", "move 0 0", "not"},
		{"... .## ...", "move 30 0", "not"},
		{"... .## ...", "move 0 31", "not"},
		{"... .## ...", "move -99 99", "not"},
		{"... ... ...", "move 1 1", "not"},
		{"... ... ...", "move 99 0", "not"},
		{"... .## ...", "turn", "... ##. ..."},
		{"#.. .#. ...", "turn", "... .#. ..#"},
		{"... ### ...", "turn", "not"},
		{"#.. ... ..#", "turn", "not"},
		{"... ... ...", "turn", "not"},
		{"... .#. ...", "grow 0", ".#. ### .#."},
		{"... .#. ...", "grow 1", "### ### ###"},
		{"... .#. ...", "grow 2", "not"},
		{"... .#. ...", "grow -1", "not"},
		{"... ... ...", "grow 0", "not"},
		{"... ... ...", "grow 1", "not"},
		{".#. ### .#.", "shrink 0", "... .#. ..."},
		{".#. ### .#.", "shrink 1", "... ... ..."},
		{"### ### ###", "shrink 0", "... .#. ..."},
		{"### ### ###", "shrink 1", "... .#. ..."},
		{"### ### ###", "shrink 2", "not"},
		{"### ### ###", "shrink -1", "not"},
		{"... .#. ...", "shrink 0", "... ... ..."},
		{"... ... ...", "shrink 0", "not"},
		{"... ... ...", "shrink 1", "not"},
		{"##. ### ...", "sieve 2", "##. ##. ..."},
		{"##. ### ...", "sieve 3", "... ... ..."},
		{"##. ### ...", "sieve 5", "... ... ..."},
		{"##. ### ...", "sieve 1", "not"},
		{"##. ##. ...", "sieve 2", "not"},
		{"##. ### ...", "sieve 0", "not"},
		{"##. ### ...", "sieve 6", "not"},
		{"##. ### ...", "sieve -2", "not"},
		{"... ... ...", "sieve 2", "not"},
		{"### #.# ###", "fill", "### ### ###"},
		{"#.# ... ...", "fill", "### ... ..."},
		{"#.. ... #..", "fill", "#.. #.. #.."},
		{"#.. ... .#.", "fill", "not"},
		{"### ### ###", "fill", "not"},
		{"... ... ...", "fill", "not"},
		{"... .#. ...", "back", "not"},
		{"... ... ...", "back", "not"},
	}
}

func TestAFewDeeds(t *testing.T) {
	for _, few := range fewDeeds() {
		before := drawn(few[0])
		a, ok := impl.ReadDeed(few[1])
		if !ok {
			t.Fatalf("%q is no deed", few[1])
		}
		for _, n := range pastCounts() {
			d := deskOf(before, pastOf(n)...)
			if a.Kind == impl.DkBack {
				d.Past = nil
			}
			want := d
			if few[2] != "not" {
				past := append(pastOf(n), before)
				want = deskOf(drawn(few[2]), past[max(0, n-7):]...)
			}
			got, done := impl.DeskDo(d, a)
			if done != (few[2] != "not") {
				t.Fatalf("%s: %s is done: %v", few[0], few[1], done)
			}
			wantDesk(t, few[0]+": "+few[1], got, want)
			checkDo(t, d, a)
		}
	}
}

func TestDeedsThatAreJustTold(t *testing.T) {
	for _, c := range []struct {
		p    spots
		a    deed
		done bool
	}{
		{block(0, 0, 10, 59), deedOf(impl.DkPut, 9, 5), true},
		{block(0, 0, 10, 60), deedOf(impl.DkPut, 0, 6), false},
		{block(0, 0, 10, 60), deedOf(impl.DkPut, 9, 5), false},
		{block(0, 0, 10, 60), deedOf(impl.DkTake, 9, 5), true},
		{nil, deedOf(impl.DkPut, 30, -30), true},
		{nil, deedOf(impl.DkPut, 31, -30), false},
		{nil, deedOf(impl.DkPut, 30, -31), false},
		{pic(30, 7), deedOf(impl.DkMove, 1, 0), false},
		{pic(30, 7), deedOf(impl.DkMove, -60, 0), true},
		{pic(30, 7), deedOf(impl.DkMove, -61, 0), false},
		{pic(7, -30), deedOf(impl.DkMove, 0, 60), true},
		{pic(7, -30), deedOf(impl.DkMove, 0, 61), false},
		{pic(-30, -30, 30, 30), deedOf(impl.DkMove, 0, 1), false},
		{pic(29, 0), deedOf(impl.DkGrow, 0), true},
		{pic(30, 0), deedOf(impl.DkGrow, 0), false},
		{pic(0, -30), deedOf(impl.DkGrow, 1), false},
		// A row of n spots grows to 3n + 2 in the way 0, and to 3n + 6 in the way 1.
		{row(-9, 0, 19), deedOf(impl.DkGrow, 0), true},
		{row(-9, 0, 20), deedOf(impl.DkGrow, 0), false},
		{row(-9, 0, 18), deedOf(impl.DkGrow, 1), true},
		{row(-9, 0, 19), deedOf(impl.DkGrow, 1), false},
		{pic(-30, 0, 29, 0), deedOf(impl.DkFill), true},
		{pic(-30, 0, 30, 0), deedOf(impl.DkFill), false},
		{pic(30, -29, 30, 30), deedOf(impl.DkFill), true},
		{pic(30, -30, 30, 30), deedOf(impl.DkFill), false},
		{pic(30, -30), deedOf(impl.DkTurn), true},
		{pic(30, -30, -30, 30), deedOf(impl.DkTurn), false},
		{squareAt(26, 26, 5), deedOf(impl.DkSieve, 5), false},
		{append(squareAt(25, 25, 5), at(30, 30)), deedOf(impl.DkSieve, 5), true},
		{row(-30, 30, 60), deedOf(impl.DkShrink, 0), true},
	} {
		if _, done := checkDo(t, deskOf(c.p, pastOf(2)...), c.a); done != c.done {
			t.Fatalf("%v of %v is done: %v, want %v", c.a, c.p, done, c.done)
		}
	}
}

func TestDeedsWithNumbersThatAreNotNamed(t *testing.T) {
	d := deskOf(pic(0, 0, 2, 0), pastOf(3)...)
	for _, a := range []deed{
		deedOf(impl.DkTurn), deedOf(impl.DkFill), deedOf(impl.DkBack),
		deedOf(impl.DkGrow, 0), deedOf(impl.DkGrow, 1), deedOf(impl.DkShrink, 0), deedOf(impl.DkShrink, 1), deedOf(impl.DkSieve, 2),
	} {
		if _, done := checkDo(t, d, a); !done {
			t.Fatalf("%v is not done", a)
		}
		for _, n := range deedNumbers() {
			if n == 0 {
				continue
			}
			for _, other := range []deed{{Kind: a.Kind, X: a.X, Y: n}, {Kind: a.Kind, X: n, Y: n}, {Kind: a.Kind, X: n, Y: -1}} {
				if _, done := checkDo(t, d, other); done {
					t.Fatalf("%v is done", other)
				}
			}
			if _, done := checkDo(t, d, deedOf(a.Kind, n)); done && deskWords[a.Kind].numbers == 0 {
				t.Fatalf("%v is done with %d in X", a, n)
			}
		}
	}
}

func TestPicturesOfBeforeArePutBack(t *testing.T) {
	for n := range 9 {
		past := pastOf(n)
		d := deskOf(squareRing(2), past...)
		for i := n - 1; i >= 0; i-- {
			after, done := checkDo(t, d, deedOf(impl.DkBack))
			if !done {
				t.Fatalf("%d of before cannot be put back", i+1)
			}
			wantDesk(t, "put back", after, deskOf(past[i], past[:i]...))
			d = after
		}
		after, done := checkDo(t, d, deedOf(impl.DkBack))
		if done {
			t.Fatalf("there is nothing to be put back at %v", d)
		}
		wantDesk(t, "nothing put back", after, d)
	}
	// Unlike other deeds it can be done if the picture stays the same.
	for _, p := range []spots{nil, pic(0, 0), block(0, 0, 10, 60)} {
		after, done := checkDo(t, deskOf(p, p, p), deedOf(impl.DkBack))
		if !done {
			t.Fatalf("the same picture %v is not put back", p)
		}
		wantDesk(t, "the same put back", after, deskOf(p, p))
	}
}

func TestFirstPicturesOfBeforeAreGone(t *testing.T) {
	d := deskOf(nil)
	all := []spots{nil}
	for n := 1; n <= 20; n++ {
		after, done := checkDo(t, d, deedOf(impl.DkPut, n, -n))
		if !done {
			t.Fatalf("the spot %d is not put to %v", n, d)
		}
		wantDesk(t, "one more", after, deskOf(after.Now, all[max(0, n-8):]...))
		all = append(all, after.Now)
		d = after
	}
	for i := 19; i >= 12; i-- {
		after, done := checkDo(t, d, deedOf(impl.DkBack))
		if !done {
			t.Fatalf("the picture %d is gone", i)
		}
		wantDesk(t, "put back", after, deskOf(all[i], all[12:i]...))
		d = after
	}
	if _, done := checkDo(t, d, deedOf(impl.DkBack)); done {
		t.Fatal("more than eight are put back")
	}
}

func TestNoDesksAndDeeds(t *testing.T) {
	for what, d := range noDesks() {
		if impl.DeskOk(d) {
			t.Fatalf("%s: this is a desk", what)
		}
		for _, a := range append(manyDeeds(12, 7), deedOf(impl.DkPut, 1, 1), deedOf(impl.DkBack), deedOf(impl.DkTurn), deedOf(impl.DkFill), deedOf(impl.DkSieve, 1), deedOf(-1), deedOf(9)) {
			got, done := impl.DeskDo(d, a)
			if done {
				t.Fatalf("%s: %v is done", what, a)
			}
			wantNoDesk(t, what, got)
		}
	}
}

// Promise 56.

// runBySets makes one deed after the other by sets, and counts those that are done.
func runBySets(d desk, list []deed) (desk, int) {
	n := 0
	for _, a := range list {
		after, done := afterSet(d, a)
		if done {
			n++
		}
		d = after
	}
	return d, n
}

func checkRun(t *testing.T, d desk, list []deed) (desk, int) {
	t.Helper()
	want, count := runBySets(d, list)
	got, n := impl.DeskRun(d, list)
	if n != count {
		t.Fatalf("%d of %v are done to %v, want %d", n, list, d, count)
	}
	wantDesk(t, "after deeds", got, want)
	return got, n
}

// eachRun visits desks with as many deeds as may be made at once, or fewer.
func eachRun(visit func(d desk, list []deed)) {
	pictures := slices.Concat(scattered(6, 2), []spots{nil, pic(0, 0), squareRing(1), block(-1, -1, 3, 9), squareRing(7), block(0, 0, 10, 60), pic(30, 30)})
	for i, p := range pictures {
		for j, n := range []int{0, 1, 2, 9, 39, 40} {
			visit(deskOf(p, pastOf(pastCounts()[(i+j)%5])...), manyDeeds(n, uint32(1000*i+j)))
		}
	}
}

func TestWhateverIsDoneItIsAPicture(t *testing.T) {
	count := 0
	eachRun(func(d desk, list []deed) {
		whole, n := checkRun(t, d, list)
		count += n
		for cut := range len(list) + 1 {
			between, first := impl.DeskRun(d, list[:cut])
			after, second := impl.DeskRun(between, list[cut:])
			if first+second != n {
				t.Fatalf("%v, cut at %d: %d and %d are done, want %d", list, cut, first, second, n)
			}
			wantDesk(t, "in two parts", after, whole)
		}
	})
	if count < 300 {
		t.Fatalf("only %d deeds are done", count)
	}
}

func TestDeedsThatCannotBeDoneAreLeftOut(t *testing.T) {
	d := deskOf(pic(0, 0))
	list := []deed{deedOf(impl.DkBack), deedOf(impl.DkPut, 0, 0), deedOf(impl.DkPut, 1, 0), deedOf(9), deedOf(impl.DkGrow, 2), deedOf(impl.DkTurn, 1), deedOf(impl.DkTurn), deedOf(impl.DkMove, 99, 0), deedOf(impl.DkFill), deedOf(impl.DkTake, 5, 5), deedOf(impl.DkTake, 0, 0)}
	got, n := checkRun(t, d, list)
	if n != 3 {
		t.Fatalf("%d are done", n)
	}
	wantDesk(t, "what is left", got, deskOf(pic(-1, 0), pic(0, 0), pic(0, 0, 1, 0), pic(-1, 0, 0, 0)))
	got, n = checkRun(t, d, list[:2])
	if n != 0 {
		t.Fatalf("%d are done", n)
	}
	wantDesk(t, "nothing is done", got, d)
}

func TestHowManyDeedsAreMade(t *testing.T) {
	var list []deed
	for i := range 100 {
		list = append(list, deedOf(impl.DkPut, i%8, i/8))
	}
	for n := range 101 {
		for _, d := range []desk{{}, deskOf(pic(-1, 0), pastOf(8)...)} {
			if n <= 40 {
				if after, done := checkRun(t, d, list[:n]); done != n || len(after.Now) != n+len(d.Now) {
					t.Fatalf("%d of %d are done: %v", done, n, after)
				}
				continue
			}
			after, done := impl.DeskRun(d, list[:n])
			if done != 0 {
				t.Fatalf("%d of %d are done", done, n)
			}
			wantNoDesk(t, "too many deeds", after)
		}
	}
	// It does not matter whether they can be done.
	after, done := impl.DeskRun(deskOf(pic(0, 0)), make([]deed, 41))
	if done != 0 {
		t.Fatalf("%d are done", done)
	}
	wantNoDesk(t, "too many deeds that cannot be done", after)
}

func TestNoDesksAndManyDeeds(t *testing.T) {
	for what, d := range noDesks() {
		for _, list := range [][]deed{nil, {}, manyDeeds(1, 3), manyDeeds(40, 5), manyDeeds(41, 5), {deedOf(impl.DkBack)}, {deedOf(impl.DkPut, 0, 7)}} {
			got, n := impl.DeskRun(d, list)
			if n != 0 {
				t.Fatalf("%s: %d are done", what, n)
			}
			wantNoDesk(t, what, got)
		}
	}
}

// Promise 57.

// journalBySigns writes the texts of deeds one by one.
func journalBySigns(list []deed) string {
	text := ""
	for _, a := range list {
		line := deedBySigns(a)
		if line == "" {
			return ""
		}
		text += line + "\n"
	}
	return text
}

// readJournalBySigns takes line by line as long as each is a deed.
func readJournalBySigns(s string) ([]deed, int) {
	var list []deed
	n := 0
	lines := strings.SplitAfter(s, "\n")
	for _, line := range lines {
		a, ok := readDeedBySigns(strings.TrimSuffix(line, "\n"))
		if !ok || !strings.HasSuffix(line, "\n") {
			break
		}
		list = append(list, a)
		n += len(line)
	}
	return list, n
}

// checkJournal holds any text against what is read from it.
func checkJournal(t *testing.T, s string) ([]deed, int) {
	t.Helper()
	want, count := readJournalBySigns(s)
	list, n := impl.ReadJournal(s)
	if n != count || !slices.Equal(list, want) {
		t.Fatalf("of the journal %q are read %v, %d bytes; want %v, %d bytes", s[:min(len(s), 300)], list, n, want, count)
	}
	if text := impl.JournalText(list); text != s[:n] {
		t.Fatalf("of the journal %q is read %q", s[:min(len(s), 300)], text)
	}
	return list, n
}

func TestWhereverAJournalIsCut(t *testing.T) {
	eachRun(func(d desk, list []deed) {
		text := impl.JournalText(list)
		for cut := range len(text) + 1 {
			read, n := checkJournal(t, text[:cut])
			count := strings.Count(text[:cut], "\n")
			if !slices.Equal(read, list[:count]) || n != strings.LastIndex(text[:cut], "\n")+1 {
				t.Fatalf("of %q, cut at %d, are read %v, %d bytes", text, cut, read, n)
			}
			if cut > 0 && text[cut-1] != '\n' {
				continue
			}
			want, done := checkRun(t, d, read)
			after, answers := impl.DeskSay(d, strings.Split(text[:cut], "\n")[:count])
			wantDesk(t, "line by line", after, want)
			ok := 0
			for _, answer := range answers {
				if answer == "ok" {
					ok++
				}
			}
			if ok != done || len(answers) != count {
				t.Fatalf("%q is answered by %q, but %d are done", text[:cut], answers, done)
			}
		}
	})
}

func TestJournalsOfAllNumbers(t *testing.T) {
	var list []deed
	for kind := range 9 {
		for _, x := range []int{-99, -10, -9, -1, 0, 1, 9, 10, 99} {
			for _, y := range []int{-99, -5, 0, 5, 99} {
				if a := deedOf(kind, x, y); deedBySigns(a) != "" {
					list = append(list, a)
				}
			}
		}
	}
	text := impl.JournalText(list)
	if text != journalBySigns(list) || strings.Count(text, "\n") != len(list) {
		t.Fatalf("the journal of %v is %q", list, text)
	}
	for cut := range len(text) + 1 {
		checkJournal(t, text[:cut])
	}
}

func TestJournalsEndAtTheFirstLineThatIsNoDeed(t *testing.T) {
	bad := []string{
		"", " ", "\r", "what", "spots", "picture", "far 1 1", "put", "put 1", "put 1 1 1", "put 1 1 ", " put 1 1", "put  1 1", "put 1  1", "put 100 0", "put 0 -100", "grow", "grow 0 0", "turn 0", "turn ",
		"back\r", "back\x00", "\x00back", "fill fill", "fill;back", "put +1 1", "put 01 1", "put -0 1", "Back", "BACK", "ok", "-", "put 1 1\tback", "put 1,1", "put 9999999999999999999999 0",
	}
	for _, line := range bad {
		for n, ahead := range []string{"", "back\n", "back\nput 1 -2\n", "turn\nturn\ngrow 1\n"} {
			for _, behind := range []string{"\nback\n", "\n", "", "\n\nback\n", "back\n", " \n"} {
				text := ahead + line + behind
				if line+behind == "back\n" {
					continue
				}
				read, bytes := checkJournal(t, text)
				if len(read) != n || bytes != len(ahead) {
					t.Fatalf("of %q are read %v, %d bytes", text, read, bytes)
				}
			}
		}
	}
}

func TestJournalsWithoutANewline(t *testing.T) {
	for s, want := range map[string]int{
		"":                  0,
		"back":              0,
		"back\nback":        1,
		"back\nfil":         1,
		"turn\nput 1 ":      1,
		"turn\nput 1 1":     1,
		"turn\nput 1 1\n":   2,
		"\n":                0,
		"\n\n":              0,
		"\nback\n":          0,
		"back\r\n":          0,
		"back\n\n":          1,
		"back\n\nback\n":    1,
		"back\n \nback\n":   1,
		"back\n\x00":        1,
		"back\x00\n":        0,
		"back\nback\nback ": 2,

		strings.Repeat("back", 1<<12):             0,
		strings.Repeat("\n", 1<<12):               0,
		strings.Repeat("back ", 1<<12) + "\n":     0,
		"turn\n" + strings.Repeat("turn", 1<<12):  1,
		strings.Repeat("back\n", 1<<12) + "turn?": 1 << 12,
	} {
		if list, _ := checkJournal(t, s); len(list) != want {
			t.Fatalf("of %q %d are read, want %d", s[:min(len(s), 40)], len(list), want)
		}
	}
}

func TestJournalsThatAreChangedAtOnePlace(t *testing.T) {
	for _, text := range []string{"put 1 -2\nback\n", "turn\n", "grow 1\nsieve 12\nmove -9 0\n"} {
		eachChange(text, func(s string) { checkJournal(t, s) })
	}
}

func TestLongJournals(t *testing.T) {
	for _, n := range []int{40, 41, 100, 20000} {
		list := manyDeeds(n, 99)
		text := impl.JournalText(list)
		read, bytes := checkJournal(t, text)
		if !slices.Equal(read, list) || bytes != len(text) {
			t.Fatalf("of %d deeds %d are read", n, len(read))
		}
		read, bytes = checkJournal(t, text+"back")
		if len(read) != n || bytes != len(text) {
			t.Fatalf("of %d deeds, and one without a newline, %d are read", n, len(read))
		}
	}
}

// Promise 58.

// sayBySets says one line after the other by sets.
func sayBySets(d desk, lines []string) (desk, []string) {
	var list []string
	for _, line := range lines {
		after, answer := lineBySets(d, line)
		d, list = after, append(list, answer)
	}
	return d, list
}

func checkSay(t *testing.T, d desk, lines []string) (desk, []string) {
	t.Helper()
	want, list := sayBySets(d, lines)
	got, told := impl.DeskSay(d, lines)
	if !slices.Equal(told, list) || slices.Contains(told, "") {
		t.Fatalf("%q at %v is answered by %q, want %q", lines, d, told, list)
	}
	wantDesk(t, "after lines", got, want)
	return got, told
}

// manyLines is deeds, questions and lines that are none, by turns.
func manyLines(n int, seed uint32) []string {
	others := append(questionLines(), "", "far 1 1", "far -3 9", "far 31 0", "far x", "put", "say", "picture ", "spots 1", "grow 7", "move 0 0")
	var lines []string
	for i, a := range manyDeeds(n, seed) {
		if i%2 == 0 {
			lines = append(lines, deedBySigns(a))
		} else {
			lines = append(lines, others[(int(seed)+i/2)%len(others)])
		}
	}
	return lines
}

func TestWhateverIsSaidTheTextTellsThePicture(t *testing.T) {
	pictures := slices.Concat(scattered(8, 2), scattered(4, 30), []spots{nil, pic(0, 0), squareRing(1), block(0, 0, 10, 60), cornerRing(4)})
	for i, p := range pictures {
		for j, n := range []int{0, 1, 2, 10, 39, 40} {
			d := deskOf(p, pastOf(pastCounts()[(i+j)%5])...)
			lines := manyLines(n, uint32(100*i+j))
			whole, list := checkSay(t, d, lines)
			for cut := range len(lines) + 1 {
				between, first := impl.DeskSay(d, lines[:cut])
				after, second := impl.DeskSay(between, lines[cut:])
				if !slices.Equal(slices.Concat(first, second), list) {
					t.Fatalf("%q, cut at %d: %q and %q, want %q", lines, cut, first, second, list)
				}
				wantDesk(t, "in two parts", after, whole)
				checkPictureIsTold(t, d, lines[:min(cut, 39)])
			}
		}
	}
}

func checkPictureIsTold(t *testing.T, d desk, lines []string) {
	t.Helper()
	after, list := impl.DeskSay(d, append(slices.Clone(lines), "picture"))
	p, ok := impl.ReadText(list[len(list)-1])
	if !ok || !same(p, after.Now) {
		t.Fatalf("%q is answered by %q, but the desk is %v", lines, list, after)
	}
}

func TestHowManyLinesAreSaid(t *testing.T) {
	lines := manyLines(100, 6)
	for n := range 101 {
		for _, d := range []desk{{}, deskOf(squareRing(1), pastOf(8)...)} {
			if n <= 40 {
				if _, list := checkSay(t, d, lines[:n]); len(list) != n {
					t.Fatalf("%d lines are answered by %q", n, list)
				}
				continue
			}
			after, list := impl.DeskSay(d, lines[:n])
			if len(list) != 0 {
				t.Fatalf("%d lines are answered by %q", n, list)
			}
			wantNoDesk(t, "too many lines", after)
		}
	}
	after, list := impl.DeskSay(deskOf(pic(0, 0)), make([]string, 41))
	if len(list) != 0 {
		t.Fatalf("too many empty lines are answered by %q", list)
	}
	wantNoDesk(t, "too many empty lines", after)
}

// TestExampleLines holds the lines and answers that the document shows behind its promises.
func TestExampleLines(t *testing.T) {
	d, ok := impl.DeskNew(together(row(0, 0, 3), pic(0, 1, 2, 1), row(0, 2, 3)))
	if !ok {
		t.Fatal("no desk")
	}
	pairs := [][2]string{
		{"picture", "0,0:###/#.#/###"},
		{"holes", "1"},
		{"euler", "0"},
		{"border", "16"},
		{"fill", "ok"},
		{"euler", "1"},
		{"back", "ok"},
		{"take 1 0", "ok"},
		{"holes", "0"},
		{"sieve 2", "ok"},
		{"picture", "-"},
		{"back", "ok"},
		{"far 5 1", "3"},
		{"move 1 -1", "ok"},
	}
	var lines, want []string
	for _, pair := range pairs {
		lines, want = append(lines, pair[0]), append(want, pair[1])
	}
	after, list := impl.DeskSay(d, lines)
	if !slices.Equal(list, want) {
		t.Fatalf("got %q, want %q", list, want)
	}
	wantDesk(t, "the example", after, deskOf(pic(1, -1, 3, -1, 1, 0, 3, 0, 1, 1, 2, 1, 3, 1), squareRingAt(1, 1), pic(0, 0, 2, 0, 0, 1, 2, 1, 0, 2, 1, 2, 2, 2)))
	checkSay(t, d, lines)
	for i, pair := range pairs {
		var answer string
		if d, answer = impl.DeskLine(d, pair[0]); answer != pair[1] {
			t.Fatalf("line %d, %q, is answered by %q, want %q", i+1, pair[0], answer, pair[1])
		}
	}
	wantDesk(t, "line by line", d, after)
}

// squareRingAt is the eight spots around x, y.
func squareRingAt(x, y int) spots {
	return movedTo(squareRing(1), x, y)
}

func TestNoDesksAndLines(t *testing.T) {
	for what, d := range noDesks() {
		for _, line := range append(manyLines(12, 4), "", "picture", "back", "put 1 1", "far 0 0", "what") {
			got, answer := impl.DeskLine(d, line)
			if answer != "" {
				t.Fatalf("%s: %q is answered by %q", what, line, answer)
			}
			wantNoDesk(t, what, got)
			got, list := impl.DeskSay(d, []string{line})
			if len(list) != 0 {
				t.Fatalf("%s: %q is answered by %q", what, line, list)
			}
			wantNoDesk(t, what, got)
		}
		got, list := impl.DeskSay(d, nil)
		if len(list) != 0 {
			t.Fatalf("%s: no lines are answered by %q", what, list)
		}
		wantNoDesk(t, what, got)
	}
}

// Promise 59.

func TestDesksCanForget(t *testing.T) {
	for _, p := range deskPictures() {
		for n := range 9 {
			d := deskOf(p, pastOf(n)...)
			if !impl.DeskOk(d) {
				t.Fatalf("%v is no desk", d)
			}
			for i := range n {
				if !impl.DeskOk(deskOf(p, d.Past[i:]...)) || !impl.DeskOk(deskOf(p, d.Past[:i]...)) {
					t.Fatalf("%v cannot forget", d)
				}
			}
			if !impl.DeskOk(desk{Now: p}) || !impl.DeskOk(desk{Now: p, Past: []spots{}}) {
				t.Fatalf("%v is no desk without those of before", d)
			}
		}
		if impl.DeskOk(deskOf(p, pastOf(9)...)) {
			t.Fatalf("%v is a desk with nine of before", p)
		}
	}
	if !impl.DeskOk(desk{}) {
		t.Fatal("the desk of the empty picture is none")
	}
}

func TestDesksOfPicturesAlone(t *testing.T) {
	for what, d := range noDesks() {
		if impl.DeskOk(d) {
			t.Fatalf("%s: this is a desk", what)
		}
	}
	// The same pictures are needed now and before: those that PictureOk takes.
	for _, far := range farSpots() {
		for _, d := range []desk{deskOf(spots{far}), deskOf(nil, spots{far}), deskOf(pic(0, 0), pic(0, 0), spots{far})} {
			if impl.DeskOk(d) {
				t.Fatalf("%v is a desk", d)
			}
		}
	}
	full := deskOf(block(0, 0, 10, 60))
	for range 8 {
		full.Past = append(full.Past, block(-30, 30, 60, 60))
	}
	if !impl.DeskOk(full) {
		t.Fatal("the greatest desk is none")
	}
}

// Promise 60.

func TestNewDesksHaveOnePicture(t *testing.T) {
	for _, p := range append(deskPictures(), subsets(28, 29)...) {
		d, ok := impl.DeskNew(p)
		if !ok || len(d.Past) != 0 {
			t.Fatalf("the desk of %v: %v %v", p, d, ok)
		}
		wantDesk(t, "new", d, deskOf(p))
	}
	for what, p := range invalid() {
		d, ok := impl.DeskNew(p)
		if ok {
			t.Fatalf("%s: the desk is %v", what, d)
		}
		wantNoDesk(t, what, d)
	}
	for _, far := range farSpots() {
		d, ok := impl.DeskNew(append(block(0, 0, 3, 9), far))
		if ok {
			t.Fatalf("%v is told", d)
		}
		wantNoDesk(t, "too far", d)
	}
}

func TestTheDeskOfTheEmptyPicture(t *testing.T) {
	for _, none := range []spots{nil, {}, make(spots, 0, 9)} {
		d, ok := impl.DeskNew(none)
		if !ok || !impl.DeskOk(d) || len(d.Now) != 0 || len(d.Past) != 0 {
			t.Fatalf("the desk is %v %v", d, ok)
		}
		for _, a := range nearDeeds() {
			if _, done := checkDo(t, d, a); done && a.Kind != impl.DkPut {
				t.Fatalf("%v is done", a)
			}
		}
		lines := append(questionLines(), "far 0 0", "back", "turn", "fill", "grow 0", "grow 1", "shrink 0", "sieve 1", "take 0 0", "move 1 0", "", "picture")
		after, list := checkSay(t, d, lines)
		if want := strings.Fields("- 0 0 0 0 0 0 yes none not not not not not not not not not what -"); !slices.Equal(list, want) {
			t.Fatalf("got %q, want %q", list, want)
		}
		wantDesk(t, "nothing is done", after, d)
		after, n := impl.DeskRun(d, manyDeeds(0, 0))
		if n != 0 {
			t.Fatalf("%d are done", n)
		}
		wantDesk(t, "no deeds", after, d)
	}
}

// Promise 61.

// checkDeedText holds the text of a deed of any kind against its signs, and against what is read from it.
func checkDeedText(t *testing.T, a deed) string {
	t.Helper()
	text := impl.DeedText(a)
	if want := deedBySigns(a); text != want {
		t.Fatalf("the text of %v is %q, want %q", a, text, want)
	}
	if text == "" {
		return ""
	}
	if got, ok := impl.ReadDeed(text); !ok || got != a {
		t.Fatalf("%q is read as %v %v, want %v", text, got, ok, a)
	}
	checkReadDeed(t, text)
	return text
}

func TestTextsOfDeedsAreRead(t *testing.T) {
	texts := map[string]bool{}
	for kind := range 9 {
		for x := -101; x <= 101; x++ {
			for _, y := range []int{-101, -100, -99, -98, -10, -9, -1, 0, 1, 9, 10, 98, 99, 100, 101} {
				for _, a := range []deed{deedOf(kind, x, y), deedOf(kind, y, x)} {
					texts[checkDeedText(t, a)] = true
				}
			}
		}
	}
	// With three words and both numbers: 199 by 13 twice, less what is counted twice; with three words and one number: 199; and three words alone.
	if want := 3*(2*199*11-11*11) + 3*199 + 3 + 1; len(texts) != want {
		t.Fatalf("there are %d texts, want %d", len(texts), want)
	}
}

func TestAFewTextsOfDeeds(t *testing.T) {
	for text, a := range map[string]deed{
		"put 0 0":      {},
		"put 1 2":      {Kind: 0, X: 1, Y: 2},
		"put -99 99":   {Kind: 0, X: -99, Y: 99},
		"take 30 -30":  {Kind: 1, X: 30, Y: -30},
		"take 0 -1":    {Kind: 1, Y: -1},
		"move -1 2":    {Kind: 2, X: -1, Y: 2},
		"move 99 -99":  {Kind: 2, X: 99, Y: -99},
		"move -10 -10": {Kind: 2, X: -10, Y: -10},
		"turn":         {Kind: 3},
		"grow 0":       {Kind: 4},
		"grow 1":       {Kind: 4, X: 1},
		"grow -99":     {Kind: 4, X: -99},
		"shrink 0":     {Kind: 5},
		"shrink 99":    {Kind: 5, X: 99},
		"sieve 5":      {Kind: 6, X: 5},
		"sieve 0":      {Kind: 6},
		"fill":         {Kind: 7},
		"back":         {Kind: 8},
	} {
		if got := impl.DeedText(a); got != text {
			t.Fatalf("the text of %v is %q, want %q", a, got, text)
		}
		if got, ok := impl.ReadDeed(text); !ok || got != a {
			t.Fatalf("%q is read as %v %v, want %v", text, got, ok, a)
		}
		checkDeedText(t, a)
	}
}

func TestDeedsWithoutAText(t *testing.T) {
	for _, x := range deedNumbers() {
		for _, y := range deedNumbers() {
			for kind := range 9 {
				checkDeedText(t, deedOf(kind, x, y))
			}
			for _, kind := range noKinds() {
				if text := impl.DeedText(deedOf(kind, x, y)); text != "" {
					t.Fatalf("a deed of the kind %d has the text %q", kind, text)
				}
			}
		}
	}
	for _, a := range []deed{
		{Kind: 0, X: 100}, {Kind: 1, Y: -100}, {Kind: 2, X: -100, Y: 100}, {Kind: 3, X: 1}, {Kind: 3, Y: 1}, {Kind: 4, Y: 1}, {Kind: 4, X: 100}, {Kind: 5, X: -100}, {Kind: 5, X: 1, Y: -1},
		{Kind: 6, X: 2, Y: 2}, {Kind: 6, X: math.MaxInt}, {Kind: 7, X: -1}, {Kind: 7, Y: math.MinInt}, {Kind: 8, X: 9}, {Kind: 8, Y: 1}, {Kind: 9}, {Kind: -1}, {Kind: 10, X: 1, Y: 1},
	} {
		if text := impl.DeedText(a); text != "" {
			t.Fatalf("%v has the text %q", a, text)
		}
	}
}

// Promise 62.

// checkReadDeed holds a text of any kind against what is read from it. It reports whether it is that of a deed.
func checkReadDeed(t *testing.T, s string) bool {
	t.Helper()
	want, isOne := readDeedBySigns(s)
	got, ok := impl.ReadDeed(s)
	if ok != isOne || got != want {
		t.Fatalf("ReadDeed of %q: got %v %v, want %v %v", s[:min(len(s), 200)], got, ok, want, isOne)
	}
	if !ok {
		return false
	}
	if text := impl.DeedText(got); text != s {
		t.Fatalf("%q is read as %v, which has the text %q", s, got, text)
	}
	if again, ok := impl.ReadDeed(s + " "); ok || again != (deed{}) {
		t.Fatalf("%q with a space behind is read as %v %v", s, again, ok)
	}
	return true
}

// noDeeds is texts of no deed, each kind by what is wrong with it.
func noDeeds() map[string][]string {
	return map[string][]string{
		"an empty text":         {"", " ", "  ", "\n", "\x00"},
		"a space ahead":         {" put 1 1", " turn", " grow 1", "  back", "\tback", "\nback"},
		"a space behind":        {"put 1 1 ", "turn ", "grow 1 ", "back  ", "fill\n", "back\r", "sieve 2\t", "put 1 ", "put ", "grow "},
		"a space twice":         {"put  1 1", "put 1  1", "grow  1", "move  1  1"},
		"no space":              {"put1 1", "put 11", "put11", "grow1", "sieve2", "put 1-1", "put-1 1", "put-1-1"},
		"another space":         {"put\t1 1", "put 1\t1", "grow\u00a01", "put 1\n1", "put 1,1", "put,1,1", "put 1, 1", "put\u20031 1", "put_1_1"},
		"a number too many":     {"put 1 1 1", "take 0 0 0", "move 1 1 0", "grow 1 0", "grow 0 0", "shrink 1 1", "sieve 2 0", "turn 0", "fill 0", "back 0", "back 1", "turn 0 0", "fill 1 1"},
		"a number too few":      {"put", "put 1", "take", "take 1", "move", "move 1", "grow", "shrink", "sieve"},
		"a plus":                {"put +1 1", "put 1 +1", "grow +1", "sieve +2", "move +0 0", "put -+1 1", "put + 1"},
		"zeroes ahead":          {"put 01 1", "put 1 01", "put 00 0", "put 0 00", "grow 00", "grow 01", "sieve 02", "move -01 0", "move 0 -09", "put 000000001 1"},
		"a minus ahead of 0":    {"put -0 0", "put 0 -0", "grow -0", "sieve -0", "move -0 -0", "shrink -0"},
		"two minus signs":       {"put --1 1", "grow --1", "put 1- 1", "put - 1", "put -1 -", "grow -", "move 1 -"},
		"a number too great":    {"put 100 0", "put 0 100", "put -100 0", "put 0 -100", "grow 100", "sieve -100", "shrink 1000000000", "put 999999999 0", "move 1234567890 0", "put 9223372036854775808 0", "put 18446744073709551616 0", "grow 4294967296", "grow -4294967295"},
		"more than nine digits": {"put 1000000000 0", "put 0 1000000000", "grow 0000000001", "sieve 10000000002", "move 99999999999999999999999 0", "grow 1" + strings.Repeat("0", 1<<12)},
		"no number":             {"put x 1", "put 1 x", "grow x", "put a b", "sieve two", "put 1.0 1", "put 0x1 1", "put 1e0 1", "put 1_0 1", "grow \xff", "put ١ ١", "grow １", "put # .", "grow nil"},
		"other words":           {"a", "Put 1 1", "PUT 1 1", "turns", "tur", "turned", "grown 1", "gro 1", "g 1", "fil", "fill!", "backs", "bac", "ba ck", "done", "say", "undo", "x 1 1", "1 1", "1", "0", "puts 1 1", "pu 1 1", "set 1 1", "Back", "bаck", "0 0 0", "8", "-1"},
		"questions":             append(questionLines(), "far 1 1", "far", "what", "ok", "not", "none", "yes", "no"),
		"two deeds":             {"back back", "turn fill", "put 1 1 put 1 1", "back\nback", "turn;turn", "grow 1\ngrow 1\n"},
	}
}

func TestTextsOfNoDeeds(t *testing.T) {
	for what, list := range noDeeds() {
		for _, s := range list {
			got, ok := impl.ReadDeed(s)
			if ok || got != (deed{}) || checkReadDeed(t, s) {
				t.Fatalf("%s: %q is read as %v %v", what, s[:min(len(s), 200)], got, ok)
			}
		}
	}
	for _, n := range greatNumbers() {
		for _, s := range []string{"put " + n + " 0", "put 0 " + n, "take -" + n + " 1", "grow " + n, "sieve -" + n, "move " + n + " " + n} {
			// The least of them have two digits.
			if checkReadDeed(t, s) != (len(n) == 2) {
				t.Fatalf("%q is told wrongly", s[:min(len(s), 200)])
			}
		}
	}
}

func TestReadTextsOfDeedsAreCanonical(t *testing.T) {
	read, refused := 0, 0
	visit := func(s string) {
		if checkReadDeed(t, s) {
			read++
		} else {
			refused++
		}
	}
	for n := range 7 {
		for _, w := range deskWords {
			eachText(w.word, " -01", n, visit)
		}
		eachText("put ", "-+0 19", n, visit)
	}
	for _, text := range []string{"put 0 0", "take -1 10", "move 99 -99", "turn", "grow 1", "shrink -10", "sieve 5", "fill", "back"} {
		eachChange(text, visit)
	}
	for x := -110; x <= 110; x++ {
		visit("sieve " + decimal(x))
		visit("take " + decimal(x) + " " + decimal(-x))
	}
	if read < 500 || refused < 50000 {
		t.Fatalf("only %d texts are read, and %d refused", read, refused)
	}
}

// Promise 63.

func TestJournalsAreRead(t *testing.T) {
	for n := range 60 {
		list := manyDeeds(n, uint32(n))
		text := impl.JournalText(list)
		if text != journalBySigns(list) || strings.Count(text, "\n") != n {
			t.Fatalf("the journal of %v is %q", list, text)
		}
		read, bytes := checkJournal(t, text)
		if !slices.Equal(read, list) || bytes != len(text) {
			t.Fatalf("of %q are read %v, %d bytes", text, read, bytes)
		}
	}
	for _, none := range [][]deed{nil, {}, make([]deed, 0, 5)} {
		if text := impl.JournalText(none); text != "" {
			t.Fatalf("the journal of no deeds is %q", text)
		}
	}
	text := impl.JournalText([]deed{{Kind: 8}, {Kind: 2, X: -1, Y: 2}, {}, {Kind: 6, X: 3}, {Kind: 8}})
	if text != "back\nmove -1 2\nput 0 0\nsieve 3\nback\n" {
		t.Fatalf("the journal is %q", text)
	}
}

func TestJournalsWithADeedWithoutAText(t *testing.T) {
	for _, bad := range []deed{{Kind: 9}, {Kind: -1}, {Kind: 3, X: 1}, {Kind: 4, Y: 1}, {Kind: 0, X: 100}, {Kind: 1, Y: -100}, {Kind: 6, X: -100}, {Kind: 8, Y: 1}, {Kind: math.MinInt}, {Kind: 0, X: math.MaxInt}} {
		for _, n := range []int{0, 1, 3, 40} {
			list := manyDeeds(n, 8)
			for i := range n + 1 {
				if text := impl.JournalText(slices.Insert(slices.Clone(list), i, bad)); text != "" {
					t.Fatalf("the journal with %v is %q", bad, text)
				}
			}
		}
	}
}

// Promise 64.

// checkLine holds a line of any kind against sets. It returns the answer.
func checkLine(t *testing.T, d desk, line string) string {
	t.Helper()
	want, wanted := lineBySets(d, line)
	got, answer := impl.DeskLine(d, line)
	if answer != wanted {
		t.Fatalf("%q at %v is answered by %q, want %q", line[:min(len(line), 200)], d, answer, wanted)
	}
	wantDesk(t, "after "+line[:min(len(line), 200)], got, want)
	if answer != "ok" {
		wantDesk(t, "the desk before "+line[:min(len(line), 200)], got, d)
	}
	if _, isDeed := impl.ReadDeed(line); isDeed != (answer == "ok" || answer == "not") {
		t.Fatalf("%q is answered by %q", line, answer)
	}
	return answer
}

func TestQuestionsChangeNothing(t *testing.T) {
	for i, p := range slices.Concat(deskPictures(), ringPictures()[:24], gridPictures(), touchingSquares()[:20]) {
		d := deskOf(p, pastOf(pastCounts()[i%5])...)
		for _, line := range append(questionLines(), "", "far 0 0", "far -30 30", "far 7 -4", "far 31 0", "far 0 -31", "far", "what") {
			checkLine(t, d, line)
		}
		if _, answer := impl.DeskLine(d, ""); answer != "what" {
			t.Fatalf("an empty line is answered by %q", answer)
		}
	}
}

func TestAFewAnswers(t *testing.T) {
	for rows, want := range map[string]string{
		"":                    "- 0 0 0 0 0 0 yes",
		"#":                   "0,0:# 1 1 1 0 1 4 yes",
		"##":                  "-1,0:## 2 1 1 0 1 6 yes",
		"#.#":                 "-1,0:#.# 2 2 2 0 2 8 no",
		"#. .#":               "-1,-1:.#/#. 2 2 1 0 1 8 yes",
		"### #.# ###":         "-1,-1:###/#.#/### 8 1 1 1 0 16 no",
		".#. #.# .#.":         "-1,-1:.#./#.#/.#. 4 4 1 1 0 16 no",
		"##### #.#.# #####":   "-2,-1:#####/#.#.#/##### 13 1 1 2 -1 24 no",
		"### ... ###":         "-1,-1:###/.../### 6 2 2 0 2 16 no",
		"#..":                 "-1,0:# 1 1 1 0 1 4 yes",
		"##. ### .##":         "-1,-1:.##/###/##. 7 1 1 0 1 12 yes",
		"###. #.## ###. ....": "-2,-2:###./#.##/###. 9 1 1 1 0 18 no",
	} {
		_, list := impl.DeskSay(deskOf(drawn(rows)), questionLines())
		if !slices.Equal(list, strings.Fields(want)) {
			t.Fatalf("%s: got %q, want %q", rows, list, want)
		}
	}
}

func TestHowFarSpotsAre(t *testing.T) {
	for _, d := range []desk{{}, deskOf(pic(0, 0)), deskOf(squareRing(1), pic(5, 5)), deskOf(pic(-30, 30, 30, -30)[2:]), deskOf(stair()), deskOf(scattered(3, 30)[2])} {
		for _, a := range block(-32, -32, 65, 65*65) {
			checkLine(t, d, "far "+decimal(a.X)+" "+decimal(a.Y))
		}
	}
	d := deskOf(pic(1, 2))
	for line, want := range map[string]string{
		"far 1 2":                     "0",
		"far 0 0":                     "3",
		"far 5 2":                     "4",
		"far -30 -30":                 "63",
		"far 30 30":                   "57",
		"far 30 -30":                  "61",
		"far -1 -1":                   "5",
		"far 31 0":                    "none",
		"far 0 31":                    "none",
		"far -31 -31":                 "none",
		"far 100 100":                 "none",
		"far 999999999 -999999999":    "none",
		"far -999999999 999999999":    "none",
		"far 123456789 0":             "none",
		"far 0 987654321":             "none",
		"far 1000000000 0":            "what",
		"far 0 1000000000":            "what",
		"far 0 -1000000000":           "what",
		"far -1000000000 0":           "what",
		"far 9999999999 9999999999":   "what",
		"far 4294967296 0":            "what",
		"far 4294967297 2":            "what",
		"far 18446744073709551617 2":  "what",
		"far -9223372036854775808 0":  "what",
		"far 9223372036854775807 0":   "what",
		"far 0 99999999999999999999":  "what",
		"far 0000000001 2":            "what",
		"far 01 2":                    "what",
		"far 1 02":                    "what",
		"far 00 0":                    "what",
		"far -0 2":                    "what",
		"far 1 -0":                    "what",
		"far +1 2":                    "what",
		"far 1 +2":                    "what",
		"far --1 2":                   "what",
		"far -01 2":                   "what",
		"far 1":                       "what",
		"far 1 ":                      "what",
		"far":                         "what",
		"far ":                        "what",
		"far  ":                       "what",
		"far 1 2 ":                    "what",
		"far 1 2 3":                   "what",
		"far 1 2 0":                   "what",
		" far 1 2":                    "what",
		"far  1 2":                    "what",
		"far 1  2":                    "what",
		"far1 2":                      "what",
		"far 12":                      "what",
		"far1 2 3":                    "what",
		"far\t1 2":                    "what",
		"far 1\t2":                    "what",
		"far 1 2\n":                   "what",
		"far x 0":                     "what",
		"far 0 x":                     "what",
		"far 0x1 2":                   "what",
		"far 1_0 2":                   "what",
		"far 1.0 2":                   "what",
		"far ١ ٢":                     "what",
		"far - 2":                     "what",
		"far 1 -":                     "what",
		"Far 1 2":                     "what",
		"FAR 1 2":                     "what",
		"fa 1 2":                      "what",
		"farr 1 2":                    "what",
		"near 1 2":                    "what",
		"0 1 2":                       "what",
		"1 2":                         "what",
		" 1 2":                        "what",
		"far 1 2\x00":                 "what",
		"far 1\x00 2":                 "what",
		"far 1 " + longNumber():       "what",
		"far " + longNumber() + " 1":  "what",
		"far -" + longNumber() + " 1": "what",
	} {
		if got := checkLine(t, d, line); got != want {
			t.Fatalf("%q is answered by %q, want %q", line, got, want)
		}
	}
}

func longNumber() string {
	return strings.Repeat("9", 1<<12)
}

func TestLinesThatAskHowFar(t *testing.T) {
	d := deskOf(pic(1, 2), pic(0, 0))
	for n := range 7 {
		eachText("far ", "-+0 19", n, func(line string) { checkLine(t, d, line) })
	}
	for _, n := range greatNumbers() {
		for _, line := range []string{"far " + n + " 0", "far 0 " + n, "far -" + n + " 1", "far " + n + " -" + n} {
			want := "what"
			if len(n) <= 9 {
				want = "none"
			}
			if got := checkLine(t, d, line); got != want {
				t.Fatalf("%q is answered by %q, want %q", line[:min(len(line), 200)], got, want)
			}
		}
	}
	for digits := 1; digits <= 12; digits++ {
		for _, n := range []string{strings.Repeat("9", digits), "1" + strings.Repeat("0", digits-1), "-1" + strings.Repeat("0", digits-1)} {
			checkLine(t, d, "far "+n+" 2")
			checkLine(t, d, "far 1 "+n)
		}
	}
}

func TestOtherLinesAreAnsweredByWhat(t *testing.T) {
	desks := []desk{{}, deskOf(squareRing(1), pastOf(8)...)}
	for what, list := range noDeeds() {
		if what == "questions" {
			continue
		}
		for _, line := range list {
			for _, d := range desks {
				if got := checkLine(t, d, line); got != "what" {
					t.Fatalf("%s: %q is answered by %q", what, line[:min(len(line), 200)], got)
				}
			}
		}
	}
	for _, line := range []string{"what", "ok", "not", "none", "yes", "no", "Picture", "PICTURE", "picture ", " picture", "pictures", "pictur", "picture\n", "picture 1", "spot", "spots 0", "fours", "4", "8", "hole", "eulers", "Euler", "borders", "fille", "filledx", "filled?", "picture spots", "spots\nfour", "\x00", "\xff", "-", "0,0:#", "desk"} {
		for _, d := range desks {
			if got := checkLine(t, d, line); got != "what" {
				t.Fatalf("%q is answered by %q", line, got)
			}
		}
	}
}

func TestLinesThatAreChangedAtOnePlace(t *testing.T) {
	told := map[string]int{}
	d := deskOf(squareRing(1), pastOf(2)...)
	for _, line := range append(questionLines(), "far 1 -9", "far 999999999 0", "put 10 2", "back", "grow 0") {
		eachChange(line, func(s string) { told[checkLine(t, d, s)]++ })
	}
	for _, answer := range []string{"ok", "not", "none", "what", "1", "0", "16", "no"} {
		if told[answer] == 0 {
			t.Fatalf("no line is answered by %q: %v", answer, told)
		}
	}
}

func TestDeedsAreSaid(t *testing.T) {
	for i, p := range deskPictures() {
		d := deskOf(p, pastOf(pastCounts()[i%5])...)
		for _, a := range nearDeeds() {
			text := deedBySigns(a)
			if text == "" {
				continue
			}
			_, done := impl.DeskDo(d, a)
			got, answer := impl.DeskLine(d, text)
			if want := map[bool]string{true: "ok", false: "not"}[done]; answer != want {
				t.Fatalf("%q at %v is answered by %q, want %q", text, d, answer, want)
			}
			want, _ := impl.DeskDo(d, a)
			wantDesk(t, text, got, want)
		}
	}
	for _, few := range fewDeeds() {
		d := deskOf(drawn(few[0]))
		answer := checkLine(t, d, few[1])
		if (answer == "not") != (few[2] == "not") {
			t.Fatalf("%s: %q is answered by %q", few[0], few[1], answer)
		}
	}
	// A deed has a text with numbers up to 99, whether or not it can be done with them.
	for line, want := range map[string]string{
		"put 99 99": "not", "put -99 -99": "not", "take 99 0": "not", "move 99 0": "not", "move -99 0": "not", "grow 99": "not", "grow -99": "not", "shrink -99": "not", "sieve 99": "not", "sieve -99": "not",
		"put 100 99": "what", "put -100 -99": "what", "take 100 0": "what", "move 0 100": "what", "move -100 0": "what", "grow 100": "what", "grow -100": "what", "shrink -100": "what", "sieve 100": "what",
		"put 0 0": "ok", "move 29 -29": "ok", "move 30 0": "not", "put 30 30": "ok", "put 31 30": "not",
	} {
		if got := checkLine(t, deskOf(squareRing(1)), line); got != want {
			t.Fatalf("%q is answered by %q, want %q", line, got, want)
		}
	}
}

// The general rules: arguments are not written to, results are new and apart from each other, and the same argument is answered the same each time.

// cloneDesk is a desk of its own, with nothing behind its slices.
func cloneDesk(d desk) desk {
	past := make([]spots, len(d.Past))
	for i, p := range d.Past {
		past[i] = slices.Clone(p)
	}
	return deskOf(slices.Clone(d.Now), past...)
}

// picturesOf is all pictures of a desk, those in the spare capacity of Past included.
func picturesOf(d desk) []spots {
	return append([]spots{d.Now}, d.Past[:cap(d.Past)]...)
}

// scribbleDesk writes to all of a desk, spare capacity included.
func scribbleDesk(d desk) {
	for _, p := range picturesOf(d) {
		scribble(p)
	}
	past := d.Past[:cap(d.Past)]
	for i := range past {
		past[i] = pic(9999, -9999)
	}
}

// roomyDesk is a desk whose slices are each in the middle of a longer one; whole is all these longer ones, one behind the other.
func roomyDesk(d desk) (part desk, whole func() []impl.Spot) {
	wholeNow, now := roomy(d.Now, at(-7777, 7777))
	wholes := []spots{wholeNow}
	var past []spots
	for _, p := range d.Past {
		wholePast, one := roomy(p, at(-7777, 7777))
		wholes, past = append(wholes, wholePast), append(past, one)
	}
	list := make([]spots, 5+len(past)+9)
	for i := range list {
		list[i] = pic(-8888, i)
	}
	copy(list[5:], past)
	return desk{Now: now, Past: list[5 : 5+len(past)]}, func() []impl.Spot {
		return slices.Concat(slices.Concat(wholes...), slices.Concat(list...))
	}
}

// checkDeskMemory calls a function with a roomy desk: the desk and what lies around it must stay, and what is written to a result must be seen neither in the desk, nor in a later result, nor in another picture of the result.
func checkDeskMemory(t *testing.T, what string, call func(d desk) desk, d desk) {
	t.Helper()
	part, whole := roomyDesk(d)
	before := whole()
	stays := func(when string) {
		t.Helper()
		if !slices.Equal(whole(), before) || !sameDesk(part, d) {
			t.Fatalf("%s: the desk %v changes %s", what, d, when)
		}
	}
	first := call(part)
	want := cloneDesk(first)
	stays("by the call")
	scribbleDesk(first)
	stays("with the result")
	second := call(part)
	wantDesk(t, what+", once more", second, want)
	scribbleDesk(first)
	wantDesk(t, what+", beside the result of before", second, want)
	scribbleDesk(part)
	wantDesk(t, what+", after a change of the desk", second, want)
	for i := range picturesOf(second) {
		got := call(cloneDesk(d))
		scribble(picturesOf(got)[i])
		for j, p := range append([]spots{got.Now}, got.Past...) {
			if i != j && !same(p, append([]spots{want.Now}, want.Past...)[j]) {
				t.Fatalf("%s of %v: what is written to %d changes %d", what, d, i, j)
			}
		}
	}
}

// memoryDesks is desks with pictures of before, also with the same slice more than once.
func memoryDesks() []desk {
	list := []desk{{}, deskOf(spots{}), deskOf(nil, nil, nil)}
	for _, p := range []spots{pic(0, 0), squareRing(1), block(-1, -1, 3, 9), row(0, 0, 3), pic(0, 0, 2, 0), block(0, 0, 10, 60)} {
		for _, n := range pastCounts() {
			list = append(list, deskOf(p, pastOf(n)...))
		}
		list = append(list, deskOf(p, p), deskOf(p, p, p, p), deskOf(p, p, p, p, p, p, p, p, p))
	}
	return list
}

func TestDesksShareNoMemory(t *testing.T) {
	bad := []desk{deskOf(pic(0, 0), pastOf(9)...), deskOf(pic(1, 0, 0, 0), pastOf(2)...), deskOf(pic(0, 0), pic(0, 0), pic(31, 0)), deskOf(block(0, 0, 10, 61))}
	for _, d := range append(memoryDesks(), bad...) {
		for _, a := range append(manyDeeds(30, 3), deedOf(impl.DkBack), deedOf(impl.DkTurn), deedOf(impl.DkFill), deedOf(impl.DkSieve, 1), deedOf(impl.DkSieve, 3), deedOf(impl.DkGrow, 1), deedOf(impl.DkShrink, 0), deedOf(impl.DkMove, 1, 1), deedOf(impl.DkPut, 0, -7), deedOf(impl.DkTake, 0, 0), deedOf(9)) {
			checkDeskMemory(t, "DeskDo", func(d desk) desk {
				after, _ := impl.DeskDo(d, a)
				return after
			}, d)
			checkDeskMemory(t, "DeskLine", func(d desk) desk {
				after, _ := impl.DeskLine(d, deedBySigns(a))
				return after
			}, d)
		}
		for _, n := range []int{0, 1, 2, 20} {
			checkDeskMemory(t, "DeskRun", func(d desk) desk {
				after, _ := impl.DeskRun(d, manyDeeds(n, 5))
				return after
			}, d)
			checkDeskMemory(t, "DeskSay", func(d desk) desk {
				after, _ := impl.DeskSay(d, manyLines(n, 5))
				return after
			}, d)
		}
		for _, line := range append(questionLines(), "", "far 1 1", "far x") {
			checkDeskMemory(t, "DeskLine, "+line, func(d desk) desk {
				after, _ := impl.DeskLine(d, line)
				return after
			}, d)
		}
		checkDeskMemory(t, "DeskNew", func(d desk) desk {
			after, _ := impl.DeskNew(d.Now)
			return after
		}, d)
	}
}

func TestListsOfDeedsAndLinesStay(t *testing.T) {
	mark, other := deedOf(77, 77, 77), deedOf(99, 99, 99)
	for _, d := range memoryDesks() {
		for _, n := range []int{0, 1, 7, 40} {
			checkNew(t, "DeskRun", func(args [][]deed) spots {
				after, _ := impl.DeskRun(d, args[0])
				return after.Now
			}, mark, at(9999, -9999), manyDeeds(n, 2))
			checkNew(t, "DeskSay", func(args [][]string) []string {
				_, list := impl.DeskSay(d, args[0])
				return list
			}, "written", "overwritten", manyLines(n, 2))
		}
	}
	for _, n := range []int{0, 1, 7, 40, 100} {
		list := manyDeeds(n, 4)
		checkNew(t, "JournalText", func(args [][]deed) []string { return []string{impl.JournalText(args[0])} }, mark, "overwritten", list)
		text := impl.JournalText(list)
		for _, s := range []string{text, text + "back", text + "\n", "\n" + text} {
			checkNew(t, "ReadJournal", func([][]deed) []deed {
				read, _ := impl.ReadJournal(s)
				return read
			}, mark, other)
		}
	}
}

func TestDesksAnswerTheSameEachTime(t *testing.T) {
	for i, d := range memoryDesks() {
		lines := manyLines(40, uint32(i))
		after, list := checkSay(t, cloneDesk(d), lines)
		for range 10 {
			// What is said at another desk between does not change what is answered next.
			checkSay(t, deskOf(cornerRing(2)), lines[:i%40])
			again, told := impl.DeskSay(cloneDesk(d), slices.Clone(lines))
			if !slices.Equal(told, list) {
				t.Fatalf("%q, again: got %q, want %q", lines, told, list)
			}
			wantDesk(t, "again", again, after)
		}
	}
}

// TestLinesOfChangedBytes holds that nothing is kept of a text: its bytes may be another text's later.
func TestLinesOfChangedBytes(t *testing.T) {
	buffer := []byte("put 1 -2\nback\n")
	list, n := impl.ReadJournal(string(buffer))
	overwrite(buffer, 'x')
	if n != 14 || !slices.Equal(list, []deed{deedOf(impl.DkPut, 1, -2), deedOf(impl.DkBack)}) {
		t.Fatalf("the journal changes: %v %d", list, n)
	}
	if text := impl.JournalText(list); text != "put 1 -2\nback\n" {
		t.Fatalf("the journal changes: %q", text)
	}
}

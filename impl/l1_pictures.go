package impl

import (
	"cmp"
	"slices"
)

// MaxSpots is the maximum number of spots of a picture, and MaxFar is how far a spot is from 0 each way, at most.
const (
	MaxSpots = 60
	MaxFar   = 30
)

// Spot is how far to the right (X), and how far up (Y).
type Spot struct {
	X int
	Y int
}

// PictureOk reports whether there are at most MaxSpots spots, each in -MaxFar..MaxFar both ways, in order: each next one in a higher row, or in the same row further to the right.
func PictureOk(p []Spot) bool {
	if len(p) > MaxSpots {
		return false
	}
	for i, a := range p {
		if !spotWithin(a, MaxFar) || i > 0 && rowOrder(p[i-1], a) >= 0 {
			return false
		}
	}
	return true
}

// HasSpot reports whether a picture (PictureOk) has a spot; false for others.
func HasSpot(p []Spot, a Spot) bool {
	if !PictureOk(p) {
		return false
	}
	return inPicture(p, a)
}

// UnionOf returns the picture of all spots of two pictures (PictureOk), and true; nil and false if these are more than MaxSpots, and for others.
func UnionOf(p []Spot, q []Spot) ([]Spot, bool) {
	if !PictureOk(p) || !PictureOk(q) {
		return nil, false
	}
	return told(merged(p, q, rowOrder, inEither))
}

// CommonOf returns the picture of all spots that two pictures (PictureOk) both have; nil for others.
func CommonOf(p []Spot, q []Spot) []Spot {
	if !PictureOk(p) || !PictureOk(q) {
		return nil
	}
	return merged(p, q, rowOrder, inBoth)
}

// WithinOk reports whether each spot of a picture is one of another picture (PictureOk); false for others.
func WithinOk(p []Spot, q []Spot) bool {
	return PictureOk(p) && PictureOk(q) && len(CommonOf(p, q)) == len(p)
}

// MovedBy returns a picture (PictureOk) with all spots moved by a spot of which both numbers are in -2*MaxFar..2*MaxFar: by so much to the right, and so much up; and true; nil and false if that is none (PictureOk), and for others.
func MovedBy(p []Spot, a Spot) ([]Spot, bool) {
	if !PictureOk(p) || !spotWithin(a, 2*MaxFar) {
		return nil, false
	}
	moved := make([]Spot, len(p))
	for i, b := range p {
		moved[i] = added(a, b)
	}
	return told(moved)
}

// TurnedOf returns a picture (PictureOk) turned by half a turn about the spot 0, 0: each number of each spot with the other sign; nil for others.
func TurnedOf(p []Spot) []Spot {
	if !PictureOk(p) {
		return nil
	}
	turned := make([]Spot, len(p))
	for i, a := range p {
		// The last spot in order is the first one after half a turn.
		turned[len(p)-1-i] = Spot{X: -a.X, Y: -a.Y}
	}
	return turned
}

// told returns new spots in order, and true, if they are a picture, and nil and false for others.
func told(p []Spot) ([]Spot, bool) {
	if !PictureOk(p) {
		return nil, false
	}
	return p, true
}

// inPicture takes a picture that is known to be one, so that many spots can be looked for in it.
func inPicture(p []Spot, a Spot) bool {
	_, found := indexIn(p, a)
	return found
}

// indexIn returns at which index spots in order, of which there may be more than a picture has, have a spot, and whether they do.
func indexIn(list []Spot, a Spot) (int, bool) {
	return slices.BinarySearchFunc(list, a, rowOrder)
}

// spotWithin compares with both ends: the least int has no counterpart with the other sign.
func spotWithin(a Spot, far int) bool {
	return -far <= a.X && a.X <= far && -far <= a.Y && a.Y <= far
}

// added takes spots of which no sum is greater than an int.
func added(a, b Spot) Spot {
	return Spot{X: a.X + b.X, Y: a.Y + b.Y}
}

// rowOrder is the order of the spots of a picture: less than 0 if a comes first, 0 if both are equal.
func rowOrder(a, b Spot) int {
	return cmp.Or(cmp.Compare(a.Y, b.Y), cmp.Compare(a.X, b.X))
}

// merged returns in order those elements of two ascending slices for which keep holds of whether the one and the other slice has them.
func merged[T any](a, b []T, order func(T, T) int, keep func(inA, inB bool) bool) []T {
	var out []T
	for len(a) > 0 || len(b) > 0 {
		side := headOrder(a, b, order)
		inA, inB := side <= 0, side >= 0
		var head T
		if inA {
			head, a = a[0], a[1:]
		}
		if inB {
			head, b = b[0], b[1:]
		}
		if keep(inA, inB) {
			out = append(out, head)
		}
	}
	return out
}

// headOrder compares the first elements of two slices of which at most one is empty; an empty one comes last, so that the other one is used up.
func headOrder[T any](a, b []T, order func(T, T) int) int {
	switch {
	case len(a) == 0:
		return 1
	case len(b) == 0:
		return -1
	}
	return order(a[0], b[0])
}

func inEither(inA, inB bool) bool {
	return inA || inB
}

func inBoth(inA, inB bool) bool {
	return inA && inB
}

func inFirstAlone(inA, inB bool) bool {
	return inA && !inB
}

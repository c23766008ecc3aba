// Package code: deeds and rounds, and whether they are well made. See doc/01-code.md.
package code

import (
	"slices"

	"caracole/api"
)

// limits has of each kind how many numbers, from 0 on, its A, B and C may be; 0: the kind has no such part.
var limits = [...][3]int{
	api.ONum:   {api.MaxRegs, 0, 0},
	api.OLoad:  {api.MaxRegs, api.MaxKeys, 0},
	api.OAdd:   {api.MaxRegs, api.MaxRegs, api.MaxRegs},
	api.OSub:   {api.MaxRegs, api.MaxRegs, api.MaxRegs},
	api.OMul:   {api.MaxRegs, api.MaxRegs, api.MaxRegs},
	api.OLess:  {api.MaxRegs, api.MaxRegs, api.MaxRegs},
	api.OStore: {api.MaxKeys, api.MaxRegs, 0},
	api.OStop:  {api.MaxRegs, 0, 0},
	api.OSkip:  {api.MaxRegs, api.MaxOps, 0},
}

// Check tells the first fault of a deed; the zero Fault: it has none.
func Check(d api.Deed) api.Fault {
	if len(d) > api.MaxOps {
		return api.Fault{Code: api.ErrMany, At: -1}
	}
	for i, o := range d {
		if c := checkAlone(o); c != 0 {
			return api.Fault{Code: c, At: i}
		}
	}
	return checkPlaces(d)
}

// checkAlone tells the code of what is wrong with an operation wherever it stands.
func checkAlone(o api.Op) int {
	if o.Kind < api.ONum || o.Kind > api.OSkip {
		return api.ErrKind
	}
	for i, part := range [3]int{o.A, o.B, o.C} {
		if c := checkPart(part, limits[o.Kind][i]); c != 0 {
			return c
		}
	}
	if o.N != 0 && o.Kind != api.ONum {
		return api.ErrForm
	}
	return 0
}

func checkPart(part, limit int) int {
	if limit == 0 {
		if part != 0 {
			return api.ErrForm
		}
		return 0
	}
	if part < 0 || part >= limit {
		return api.ErrRange
	}
	return 0
}

// checkPlaces goes over operations that are well made on their own once more: a fault of a place is
// told only when no operation has one of its own.
func checkPlaces(d api.Deed) api.Fault {
	stored := false
	for i, o := range d {
		behind := len(d) - 1 - i
		switch {
		case o.Kind == api.OStore:
			stored = true
		case o.Kind == api.OStop && stored:
			return api.Fault{Code: api.ErrOrder, At: i}
		case o.Kind == api.OSkip && (o.B < 1 || o.B > behind):
			return api.Fault{Code: api.ErrRange, At: i}
		}
	}
	return api.Fault{}
}

// Round tells the code of the first fault of a round; 0: it has none.
func Round(r api.Round) int {
	if len(r) > api.MaxDeeds {
		return api.ErrMany
	}
	for _, d := range r {
		if f := Check(d); f.Code != 0 {
			return f.Code
		}
	}
	return 0
}

// Keys tells the keys that a deed may store to, rising, each once.
func Keys(d api.Deed) []int {
	// The deed need not be a checked one: an A that is no key is not told.
	var stored [api.MaxKeys]bool
	for _, o := range d {
		if o.Kind == api.OStore && o.A >= 0 && o.A < api.MaxKeys {
			stored[o.A] = true
		}
	}
	var keys []int
	for k, is := range stored {
		if is {
			keys = append(keys, k)
		}
	}
	return keys
}

// Same tells whether two deeds are the same, operation by operation.
func Same(a, b api.Deed) bool { return slices.Equal(a, b) }

// SameRound tells whether two rounds are the same, deed by deed.
func SameRound(a, b api.Round) bool { return slices.EqualFunc(a, b, Same) }

// Own answers a round like r in memory of its own.
func Own(r api.Round) api.Round {
	own := make(api.Round, len(r))
	for i, d := range r {
		// Not slices.Clone: of an empty list it keeps a pointer to what was handed in.
		own[i] = make(api.Deed, len(d))
		copy(own[i], d)
	}
	return own
}

// Package cost: what a word costs: a number from 0 on, or endless.
package cost

import (
	"math"
	"strconv"
)

const (
	mostCount = 1 << 30 // Part takes no count above it
	big       = 1e14    // from here on the tenths would not all be told apart
)

// Right tells whether x is a cost. The sign is asked for by itself, as -0 holds equal to 0.
func Right(x float64) bool {
	return x >= 0 && !math.Signbit(x)
}

// Endless is the cost of what never comes.
func Endless() float64 {
	return math.Inf(1)
}

// Sum adds costs. Each is looked at, as adding alone would hide one that is none, such as -1.
func Sum(l ...float64) float64 {
	sum := 0.0
	for _, x := range l {
		if !Right(x) {
			return math.NaN()
		}
		sum += x
	}
	return sum
}

// Least tells the place of the least cost. Held against Endless at the start, one that is endless is never taken.
func Least(l ...float64) int {
	place, least := -1, Endless()
	for i, x := range l {
		if Right(x) && x < least {
			place, least = i, x
		}
	}
	return place
}

// Part divides some by all. An all of 0 stands by itself: 0 by 0 is the whole of nothing, not the float's NaN.
func Part(some, all int) float64 {
	if !counted(some) || !counted(all) {
		return math.NaN()
	}
	if all > 0 {
		return float64(some) / float64(all)
	}
	if some == 0 {
		return 1
	}
	return Endless()
}

func counted(n int) bool {
	return 0 <= n && n <= mostCount
}

// Print tells a cost in tenths. Below big the tenths fit an int64, and its cutting is rounding down, as none is below 0.
func Print(x float64) string {
	if !Right(x) {
		return "none"
	}
	if math.IsInf(x, 1) {
		return "endless"
	}
	if x >= big {
		return "big"
	}
	tenths := int64(x * 10)
	return strconv.FormatInt(tenths/10, 10) + "." + strconv.FormatInt(tenths%10, 10)
}

// Package aid helps the tests of the layers: things of api, written in short. No layer uses it.
package aid

import (
	"slices"
	"strconv"

	"epitaph/api"
)

// Edges of numbers, of devices and of dots.
const (
	Most  = api.MaxCount
	Above = api.MaxCount + 1
	Huge  = 1<<64 - 1
	Last  = api.MaxDev
)

// Dot is a dot.
func Dot(dev uint16, n uint64) api.Dot {
	return api.Dot{Dev: dev, N: n}
}

// Dots are some dots, of each the device and the number one behind another.
func Dots(parts ...uint64) []api.Dot {
	list := []api.Dot{}
	for i := 0; i+1 < len(parts); i += 2 {
		list = append(list, Dot(uint16(parts[i]), parts[i+1]))
	}
	return list
}

// Never are dots that may not be, each for one cause or for both.
func Never() []api.Dot {
	return Dots(0, 0, 0, 1, 0, 2, 0, Most, 0, Above, 0, Huge, 1, 0, 1, Above, 1, Above+1, 1, Huge, 2, 0, 2, Above, 2, Huge,
		Last, 0, Last, Above, Last, Huge-1, Last, Huge)
}

// Told is a dot as text, also of one that may not be.
func Told(d api.Dot) string {
	return strconv.Itoa(int(d.Dev)) + "." + strconv.FormatUint(d.N, 10)
}

// Runs is a list of runs, its ends one behind another.
func Runs(ends ...uint64) []api.Run {
	list := []api.Run{}
	for i := 0; i+1 < len(ends); i += 2 {
		list = append(list, api.Run{Lo: ends[i], Hi: ends[i+1]})
	}
	return list
}

// Part is a part of a context, the ends of its runs one behind another.
func Part(dev uint16, ends ...uint64) api.Part {
	return api.Part{Dev: dev, Runs: Runs(ends...)}
}

// Copied shares nothing with a context, and has its rooms as well.
func Copied(c api.Ctx) api.Ctx {
	other := slices.Clone(c)
	for i, p := range other {
		other[i].Runs = slices.Clone(p.Runs)
	}
	return other
}

// Alike tells whether two contexts are the same part by part and run by run.
func Alike(a, b api.Ctx) bool {
	return slices.EqualFunc(a, b, func(x, y api.Part) bool { return x.Dev == y.Dev && slices.Equal(x.Runs, y.Runs) })
}

// Lists goes over all lists of up to so many of some things.
func Lists[T any](things []T, upto int, do func(l []T)) {
	var from func(l []T)
	from = func(l []T) {
		do(l)
		if len(l) >= upto {
			return
		}
		for _, x := range things {
			from(append(slices.Clip(l), x))
		}
	}
	from(nil)
}

// Orders are a list's things in each order.
func Orders[T any](l []T) [][]T {
	if len(l) < 2 {
		return [][]T{slices.Clone(l)}
	}
	var all [][]T
	for i, x := range l {
		others := append(slices.Clone(l[:i]), l[i+1:]...)
		for _, rest := range Orders(others) {
			all = append(all, append([]T{x}, rest...))
		}
	}
	return all
}

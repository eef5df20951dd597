package aid

import (
	"slices"

	"epitaph/api"
)

// Devs are all devices that the tests speak of, rising.
func Devs() []uint16 {
	return []uint16{0, 1, 2, 3, 255, 256, 32767, 32768, 65534, 65535}
}

// Silent are runs that tell nothing, each for one cause or for more than one.
func Silent() []api.Run {
	return Runs(0, 0, 0, 5, 0, Most, 0, Above, 0, Huge, 5, 4, 5, 0, 2, 1, Most, 1, Most, Most-1, Above, Most,
		1, Above, 1, Huge, 5, Above, Most, Above, Most, Huge, Above, Above, Above, Huge, Huge, Huge, Huge, Above, Huge, 1)
}

// Mute are parts that have no dot.
func Mute() api.Ctx {
	list := api.Ctx{{}, {Dev: 1}, {Dev: Last}, Part(2), Part(0, 1, 1), Part(0, 1, Most), Part(0, 3, 4, 1, 2),
		{Dev: 2, Runs: Silent()}, {Dev: 0, Runs: Silent()}}
	for _, r := range Silent() {
		list = append(list, Part(1, r.Lo, r.Hi), Part(Last, r.Lo, r.Hi))
	}
	return list
}

// Straight are contexts in order, of all kinds of sizes.
func Straight() []api.Ctx {
	return []api.Ctx{
		nil,
		{},
		{Part(1, 1, 1)},
		{Part(1, 1, 2)},
		{Part(1, 1, Most)},
		{Part(1, Most, Most)},
		{Part(Last, 1, 1)},
		{Part(Last, Most, Most)},
		{Part(1, 1, 1, 3, 3)},
		{Part(1, 1, 5, 7, 9, 11, Most)},
		{Part(1, 2, 2, Most-1, Most)},
		{Part(1, 1, 2, 4, 4), Part(2, 2, 2)},
		{Part(1, 255, 256), Part(255, 1, 255, 257, 65536), Part(256, 1, 1), Part(Last-1, 2, 3), Part(Last, 1, Most)},
	}
}

// Crooked are contexts that are not in order, each with the one that has the same dots.
func Crooked() [][2]api.Ctx {
	return [][2]api.Ctx{
		{{{Dev: 1}}, {}},
		{{Part(0, 1, 1)}, {}},
		{{Part(1, 0, 0)}, {}},
		{{Part(1, 0, 5)}, {}},
		{{Part(1, 2, 1)}, {}},
		{{Part(1, 1, Above)}, {}},
		{{Part(1, Above, Above)}, {}},
		{{Part(1, Huge, Huge)}, {}},
		{{Part(0, 1, 1), Part(1, 1, 1)}, {Part(1, 1, 1)}},
		{{Part(1, 1, 1), {Dev: 2}}, {Part(1, 1, 1)}},
		{{Part(1, 1, 1), Part(2, 3, 2)}, {Part(1, 1, 1)}},
		{{{Dev: 1}, Part(2, 1, 1)}, {Part(2, 1, 1)}},
		{{Part(2, 1, 1), Part(1, 1, 1)}, {Part(1, 1, 1), Part(2, 1, 1)}},
		{{Part(256, 1, 1), Part(255, 1, 1)}, {Part(255, 1, 1), Part(256, 1, 1)}},
		{{Part(1, 1, 1), Part(1, 1, 1)}, {Part(1, 1, 1)}},
		{{Part(1, 1, 1), Part(1, 2, 2)}, {Part(1, 1, 2)}},
		{{Part(1, 1, 1), Part(1, 3, 3)}, {Part(1, 1, 1, 3, 3)}},
		{{Part(1, 1, 1), Part(2, 1, 1), Part(1, 2, 2)}, {Part(1, 1, 2), Part(2, 1, 1)}},
		{{Part(3, 1, 1), Part(1, 1, 1), Part(2, 1, 1)}, {Part(1, 1, 1), Part(2, 1, 1), Part(3, 1, 1)}},
		{{Part(1, 3, 3, 1, 1)}, {Part(1, 1, 1, 3, 3)}},
		{{Part(1, 1, 1, 2, 2)}, {Part(1, 1, 2)}},
		{{Part(1, 1, 2, 3, 4)}, {Part(1, 1, 4)}},
		{{Part(1, 1, 5, 3, 9)}, {Part(1, 1, 9)}},
		{{Part(1, 1, 9, 3, 5)}, {Part(1, 1, 9)}},
		{{Part(1, 1, 1, 1, 1)}, {Part(1, 1, 1)}},
		{{Part(1, 1, 1, 5, 4, 3, 3)}, {Part(1, 1, 1, 3, 3)}},
		{{Part(1, 1, 1, 3, Above)}, {Part(1, 1, 1)}},
		{{Part(1, 1, Most-1, Most, Most)}, {Part(1, 1, Most)}},
		{{Part(1, 0, 0, 1, 1)}, {Part(1, 1, 1)}},
	}
}

// AnyDots are up to some dots, round the edges, some of which may not be.
func AnyDots(g Chance, upto int) []api.Dot {
	var list []api.Dot
	for range g.Intn(upto + 1) {
		n := []uint64{uint64(g.Intn(9)), Most + 2 - uint64(g.Intn(6)), Huge - uint64(g.Intn(2)), g.Uint64() >> g.Intn(64)}[g.Intn(4)]
		list = append(list, Dot(Devs()[g.Intn(len(Devs()))], n))
	}
	return list
}

// AnyCtx is up to some parts of up to some runs, of any kind.
func AnyCtx(g Chance, parts, upto int) api.Ctx {
	nums := []uint64{0, 1, 2, 3, 4, 5, 6, 7, 8, 9, Most - 4, Most - 3, Most - 2, Most - 1, Most, Above, Huge}
	var c api.Ctx
	for range g.Intn(parts + 1) {
		p := api.Part{Dev: Devs()[g.Intn(5)]}
		if g.Intn(4) == 0 {
			p.Dev = Devs()[g.Intn(len(Devs()))]
		}
		for range g.Intn(upto + 1) {
			lo, hi := g.Intn(len(nums)), g.Intn(len(nums))
			if g.Intn(4) > 0 {
				hi = min(lo+g.Intn(4), len(nums)-1)
			}
			p.Runs = append(p.Runs, api.Run{Lo: nums[lo], Hi: nums[hi]})
		}
		c = append(c, p)
	}
	return c
}

// SpoilRuns writes into all of a list of runs, the room behind it, too.
func SpoilRuns(l []api.Run) {
	l = l[:cap(l)]
	for i := range l {
		l[i] = api.Run{Lo: 77, Hi: 78}
	}
}

// SpoilCtx writes into all of a context, its runs, and the rooms behind them.
func SpoilCtx(c api.Ctx) {
	c = c[:cap(c)]
	for i := range c {
		SpoilRuns(c[i].Runs)
		c[i] = Part(77, 78, 79)
	}
}

// Roomy is a copy of a context, with room behind its parts and behind each part's runs, in which other things stand.
func Roomy(c api.Ctx) api.Ctx {
	other := append(Copied(c), Mute()...)
	for i := range c {
		other[i].Runs = append(other[i].Runs, Silent()...)[:len(other[i].Runs)]
	}
	return other[:len(c)]
}

// Whole is a copy of a context, of what stands in the rooms behind it, too.
func Whole(c api.Ctx) api.Ctx {
	other := slices.Clone(c[:cap(c)])
	for i, p := range other {
		other[i].Runs = slices.Clone(p.Runs[:cap(p.Runs)])
	}
	return other
}

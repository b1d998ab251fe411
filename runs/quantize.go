package runs

import (
	"sort"

	"barscan/api"
)

// Quantize returns whole numbers of modules that add up to total, as near as possible to the proportions of the widths.
func Quantize(widths []int, total int) ([]int, api.Errno) {
	if len(widths) == 0 {
		return nil, api.ErrEmpty
	}
	if len(widths) > api.MaxRow {
		return nil, api.ErrLong
	}
	if !areWidths(widths) || total < len(widths) || total > api.MaxRow {
		return nil, api.ErrRange
	}
	return division{sum: sum(widths), total: total}.divide(widths), api.OK
}

// A division distributes a total of modules over widths that have a sum.
//
// If a width w has r modules, one more changes the sum of the squares of sum*r - total*w by sum times its cost, sum*(2r+1) - 2*total*w. The cost grows with r, so the sum of the squares is least if the modules with the least costs are taken, after the first module of each width.
type division struct {
	sum, total int
}

// divide returns the numbers of modules of the widths. Among modules with equal costs those of the first widths are taken, which gives the lexicographically greatest list.
func (d division) divide(widths []int) []int {
	limit := d.leastLimit(widths)
	rest := d.total - d.needed(widths, limit-1)
	list := make([]int, len(widths))
	for i, w := range widths {
		list[i] = d.share(w, limit-1)
		if rest > 0 && d.share(w, limit) > list[i] {
			list[i]++
			rest--
		}
	}
	return list
}

// share returns the number of modules of a width if those are taken whose cost is at most limit. It is at least 1.
func (d division) share(width, limit int) int {
	return max(1, (2*d.total*width+d.sum+limit)/(2*d.sum))
}

// needed returns the number of modules of all widths if those are taken whose cost is at most limit.
func (d division) needed(widths []int, limit int) int {
	n := 0
	for _, w := range widths {
		n += d.share(w, limit)
	}
	return n
}

// leastLimit returns the least limit for which at least total modules are taken.
func (d division) leastLimit(widths []int) int {
	// With the first limit no width has a second module; with the last one each width has all of its proportion, rounded up.
	first, last := -2*d.total*d.sum, d.sum
	return first + sort.Search(last-first, func(i int) bool { return d.needed(widths, first+i) >= d.total })
}

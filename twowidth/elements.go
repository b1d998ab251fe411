package twowidth

// Inside of the package elements are characters, so that they can be compared with the patterns as they are written.
const (
	narrow = 'n'
	wide   = 'w'
)

// elementsOf returns elements as characters.
func elementsOf(list []bool) string {
	elements := make([]byte, len(list))
	for i, isWide := range list {
		elements[i] = narrow
		if isWide {
			elements[i] = wide
		}
	}
	return string(elements)
}

// wideOf returns which elements are wide.
func wideOf(elements string) []bool {
	list := make([]bool, len(elements))
	for i := range list {
		list[i] = elements[i] == wide
	}
	return list
}

// widthsOf returns the widths of elements, of which a wide one has ratio modules.
func widthsOf(elements string, ratio int) []int {
	widths := make([]int, len(elements))
	for i := range widths {
		widths[i] = 1
		if elements[i] == wide {
			widths[i] = ratio
		}
	}
	return widths
}

// interleaved returns the elements whose bars and spaces are two patterns of the same length.
func interleaved(bars, spaces string) string {
	var elements []byte
	for i := range len(bars) {
		elements = append(elements, bars[i], spaces[i])
	}
	return string(elements)
}

// everySecond returns the bars of elements, and the spaces.
func everySecond(elements string) (bars, spaces string) {
	var parts [2][]byte
	for i := range len(elements) {
		parts[i%2] = append(parts[i%2], elements[i])
	}
	return string(parts[0]), string(parts[1])
}

package tests

const (
	greatestInt = 1<<63 - 1
	leastInt    = -1 << 63
)

// sameInts reports whether two lists have the same numbers in the same order.
func sameInts(a []int, b []int) bool {
	if len(a) != len(b) {
		return false
	}
	for i := range a {
		if a[i] != b[i] {
			return false
		}
	}
	return true
}

// copyInts returns a list with the same numbers in new memory.
func copyInts(list []int) []int {
	out := make([]int, len(list))
	copy(out, list)
	return out
}

// reversed returns the numbers of a list from the last one to the first one.
func reversed(list []int) []int {
	out := make([]int, len(list))
	for i := range list {
		out[len(list)-1-i] = list[i]
	}
	return out
}

// negated returns the numbers of a list with the other sign.
func negated(list []int) []int {
	out := make([]int, len(list))
	for i := range list {
		out[i] = -list[i]
	}
	return out
}

// repeated returns a list of n equal numbers.
func repeated(number int, n int) []int {
	out := make([]int, n)
	for i := range out {
		out[i] = number
	}
	return out
}

// spread returns n numbers in low..high that look irregular and are the same for the same seed.
func spread(n int, seed int, low int, high int) []int {
	out := make([]int, n)
	for i := range out {
		out[i] = low + (seed*7919+i*i*37+i*101)%(high-low+1)
	}
	return out
}

// absolute returns a number without its sign.
func absolute(n int) int {
	if n < 0 {
		return -n
	}
	return n
}

// evenGrid returns a grid, of a pond or of a heap, of which all cells have the same number.
func evenGrid(rows int, columns int, number int) [][]int {
	g := make([][]int, rows)
	for y := range g {
		g[y] = repeated(number, columns)
	}
	return g
}

// badCells returns numbers that are no cells of a grid.
func badCells(g [][]int) []int {
	return []int{-1, countCells(g), countCells(g) + 1, -countCells(g), greatestInt, leastInt}
}

// countCells returns the number of cells of a grid.
func countCells(g [][]int) int {
	count := 0
	for _, row := range g {
		count += len(row)
	}
	return count
}

// numberAt returns the number of a grid at a cell.
func numberAt(g [][]int, cell int) int {
	return g[cell/len(g[0])][cell%len(g[0])]
}

// turnedGrid returns a grid with rows and columns exchanged.
func turnedGrid(g [][]int) [][]int {
	turned := evenGrid(len(g[0]), len(g), 0)
	for y := range turned {
		for x := range turned[y] {
			turned[y][x] = g[x][y]
		}
	}
	return turned
}

// sameGrid reports whether two grids have the same rows.
func sameGrid(a [][]int, b [][]int) bool {
	if len(a) != len(b) {
		return false
	}
	for y := range a {
		if !sameInts(a[y], b[y]) {
			return false
		}
	}
	return true
}

// gridCopy returns the same grid in new memory.
func gridCopy(g [][]int) [][]int {
	out := make([][]int, len(g))
	for y := range g {
		out[y] = copyInts(g[y])
	}
	return out
}

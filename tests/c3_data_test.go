package tests

import "loop.example/iceharvest/impl"

// layout is a list of cakes and their sides.
type layout struct {
	list []impl.Cake
	w    int
	h    int
}

// fieldOf returns a field of rows of text, in which # is ice.
func fieldOf(rows ...string) [][]bool {
	f := make([][]bool, len(rows))
	for y, row := range rows {
		f[y] = make([]bool, len(row))
		for x := range f[y] {
			f[y][x] = row[x] == '#'
		}
	}
	return f
}

// evenField returns a field of ice alone, or without ice.
func evenField(rows int, columns int, ice bool) [][]bool {
	f := make([][]bool, rows)
	for y := range f {
		f[y] = make([]bool, columns)
		for x := range f[y] {
			f[y][x] = ice
		}
	}
	return f
}

// mixedField returns a field with ice in five of six cells, or fewer, that looks irregular.
func mixedField(rows int, columns int, seed int) [][]bool {
	f := evenField(rows, columns, false)
	for y := range f {
		for x, kind := range spread(columns, seed+y*y, 0, 5) {
			f[y][x] = kind > seed%3
		}
	}
	return f
}

// smallFields returns fields of at most MaxSmall rows and columns.
func smallFields() [][][]bool {
	return [][][]bool{
		fieldOf("#"),
		fieldOf("."),
		fieldOf("#####"),
		fieldOf("##.##"),
		fieldOf(".####"),
		fieldOf("#", "#", ".", "#", "#"),
		fieldOf("####", "#.##", "####"),
		fieldOf(".##.", "####", "####"),
		fieldOf("####.", ".####"),
		fieldOf("##.", "###", ".##"),
		fieldOf("#.#.#", ".#.#.", "#.#.#", ".#.#.", "#.#.#"),
		evenField(impl.MaxSmall, impl.MaxSmall, true),
		evenField(impl.MaxSmall, impl.MaxSmall, false),
		evenField(impl.MaxSmall, 2, true),
		mixedField(impl.MaxSmall, impl.MaxSmall, 1),
		mixedField(impl.MaxSmall, impl.MaxSmall, 3),
		mixedField(4, impl.MaxSmall, 6),
		mixedField(3, 4, 9),
	}
}

// sampleFields returns fields of all shapes, the smallest and the largest among them.
func sampleFields() [][][]bool {
	large := [][][]bool{
		evenField(1, impl.MaxSide, true),
		evenField(impl.MaxSide, 1, true),
		evenField(impl.MaxSide, impl.MaxSide, true),
		evenField(impl.MaxSide, impl.MaxSide, false),
		fieldOf(".####....", "#########", "#########", "##..#####", "...######", ".########"),
		mixedField(1, impl.MaxSide, 3),
		mixedField(2, impl.MaxSide, 6),
		mixedField(impl.MaxSide, 7, 12),
		mixedField(impl.MaxSide, impl.MaxSide, 3),
		mixedField(impl.MaxSide, impl.MaxSide, 4),
	}
	return append(smallFields(), large...)
}

// badFields returns fields that are not valid, each for one reason alone.
func badFields() [][][]bool {
	return [][][]bool{
		nil,
		{},
		{nil},
		{{}},
		{{}, {}},
		{{true}, {}},
		{{}, {true}},
		{{true}, {true, true}},
		{{true, true}, {true}},
		{{true, true}, {true, true}, {true, true, true}},
		evenField(impl.MaxSide+1, 1, true),
		evenField(1, impl.MaxSide+1, true),
		evenField(impl.MaxSide+1, impl.MaxSide, true),
		evenField(impl.MaxSide, impl.MaxSide+1, true),
	}
}

// allSides returns all sides that cakes can have.
func allSides() [][2]int {
	sides := [][2]int{}
	for w := 1; w <= impl.MaxCake; w++ {
		for h := 1; h <= impl.MaxCake; h++ {
			sides = append(sides, [2]int{w, h})
		}
	}
	return sides
}

// badSides returns sides that cakes cannot have, each for one reason alone.
func badSides() [][2]int {
	return [][2]int{
		{0, 1}, {1, 0}, {-1, 1}, {1, -1}, {impl.MaxCake + 1, 1}, {1, impl.MaxCake + 1},
		{0, 2}, {2, 0}, {-2, 2}, {2, -2}, {-1, -1}, {0, 0},
		{greatestInt, 1}, {1, greatestInt}, {leastInt, 1}, {1, leastInt}, {greatestInt, 2}, {2, leastInt},
	}
}

// gridOf returns the cakes of a whole grid, row by row, of which the first one is at a place.
func gridOf(columns int, rows int, w int, h int, x int, y int) layout {
	list := []impl.Cake{}
	for row := 0; row < rows; row++ {
		for column := 0; column < columns; column++ {
			list = append(list, impl.Cake{X: x + column*w, Y: y + row*h})
		}
	}
	return layout{list, w, h}
}

// fewLayouts returns valid cakes, at most MaxFew of them.
func fewLayouts() []layout {
	return []layout{
		{nil, 1, 1},
		{nil, 4, 4},
		{[]impl.Cake{{}}, 1, 1},
		{[]impl.Cake{{X: 8, Y: 8}}, 1, 1},
		{[]impl.Cake{{X: 5, Y: 5}}, 4, 4},
		{[]impl.Cake{{}, {X: 2}, {X: 2, Y: 1}}, 2, 1},
		{[]impl.Cake{{}, {X: 2, Y: 1}}, 2, 2},
		// Cakes that touch at a corner, apart ones, and ones above each other.
		{[]impl.Cake{{X: 2, Y: 2}, {}, {X: 4}}, 2, 2},
		{[]impl.Cake{{X: 6}, {X: 3, Y: 4}, {Y: 8}}, 3, 1},
		{[]impl.Cake{{Y: 6}, {Y: 3}, {}}, 4, 3},
		// Cakes that are next to each other by a part of their sides, as bricks are.
		{[]impl.Cake{{X: 1, Y: 2}, {X: 3, Y: 2}, {Y: 1}, {X: 2, Y: 1}, {X: 1}, {X: 3}}, 2, 1},
		{[]impl.Cake{{}, {X: 3, Y: 1}, {X: 6, Y: 2}, {X: 3, Y: 4}, {Y: 3}}, 3, 3},
		{[]impl.Cake{{X: 4}, {Y: 3}, {X: 5, Y: 4}, {Y: 0}}, 4, 3},
		gridOf(3, 1, 2, 1, 0, 0),
		gridOf(1, 4, 3, 2, 6, 1),
		gridOf(3, 2, 3, 4, 0, 1),
		gridOf(2, 2, 4, 4, 1, 0),
		gridOf(impl.MaxFew, 1, 1, 4, 3, 5),
	}
}

// sampleLayouts returns valid cakes, few and many, of which some cover the largest field.
func sampleLayouts() []layout {
	large := []layout{
		gridOf(9, 9, 1, 1, 0, 0),
		gridOf(4, 4, 2, 2, 1, 0),
		gridOf(3, 3, 3, 3, 0, 0),
		gridOf(2, 9, 4, 1, 1, 0),
		{[]impl.Cake{{X: 8}, {Y: 2}, {}, {X: 3, Y: 3}, {X: 8, Y: 8}, {Y: 8}, {X: 4, Y: 3}}, 1, 1},
	}
	for _, sides := range allSides() {
		large = append(large, cutFrom(mixedField(impl.MaxSide, impl.MaxSide, 3), sides[0], sides[1]))
	}
	return append(fewLayouts(), large...)
}

// cutFrom returns cakes of a field, each at the first place that is left, column by column.
func cutFrom(f [][]bool, w int, h int) layout {
	list := []impl.Cake{}
	for x := 0; x+w <= len(f[0]); x++ {
		for y := 0; y+h <= len(f); y++ {
			cake := impl.Cake{X: x, Y: y}
			if allIce(f, cake, w, h) && apartFrom(list, cake, w, h) {
				list = append(list, cake)
			}
		}
	}
	return layout{list, w, h}
}

// badLayouts returns cakes that are not valid, each for one reason alone.
func badLayouts() []layout {
	list := []layout{
		{[]impl.Cake{{}, {}}, 1, 1},
		{[]impl.Cake{{}, {X: 1}}, 2, 1},
		{[]impl.Cake{{Y: 1}, {}}, 1, 2},
		{[]impl.Cake{{}, {X: 4}, {X: 3, Y: 3}}, 4, 4},
		{[]impl.Cake{{X: 3, Y: 3}, {X: 1, Y: 5}, {X: 5, Y: 5}}, 3, 3},
		{[]impl.Cake{{X: 2}, {Y: 2}, {X: 2}}, 2, 2},
		{append(gridOf(9, 9, 1, 1, 0, 0).list, impl.Cake{X: 4, Y: 4}), 1, 1},
	}
	for _, sides := range allSides() {
		for _, cake := range placesOutside(sides[0], sides[1]) {
			list = append(list, layout{[]impl.Cake{cake}, sides[0], sides[1]})
		}
	}
	for _, sides := range badSides() {
		list = append(list, layout{nil, sides[0], sides[1]}, layout{[]impl.Cake{{X: 3, Y: 3}}, sides[0], sides[1]})
	}
	return list
}

// placesOutside returns places at which a cake is not within the largest field.
func placesOutside(w int, h int) []impl.Cake {
	return []impl.Cake{
		{X: -1}, {Y: -1}, {X: impl.MaxSide - w + 1}, {Y: impl.MaxSide - h + 1}, {X: impl.MaxSide}, {Y: impl.MaxSide},
		{X: greatestInt}, {Y: greatestInt}, {X: leastInt}, {Y: leastInt}, {X: leastInt, Y: leastInt},
	}
}

// allIce reports whether all cells of a cake are ice of a field.
func allIce(f [][]bool, cake impl.Cake, w int, h int) bool {
	for cell := 0; cell < w*h; cell++ {
		x := cake.X + cell%w
		y := cake.Y + cell/w
		if y >= len(f) || x >= len(f[y]) || !f[y][x] {
			return false
		}
	}
	return true
}

// shareCell reports whether two cakes have a cell in common, by a look at all their cells.
func shareCell(a impl.Cake, b impl.Cake, w int, h int) bool {
	for cell := 0; cell < w*h; cell++ {
		x := a.X + cell%w
		y := a.Y + cell/w
		if x >= b.X && x < b.X+w && y >= b.Y && y < b.Y+h {
			return true
		}
	}
	return false
}

// apartFrom reports whether a cake has no cell in common with any one of a list.
func apartFrom(list []impl.Cake, cake impl.Cake, w int, h int) bool {
	for _, other := range list {
		if shareCell(other, cake, w, h) {
			return false
		}
	}
	return true
}

// turnedField returns a field with rows and columns exchanged.
func turnedField(f [][]bool) [][]bool {
	turned := evenField(len(f[0]), len(f), false)
	for y := range turned {
		for x := range turned[y] {
			turned[y][x] = f[x][y]
		}
	}
	return turned
}

// sameField reports whether two fields have the same rows.
func sameField(a [][]bool, b [][]bool) bool {
	if len(a) != len(b) {
		return false
	}
	for y := range a {
		if len(a[y]) != len(b[y]) {
			return false
		}
		for x := range a[y] {
			if a[y][x] != b[y][x] {
				return false
			}
		}
	}
	return true
}

// fieldCopy returns the same field in new memory.
func fieldCopy(f [][]bool) [][]bool {
	out := make([][]bool, len(f))
	for y := range f {
		out[y] = make([]bool, len(f[y]))
		copy(out[y], f[y])
	}
	return out
}

// sameCakes reports whether two lists have the same cakes in the same order.
func sameCakes(a []impl.Cake, b []impl.Cake) bool {
	if len(a) != len(b) {
		return false
	}
	for i := range a {
		if a[i] != b[i] {
			return false
		}
	}
	return true
}

// copyCakes returns a list with the same cakes in new memory.
func copyCakes(list []impl.Cake) []impl.Cake {
	out := make([]impl.Cake, len(list))
	copy(out, list)
	return out
}

// cakesWithout returns the cakes of a list but one, in new memory.
func cakesWithout(list []impl.Cake, index int) []impl.Cake {
	return append(copyCakes(list[:index]), list[index+1:]...)
}

// orderWithout returns an order without an index, in which those past it are 1 less.
func orderWithout(order []int, index int) []int {
	out := []int{}
	for _, i := range order {
		if i < index {
			out = append(out, i)
		}
		if i > index {
			out = append(out, i-1)
		}
	}
	return out
}

// allOrders returns all orders of the indices of n cakes or customers.
func allOrders(n int) [][]int {
	if n == 0 {
		return [][]int{{}}
	}
	orders := [][]int{}
	for _, order := range allOrders(n - 1) {
		for place := 0; place <= len(order); place++ {
			longer := append(copyInts(order[:place]), n-1)
			orders = append(orders, append(longer, order[place:]...))
		}
	}
	return orders
}

// countTo returns the indices of n cakes or customers, ascending.
func countTo(n int) []int {
	out := make([]int, n)
	for i := range out {
		out[i] = i
	}
	return out
}

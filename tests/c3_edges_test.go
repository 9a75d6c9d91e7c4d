package tests

import (
	"testing"

	"loop.example/iceharvest/impl"
)

func TestSawConstants(t *testing.T) {
	if impl.MaxCake != 4 || impl.MaxSmall != 5 || impl.MaxFew != 6 {
		t.Error("MaxCake, MaxSmall or MaxFew")
	}
}

func TestValidFieldEdges(t *testing.T) {
	for _, f := range sampleFields() {
		if !impl.ValidField(f) {
			t.Errorf("ValidField(%v) is false", f)
		}
	}
	for _, f := range badFields() {
		if impl.ValidField(f) {
			t.Errorf("ValidField(%v) is true", f)
		}
	}
}

func TestAreaOfEdges(t *testing.T) {
	checkArea(t, fieldOf("#"), 1)
	checkArea(t, fieldOf("."), 0)
	checkArea(t, fieldOf("#.#"), 2)
	checkArea(t, fieldOf("#", ".", "#", "#"), 3)
	checkArea(t, fieldOf("####", "#.##", "####"), 11)
	checkArea(t, evenField(1, impl.MaxSide, true), 9)
	checkArea(t, evenField(impl.MaxSide, 1, true), 9)
	checkArea(t, evenField(impl.MaxSide, impl.MaxSide, true), 81)
	checkArea(t, evenField(impl.MaxSide, impl.MaxSide, false), 0)
	for _, f := range badFields() {
		checkArea(t, f, -1)
	}
}

func checkArea(t *testing.T, f [][]bool, want int) {
	if got := impl.AreaOf(f); got != want {
		t.Errorf("AreaOf(%v) = %d, not %d", f, got, want)
	}
}

func TestCakesAtEdges(t *testing.T) {
	holed := fieldOf("####", "#.##", "####")
	checkCakes(t, holed, 2, 1, 0, 0, impl.Cake{}, impl.Cake{X: 2}, impl.Cake{X: 2, Y: 1}, impl.Cake{Y: 2}, impl.Cake{X: 2, Y: 2})
	checkCakes(t, holed, 2, 1, 1, 0, impl.Cake{X: 1}, impl.Cake{X: 1, Y: 2})
	checkCakes(t, holed, 1, 2, 0, 0, impl.Cake{}, impl.Cake{X: 2}, impl.Cake{X: 3})
	checkCakes(t, holed, 1, 2, 0, 1, impl.Cake{Y: 1}, impl.Cake{X: 2, Y: 1}, impl.Cake{X: 3, Y: 1})
	checkCakes(t, holed, 2, 2, 0, 0, impl.Cake{X: 2})
	checkCakes(t, holed, 2, 2, 0, 1, impl.Cake{X: 2, Y: 1})
	checkCakes(t, holed, 2, 2, 1, 0)
	checkCakes(t, holed, 2, 2, 1, 1)
	checkCakes(t, fieldOf("#"), 1, 1, 0, 0, impl.Cake{})
	checkCakes(t, fieldOf("."), 1, 1, 0, 0)
	checkCakes(t, fieldOf("#.#"), 1, 1, 0, 0, impl.Cake{}, impl.Cake{X: 2})
	checkCakes(t, fieldOf("#.", ".#"), 1, 1, 0, 0, impl.Cake{}, impl.Cake{X: 1, Y: 1})
	checkCakes(t, evenField(3, 3, false), 1, 1, 0, 0)
	checkCakes(t, evenField(1, impl.MaxSide, true), 4, 1, 0, 0, impl.Cake{}, impl.Cake{X: 4})
	checkCakes(t, evenField(1, impl.MaxSide, true), 4, 1, 1, 0, impl.Cake{X: 1}, impl.Cake{X: 5})
	checkCakes(t, evenField(1, impl.MaxSide, true), 4, 1, 2, 0, impl.Cake{X: 2})
	checkCakes(t, evenField(1, impl.MaxSide, true), 4, 1, 3, 0, impl.Cake{X: 3})
	checkCakes(t, evenField(impl.MaxSide, 1, true), 1, 4, 0, 1, impl.Cake{Y: 1}, impl.Cake{Y: 5})
	checkCakes(t, evenField(impl.MaxSide, 1, true), 1, 4, 0, 3, impl.Cake{Y: 3})
}

func TestCakesAtOfTheLargestCakes(t *testing.T) {
	full := evenField(impl.MaxSide, impl.MaxSide, true)
	checkCakes(t, full, 4, 4, 0, 0, impl.Cake{}, impl.Cake{X: 4}, impl.Cake{Y: 4}, impl.Cake{X: 4, Y: 4})
	checkCakes(t, full, 4, 4, 1, 1, impl.Cake{X: 1, Y: 1}, impl.Cake{X: 5, Y: 1}, impl.Cake{X: 1, Y: 5}, impl.Cake{X: 5, Y: 5})
	checkCakes(t, full, 4, 4, 3, 3, impl.Cake{X: 3, Y: 3})
	checkCakes(t, full, 4, 4, 3, 0, impl.Cake{X: 3}, impl.Cake{X: 3, Y: 4})
	checkCakes(t, full, 4, 4, 0, 3, impl.Cake{Y: 3}, impl.Cake{X: 4, Y: 3})
	if got := len(impl.CakesAt(full, 1, 1, 0, 0)); got != 81 {
		t.Errorf("%d cakes of one cell", got)
	}
}

func TestCakesLargerThanTheField(t *testing.T) {
	checkCakes(t, evenField(3, 3, true), 4, 1, 0, 0)
	checkCakes(t, evenField(3, 3, true), 1, 4, 0, 0)
	checkCakes(t, evenField(3, 3, true), 4, 4, 0, 0)
	checkCakes(t, evenField(3, 3, true), 4, 4, 3, 3)
	checkCakes(t, evenField(3, 3, true), 3, 3, 0, 0, impl.Cake{})
	// A grid that begins too far to the right, or too far down, has no whole cake.
	checkCakes(t, evenField(3, 3, true), 3, 3, 1, 0)
	checkCakes(t, evenField(3, 3, true), 3, 3, 0, 1)
	checkCakes(t, fieldOf("#"), 2, 1, 0, 0)
	checkCakes(t, fieldOf("#"), 2, 1, 1, 0)
	checkCakes(t, fieldOf("#"), 1, 2, 0, 1)
	checkCakes(t, fieldOf("#"), 4, 4, 3, 3)
}

func checkCakes(t *testing.T, f [][]bool, w int, h int, dx int, dy int, want ...impl.Cake) {
	if got := impl.CakesAt(f, w, h, dx, dy); !sameCakes(got, want) {
		t.Errorf("CakesAt(%v, %d, %d, %d, %d) = %v, not %v", f, w, h, dx, dy, got, want)
	}
}

func TestBestGridEdges(t *testing.T) {
	checkBest(t, fieldOf("####", "#.##", "####"), 2, 1, 0, 0)
	checkBest(t, fieldOf(".####"), 2, 1, 1, 0)
	checkBest(t, fieldOf(".", "#", "#", "#", "#"), 1, 2, 0, 1)
	checkBest(t, fieldOf("....", ".###", ".###", ".###"), 3, 3, 1, 1)
	full := evenField(impl.MaxSide, impl.MaxSide, true)
	checkBest(t, full, 4, 4, 0, 0)
	checkBest(t, full, 1, 1, 0, 0)
	full[0][0] = false
	checkBest(t, full, 4, 4, 1, 0)
	full[0][1] = false
	checkBest(t, full, 4, 4, 0, 1)
	checkBest(t, fieldOf("........#", ".........", ".........", "....####.", "....####.", "....####.", "....####."), 4, 4, 0, 3)
	checkBest(t, fieldOf("...####", "...####", "...####", "...####"), 4, 4, 3, 0)
	checkBest(t, evenField(1, impl.MaxSide, true), 4, 1, 0, 0)
	checkBest(t, evenField(impl.MaxSide, 1, true), 1, 4, 0, 0)
}

func TestBestGridOfEqualGrids(t *testing.T) {
	// All grids have one cake.
	checkBest(t, fieldOf("###", "###", "###"), 2, 2, 0, 0)
	// With one cake each, the grids 1, 0 and 0, 1: the least dy counts, and not the least dx.
	checkBest(t, fieldOf(".##", "###", "##."), 2, 2, 1, 0)
	// The grids 0, 1 and 1, 1: the least dx of the least dy.
	checkBest(t, fieldOf("...", "###", "###"), 2, 2, 0, 1)
	// The grids 1, 0 and 1, 1, with two cakes each.
	checkBest(t, fieldOf(".####", ".####", ".####"), 2, 2, 1, 0)
	checkBest(t, fieldOf("..####.."), 3, 1, 0, 0)
	checkBest(t, fieldOf(".###.###."), 3, 1, 1, 0)
	// Grids without a cake are equal, too.
	checkBest(t, fieldOf("."), 1, 1, 0, 0)
	checkBest(t, evenField(impl.MaxSide, impl.MaxSide, false), 4, 4, 0, 0)
	checkBest(t, fieldOf("#.#", ".#.", "#.#"), 2, 2, 0, 0)
	checkBest(t, evenField(3, 3, true), 4, 1, 0, 0)
	checkBest(t, evenField(3, 3, true), 1, 4, 0, 0)
	checkBest(t, evenField(3, 3, true), 4, 4, 0, 0)
	checkBest(t, fieldOf("#"), 4, 4, 0, 0)
}

func checkBest(t *testing.T, f [][]bool, w int, h int, wantX int, wantY int) {
	if gotX, gotY := impl.BestGrid(f, w, h); gotX != wantX || gotY != wantY {
		t.Errorf("BestGrid(%v, %d, %d) = %d, %d, not %d, %d", f, w, h, gotX, gotY, wantX, wantY)
	}
}

func TestMostCakesEdges(t *testing.T) {
	holed := fieldOf("####", "#.##", "####")
	checkMost(t, holed, 2, 1, 5)
	checkMost(t, holed, 1, 2, 3)
	checkMost(t, holed, 2, 2, 1)
	checkMost(t, holed, 1, 3, 3)
	checkMost(t, holed, 3, 1, 2)
	checkMost(t, holed, 4, 1, 2)
	checkMost(t, fieldOf("#####"), 2, 1, 2)
	checkMost(t, fieldOf("#####"), 4, 1, 1)
	checkMost(t, fieldOf("#####"), 1, 2, 0)
	checkMost(t, fieldOf("#", "#", "#", "#", "#"), 1, 2, 2)
	checkMost(t, fieldOf("#", "#", "#", "#", "#"), 2, 1, 0)
	checkMost(t, fieldOf("##.##"), 2, 1, 2)
	checkMost(t, fieldOf("#"), 2, 1, 0)
	checkMost(t, fieldOf("."), 1, 2, 0)
}

func TestMostCakesOfTheLargestFields(t *testing.T) {
	full := evenField(impl.MaxSmall, impl.MaxSmall, true)
	for _, c := range [][3]int{
		{2, 1, 10}, {1, 2, 10}, {3, 1, 5}, {1, 3, 5}, {4, 1, 5}, {1, 4, 5}, {2, 2, 4},
		{2, 3, 2}, {3, 2, 2}, {2, 4, 2}, {4, 2, 2}, {3, 3, 1}, {3, 4, 1}, {4, 3, 1}, {4, 4, 1},
	} {
		checkMost(t, full, c[0], c[1], c[2])
		checkMost(t, evenField(impl.MaxSmall, impl.MaxSmall, false), c[0], c[1], 0)
		checkMost(t, fieldOf("#.#.#", ".#.#.", "#.#.#", ".#.#.", "#.#.#"), c[0], c[1], 0)
		// No cake of the sides is within a field of one cell, whatever its ice.
		checkMost(t, fieldOf("#"), c[0], c[1], 0)
	}
	checkMost(t, evenField(impl.MaxSmall, 1, true), 1, 4, 1)
	checkMost(t, evenField(1, impl.MaxSmall, true), 4, 1, 1)
}

func TestMostCakesWhereNoGridHasTheMost(t *testing.T) {
	checkMostOffGrid(t, fieldOf("##.##"), 2, 1, 2)
	checkMostOffGrid(t, fieldOf("####.", ".####"), 2, 1, 4)
	checkMostOffGrid(t, fieldOf("#.", "##", "##", "##", ".#"), 1, 2, 4)
	checkMostOffGrid(t, fieldOf("##..", "####", "####", "##.."), 2, 2, 3)
	checkMostOffGrid(t, fieldOf("##...", "##.##", "...##", ".##..", ".##.."), 2, 2, 3)
	checkMostOffGrid(t, fieldOf("###..", "###..", ".####", "..###"), 3, 2, 2)
	// The first place of a cake is not one of the most, nor the last one.
	checkMost(t, fieldOf(".##.", "####", "####"), 2, 2, 2)
	checkMost(t, fieldOf("####", "####", ".##."), 2, 2, 2)
}

// checkMostOffGrid checks the greatest number of cakes, and that each grid has fewer.
func checkMostOffGrid(t *testing.T, f [][]bool, w int, h int, want int) {
	checkMost(t, f, w, h, want)
	dx, dy := impl.BestGrid(f, w, h)
	if got := len(impl.CakesAt(f, w, h, dx, dy)); got >= want {
		t.Errorf("a grid has %d cakes of %v", got, f)
	}
}

func checkMost(t *testing.T, f [][]bool, w int, h int, want int) {
	if got := impl.MostCakes(f, w, h); got != want {
		t.Errorf("MostCakes(%v, %d, %d) = %d, not %d", f, w, h, got, want)
	}
}

func TestMostCakesOfOtherArguments(t *testing.T) {
	for _, f := range sampleFields() {
		checkMost(t, f, 1, 1, -1)
	}
	for _, ice := range []bool{true, false} {
		for _, side := range []int{impl.MaxSmall + 1, impl.MaxSide} {
			checkMost(t, evenField(side, 1, ice), 2, 1, -1)
			checkMost(t, evenField(1, side, ice), 2, 1, -1)
			checkMost(t, evenField(side, impl.MaxSmall, ice), 4, 4, -1)
			checkMost(t, evenField(impl.MaxSmall, side, ice), 4, 4, -1)
		}
	}
}

func TestGridsOfOtherArguments(t *testing.T) {
	for _, f := range badFields() {
		for _, sides := range allSides() {
			checkNoGrid(t, f, sides[0], sides[1])
		}
	}
	for _, f := range sampleFields() {
		for _, sides := range badSides() {
			checkNoGrid(t, f, sides[0], sides[1])
		}
		for _, sides := range allSides() {
			for _, off := range []int{-1, greatestInt, leastInt} {
				checkCakes(t, f, sides[0], sides[1], off, 0)
				checkCakes(t, f, sides[0], sides[1], 0, off)
			}
			checkCakes(t, f, sides[0], sides[1], sides[0], 0)
			checkCakes(t, f, sides[0], sides[1], 0, sides[1])
			checkCakes(t, f, sides[0], sides[1], sides[0], sides[1])
		}
	}
}

// checkNoGrid checks the results for fields and sides that are not valid.
func checkNoGrid(t *testing.T, f [][]bool, w int, h int) {
	checkCakes(t, f, w, h, 0, 0)
	checkBest(t, f, w, h, -1, -1)
	checkMost(t, f, w, h, -1)
}

func TestValidCakesEdges(t *testing.T) {
	// Cakes that touch at a side, wholly and in part, and at a corner.
	checkValid(t, true, 2, 2, impl.Cake{}, impl.Cake{X: 2})
	checkValid(t, true, 2, 2, impl.Cake{}, impl.Cake{Y: 2})
	checkValid(t, true, 2, 2, impl.Cake{}, impl.Cake{X: 2, Y: 1})
	checkValid(t, true, 2, 2, impl.Cake{}, impl.Cake{X: 1, Y: 2})
	checkValid(t, true, 2, 2, impl.Cake{}, impl.Cake{X: 2, Y: 2})
	checkValid(t, true, 2, 2, impl.Cake{X: 2}, impl.Cake{Y: 2})
	// Cakes that share one cell, a side of cells, and all cells.
	checkValid(t, false, 2, 2, impl.Cake{}, impl.Cake{X: 1, Y: 1})
	checkValid(t, false, 2, 2, impl.Cake{X: 1}, impl.Cake{Y: 1})
	checkValid(t, false, 4, 4, impl.Cake{}, impl.Cake{X: 3, Y: 3})
	checkValid(t, false, 4, 4, impl.Cake{X: 3}, impl.Cake{Y: 3})
	checkValid(t, false, 2, 2, impl.Cake{}, impl.Cake{X: 1})
	checkValid(t, false, 2, 2, impl.Cake{Y: 1}, impl.Cake{})
	checkValid(t, false, 1, 1, impl.Cake{X: 5, Y: 5}, impl.Cake{X: 5, Y: 5})
	checkValid(t, false, 2, 1, impl.Cake{}, impl.Cake{X: 1})
	checkValid(t, true, 2, 1, impl.Cake{}, impl.Cake{Y: 1})
	checkValid(t, true, 1, 2, impl.Cake{}, impl.Cake{X: 1})
	checkValid(t, false, 1, 2, impl.Cake{}, impl.Cake{Y: 1})
	// The cakes with a cell in common are not next to each other in the list.
	checkValid(t, false, 2, 2, impl.Cake{}, impl.Cake{X: 4}, impl.Cake{X: 6, Y: 6}, impl.Cake{X: 1})
	checkValid(t, false, 2, 2, impl.Cake{X: 6, Y: 6}, impl.Cake{}, impl.Cake{X: 4}, impl.Cake{X: 1})
}

func TestValidCakesAtTheEdgesOfTheField(t *testing.T) {
	for _, sides := range allSides() {
		w := sides[0]
		h := sides[1]
		right := impl.MaxSide - w
		low := impl.MaxSide - h
		checkValid(t, true, w, h)
		checkValid(t, true, w, h, impl.Cake{}, impl.Cake{X: right}, impl.Cake{Y: low}, impl.Cake{X: right, Y: low})
		for _, cake := range placesOutside(w, h) {
			checkValid(t, false, w, h, cake)
			checkValid(t, false, w, h, impl.Cake{X: 4, Y: 4}, cake)
		}
	}
	for _, sides := range badSides() {
		checkValid(t, false, sides[0], sides[1])
		checkValid(t, false, sides[0], sides[1], impl.Cake{X: 4, Y: 4})
	}
}

func checkValid(t *testing.T, want bool, w int, h int, list ...impl.Cake) {
	if got := impl.ValidCakes(list, w, h); got != want {
		t.Errorf("ValidCakes(%v, %d, %d) = %v", list, w, h, got)
	}
}

func TestValidFloatEdges(t *testing.T) {
	none := layout{nil, 1, 1}
	checkFloat(t, none, true)
	checkFloat(t, none, false, 0)
	one := layout{[]impl.Cake{{X: 5, Y: 5}}, 4, 4}
	checkFloat(t, one, true, 0)
	checkFloat(t, one, false)
	row := gridOf(3, 1, 2, 1, 0, 0)
	checkFloat(t, row, true, 0, 1, 2)
	checkFloat(t, row, false, 0, 2, 1)
	checkFloat(t, row, false, 1, 0, 2)
	checkFloat(t, row, false, 2, 1, 0)
	// Cakes far from each other hold each other, too.
	apart := layout{[]impl.Cake{{X: 8}, {}}, 1, 1}
	checkFloat(t, apart, true, 1, 0)
	checkFloat(t, apart, false, 0, 1)
	// Cakes with an equal X, one above the other, float out in any order.
	column := gridOf(1, 3, 4, 3, 2, 0)
	for _, order := range allOrders(3) {
		checkFloat(t, column, true, order...)
	}
	// So do cakes that have no row of cells in common, though one is farther left.
	steps := layout{[]impl.Cake{{}, {X: 2, Y: 2}, {X: 4, Y: 4}}, 2, 2}
	for _, order := range allOrders(3) {
		checkFloat(t, steps, true, order...)
	}
	// One row of cells in common is enough.
	for _, c := range []layout{
		{[]impl.Cake{{X: 4, Y: 2}, {Y: 5}}, 4, 4}, {[]impl.Cake{{X: 4, Y: 5}, {Y: 2}}, 4, 4}, {[]impl.Cake{{X: 1, Y: 3}, {Y: 5}}, 1, 3},
	} {
		checkFloat(t, c, true, 1, 0)
		checkFloat(t, c, false, 0, 1)
	}
}

func TestValidFloatOfOtherOrders(t *testing.T) {
	c := layout{[]impl.Cake{{}, {X: 2}, {X: 2, Y: 1}}, 2, 1}
	checkFloat(t, c, true, 0, 1, 2)
	checkFloat(t, c, true, 0, 2, 1)
	checkFloat(t, c, true, 2, 0, 1)
	checkFloat(t, c, false, 1, 0, 2)
	// Orders that are too short, and too long.
	checkFloat(t, c, false)
	checkFloat(t, c, false, 0)
	checkFloat(t, c, false, 0, 1)
	checkFloat(t, c, false, 0, 1, 2, 0)
	checkFloat(t, c, false, 0, 1, 2, 3)
	// Orders that name an index twice, or one that no cake has.
	checkFloat(t, c, false, 0, 0, 1)
	checkFloat(t, c, false, 0, 1, 0)
	checkFloat(t, c, false, 0, 1, 1)
	checkFloat(t, c, false, 2, 2, 2)
	for _, index := range []int{-1, 3, 4, greatestInt, leastInt} {
		checkFloat(t, c, false, index, 1, 2)
		checkFloat(t, c, false, 0, index, 2)
		checkFloat(t, c, false, 0, 1, index)
	}
}

func checkFloat(t *testing.T, c layout, want bool, order ...int) {
	if got := impl.ValidFloat(c.list, c.w, c.h, order); got != want {
		t.Errorf("ValidFloat(%v, %v) = %v", c, order, got)
	}
}

func TestFloatOrderEdges(t *testing.T) {
	checkOrder(t, layout{nil, 1, 1})
	checkOrder(t, layout{nil, 4, 4})
	checkOrder(t, layout{[]impl.Cake{{X: 5, Y: 5}}, 4, 4}, 0)
	checkOrder(t, layout{[]impl.Cake{{}, {X: 2}, {X: 2, Y: 1}}, 2, 1}, 0, 1, 2)
	checkOrder(t, layout{[]impl.Cake{{X: 3}, {Y: 2}, {}}, 1, 1}, 2, 1, 0)
	// The least X is first, though its Y is greater.
	checkOrder(t, layout{[]impl.Cake{{X: 1}, {Y: 8}}, 1, 1}, 1, 0)
	checkOrder(t, layout{[]impl.Cake{{X: 1, Y: 8}, {X: 1}, {Y: 8}, {X: 1, Y: 4}, {}}, 1, 1}, 4, 2, 1, 3, 0)
	checkOrder(t, gridOf(3, 2, 3, 4, 0, 1), 0, 3, 1, 4, 2, 5)
	whole := impl.FloatOrder(gridOf(9, 9, 1, 1, 0, 0).list, 1, 1)
	if len(whole) != 81 || whole[0] != 0 || whole[1] != 9 || whole[8] != 72 || whole[9] != 1 || whole[80] != 80 {
		t.Errorf("FloatOrder of all cells = %v", whole)
	}
}

func checkOrder(t *testing.T, c layout, want ...int) {
	if got := impl.FloatOrder(c.list, c.w, c.h); !sameInts(got, want) {
		t.Errorf("FloatOrder(%v) = %v, not %v", c, got, want)
	}
}

func TestCountFloatsEdges(t *testing.T) {
	checkCount(t, layout{nil, 1, 1}, 1)
	checkCount(t, layout{nil, 4, 4}, 1)
	checkCount(t, layout{[]impl.Cake{{X: 5, Y: 5}}, 4, 4}, 1)
	checkCount(t, layout{[]impl.Cake{{}, {X: 2}, {X: 2, Y: 1}}, 2, 1}, 3)
	checkCount(t, gridOf(impl.MaxFew, 1, 1, 1, 0, 0), 1)
	checkCount(t, gridOf(1, impl.MaxFew, 4, 1, 0, 3), 720)
	checkCount(t, gridOf(3, 2, 1, 1, 0, 0), 20)
	checkCount(t, gridOf(2, 3, 1, 1, 0, 0), 90)
	checkCount(t, gridOf(3, 2, 3, 4, 0, 1), 20)
	// A cake in the middle waits for both to the left, and both to the right wait for it.
	checkCount(t, layout{[]impl.Cake{{X: 2, Y: 1}, {}, {Y: 2}, {X: 4}, {X: 4, Y: 2}}, 2, 2}, 4)
	checkCount(t, layout{[]impl.Cake{{X: 1, Y: 2}, {X: 3, Y: 2}, {Y: 1}, {X: 2, Y: 1}, {X: 1}, {X: 3}}, 2, 1}, 90)
}

func TestCountFloatsOfTooManyCakes(t *testing.T) {
	checkCount(t, gridOf(impl.MaxFew+1, 1, 1, 1, 0, 0), -1)
	checkCount(t, gridOf(1, impl.MaxFew+1, 1, 1, 0, 0), -1)
	checkCount(t, gridOf(4, 2, 2, 1, 0, 0), -1)
	checkCount(t, gridOf(9, 9, 1, 1, 0, 0), -1)
}

func checkCount(t *testing.T, c layout, want int) {
	if got := impl.CountFloats(c.list, c.w, c.h); got != want {
		t.Errorf("CountFloats(%v) = %d, not %d", c, got, want)
	}
}

func TestSawLengthEdges(t *testing.T) {
	checkLength(t, layout{nil, 1, 1}, 0)
	checkLength(t, layout{nil, 4, 4}, 0)
	checkLength(t, layout{[]impl.Cake{{X: 8, Y: 8}}, 1, 1}, 4)
	checkLength(t, layout{[]impl.Cake{{X: 5, Y: 5}}, 4, 4}, 16)
	checkLength(t, layout{[]impl.Cake{{X: 5, Y: 5}}, 4, 1}, 10)
	checkLength(t, layout{[]impl.Cake{{}, {X: 2}, {X: 2, Y: 1}}, 2, 1}, 15)
	checkLength(t, gridOf(4, 3, 2, 3, 1, 0), 5*9+4*8)
	checkLength(t, gridOf(9, 9, 1, 1, 0, 0), 180)
	checkLength(t, gridOf(9, 1, 1, 1, 0, 4), 28)
	checkLength(t, gridOf(1, 9, 1, 1, 4, 0), 28)
}

func TestSawLengthOfTwoCakes(t *testing.T) {
	for _, c := range []struct {
		x      int
		y      int
		shared int
	}{
		// Apart by a cell or more, beside, above and both.
		{4, 0, 0}, {0, 3, 0}, {4, 3, 0}, {6, 0, 0}, {3, 3, 0}, {4, 2, 0},
		// At a whole side, at a part of it, and at a corner.
		{3, 0, 2}, {3, 1, 1}, {3, 2, 0}, {0, 2, 3}, {1, 2, 2}, {2, 2, 1},
	} {
		checkLength(t, layout{[]impl.Cake{{}, {X: c.x, Y: c.y}}, 3, 2}, 20-c.shared)
		checkLength(t, layout{[]impl.Cake{{X: c.x, Y: c.y}, {}}, 3, 2}, 20-c.shared)
		checkLength(t, layout{[]impl.Cake{{X: c.x}, {Y: c.y}}, 3, 2}, 20-c.shared)
		checkLength(t, layout{[]impl.Cake{{Y: c.y}, {X: c.x}}, 3, 2}, 20-c.shared)
	}
}

func checkLength(t *testing.T, c layout, want int) {
	if got := impl.SawLength(c.list, c.w, c.h); got != want {
		t.Errorf("SawLength(%v) = %d, not %d", c, got, want)
	}
}

func TestFloatsOfOtherCakes(t *testing.T) {
	for _, c := range badLayouts() {
		checkValid(t, false, c.w, c.h, c.list...)
		checkFloat(t, c, false, countTo(len(c.list))...)
		checkFloat(t, c, false, reversed(countTo(len(c.list)))...)
		checkFloat(t, c, false)
		checkOrder(t, c)
		checkCount(t, c, -1)
		checkLength(t, c, -1)
	}
}

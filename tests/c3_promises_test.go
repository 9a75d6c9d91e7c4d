package tests

import (
	"testing"

	"loop.example/iceharvest/impl"
)

func TestPromise28FieldsCanLoseIce(t *testing.T) {
	for _, f := range sampleFields() {
		bare := evenField(len(f), len(f[0]), false)
		if !impl.ValidField(f) || !impl.ValidField(bare) || impl.AreaOf(bare) != 0 {
			t.Errorf("%v, or the field without ice: AreaOf = %d", f, impl.AreaOf(bare))
		}
		for y := range f {
			for x := range f[y] {
				less := fieldCopy(f)
				less[y][x] = false
				if !impl.ValidField(less) || impl.AreaOf(less) > impl.AreaOf(f) {
					t.Errorf("%v without ice at %d, %d", f, x, y)
				}
			}
		}
	}
}

func TestPromise29AreasAreCells(t *testing.T) {
	for _, f := range sampleFields() {
		count := 0
		for _, row := range f {
			count += countTrue(row)
		}
		area := impl.AreaOf(f)
		if area != count || area != len(impl.CakesAt(f, 1, 1, 0, 0)) || area > len(f)*len(f[0]) {
			t.Errorf("AreaOf(%v) = %d, not %d", f, area, count)
		}
	}
}

func TestPromise30CakesAreApartAndOnIce(t *testing.T) {
	for _, f := range sampleFields() {
		for _, sides := range allSides() {
			w := sides[0]
			h := sides[1]
			for cell := 0; cell < w*h; cell++ {
				checkGrid(t, f, w, h, cell%w, cell/w)
			}
		}
	}
}

// checkGrid checks that the cakes of a grid are just those on ice, row by row.
func checkGrid(t *testing.T, f [][]bool, w int, h int, dx int, dy int) {
	got := impl.CakesAt(f, w, h, dx, dy)
	want := []impl.Cake{}
	for y := range f {
		for x := range f[y] {
			cake := impl.Cake{X: x, Y: y}
			if x%w == dx && y%h == dy && allIce(f, cake, w, h) {
				want = append(want, cake)
			}
		}
	}
	if !sameCakes(got, want) {
		t.Fatalf("CakesAt(%v, %d, %d, %d, %d) = %v, not %v", f, w, h, dx, dy, got, want)
	}
	if !impl.ValidCakes(got, w, h) || len(got)*w*h > impl.AreaOf(f) {
		t.Fatalf("CakesAt(%v, %d, %d, %d, %d) = %v", f, w, h, dx, dy, got)
	}
}

func TestPromise31NoGridHasMoreCakes(t *testing.T) {
	for _, f := range sampleFields() {
		for _, sides := range allSides() {
			w := sides[0]
			h := sides[1]
			bestX, bestY := impl.BestGrid(f, w, h)
			if bestX < 0 || bestX >= w || bestY < 0 || bestY >= h {
				t.Fatalf("BestGrid(%v, %d, %d) = %d, %d", f, w, h, bestX, bestY)
			}
			best := len(impl.CakesAt(f, w, h, bestX, bestY))
			for cell := 0; cell < w*h; cell++ {
				count := len(impl.CakesAt(f, w, h, cell%w, cell/w))
				// The grids before the best one, by dy and then by dx, have fewer cakes.
				if count > best || count == best && cell < bestY*w+bestX {
					t.Fatalf("BestGrid(%v, %d, %d) = %d, %d, but also %d, %d", f, w, h, bestX, bestY, cell%w, cell/w)
				}
			}
		}
	}
}

func TestPromise32TheMostCakesAreTheMost(t *testing.T) {
	for _, f := range smallFields() {
		for _, sides := range allSides() {
			w := sides[0]
			h := sides[1]
			if w*h == 1 {
				continue
			}
			most := impl.MostCakes(f, w, h)
			dx, dy := impl.BestGrid(f, w, h)
			if most < len(impl.CakesAt(f, w, h, dx, dy)) || most*w*h > impl.AreaOf(f) {
				t.Errorf("MostCakes(%v, %d, %d) = %d", f, w, h, most)
			}
			if want := mostFrom(fieldCopy(f), w, h, 0); most != want {
				t.Errorf("MostCakes(%v, %d, %d) = %d, not %d", f, w, h, most, want)
			}
		}
	}
}

// mostFrom returns the greatest number of cakes that can be cut from a field from a cell on, and leaves the field as it was.
func mostFrom(f [][]bool, w int, h int, cell int) int {
	if cell == len(f)*len(f[0]) {
		return 0
	}
	most := mostFrom(f, w, h, cell+1)
	cake := impl.Cake{X: cell % len(f[0]), Y: cell / len(f[0])}
	if allIce(f, cake, w, h) {
		setIce(f, cake, w, h, false)
		with := 1 + mostFrom(f, w, h, cell+1)
		setIce(f, cake, w, h, true)
		if with > most {
			most = with
		}
	}
	return most
}

// setIce takes all cells of a cake from a field, or puts them back.
func setIce(f [][]bool, cake impl.Cake, w int, h int, ice bool) {
	for cell := 0; cell < w*h; cell++ {
		f[cake.Y+cell/w][cake.X+cell%w] = ice
	}
}

func TestPromise33TurnedFieldsHaveAsManyCakes(t *testing.T) {
	for _, f := range smallFields() {
		for _, sides := range allSides() {
			got := impl.MostCakes(f, sides[0], sides[1])
			if turned := impl.MostCakes(turnedField(f), sides[1], sides[0]); got != turned {
				t.Errorf("MostCakes(%v, %v) = %d, but %d if it is turned", f, sides, got, turned)
			}
		}
	}
}

func TestPromise34CakesCanBeTakenAway(t *testing.T) {
	for _, c := range sampleLayouts() {
		if !impl.ValidCakes(c.list, c.w, c.h) {
			t.Errorf("ValidCakes(%v) is false", c)
		}
		for i := range c.list {
			if !impl.ValidCakes(cakesWithout(c.list, i), c.w, c.h) {
				t.Errorf("ValidCakes(%v) is false without %d", c, i)
			}
		}
	}
}

func TestPromise34CakesHaveNoCellInCommon(t *testing.T) {
	for _, sides := range allSides() {
		w := sides[0]
		h := sides[1]
		middle := impl.Cake{X: 3, Y: 3}
		for place := 0; place < impl.MaxSide*impl.MaxSide; place++ {
			cake := impl.Cake{X: place % impl.MaxSide, Y: place / impl.MaxSide}
			within := cake.X <= impl.MaxSide-w && cake.Y <= impl.MaxSide-h
			want := within && !shareCell(middle, cake, w, h)
			if impl.ValidCakes([]impl.Cake{middle, cake}, w, h) != want || impl.ValidCakes([]impl.Cake{cake, middle}, w, h) != want {
				t.Errorf("ValidCakes of %v and %v, %v, is not %v", middle, cake, sides, want)
			}
		}
	}
}

func TestPromise35FloatsCanWait(t *testing.T) {
	for _, c := range fewLayouts() {
		if len(c.list) == 0 {
			continue
		}
		for _, order := range allOrders(len(c.list)) {
			if !impl.ValidFloat(c.list, c.w, c.h, order) {
				continue
			}
			last := order[len(order)-1]
			if !impl.ValidFloat(cakesWithout(c.list, last), c.w, c.h, orderWithout(order, last)) {
				t.Errorf("%v floats in the order %v, but not without the last one", c, order)
			}
		}
	}
}

func TestPromise35FloatsWaitForCakesToTheLeft(t *testing.T) {
	for _, c := range fewLayouts() {
		for _, order := range allOrders(len(c.list)) {
			if got := impl.ValidFloat(c.list, c.w, c.h, order); got != floatsOut(c, order) {
				t.Errorf("ValidFloat(%v, %v) = %v", c, order, got)
			}
		}
	}
}

// floatsOut reports whether no cake of an order finds a cell of another one on its way to the left.
func floatsOut(c layout, order []int) bool {
	for i, index := range order {
		cake := c.list[index]
		for _, later := range order[i+1:] {
			// A cake moves by a cell at a time until all of it is out.
			for x := cake.X; x > -c.w; x-- {
				if shareCell(impl.Cake{X: x, Y: cake.Y}, c.list[later], c.w, c.h) {
					return false
				}
			}
		}
	}
	return true
}

func TestPromise36AllCakesFloatOut(t *testing.T) {
	for _, c := range sampleLayouts() {
		order := impl.FloatOrder(c.list, c.w, c.h)
		if len(order) != len(c.list) || !impl.ValidFloat(c.list, c.w, c.h, order) {
			t.Errorf("FloatOrder(%v) = %v", c, order)
		}
		for i := 1; i < len(order); i++ {
			before := c.list[order[i-1]]
			cake := c.list[order[i]]
			if before.X > cake.X || before.X == cake.X && before.Y >= cake.Y {
				t.Errorf("FloatOrder(%v) = %v has %v before %v", c, order, before, cake)
			}
		}
	}
}

func TestPromise37OrdersAreCounted(t *testing.T) {
	for _, c := range fewLayouts() {
		orders := allOrders(len(c.list))
		valid := 0
		for _, order := range orders {
			if impl.ValidFloat(c.list, c.w, c.h, order) {
				valid++
			}
		}
		got := impl.CountFloats(c.list, c.w, c.h)
		if got != valid || got < 1 || got > len(orders) {
			t.Errorf("CountFloats(%v) = %d, not %d", c, got, valid)
		}
	}
}

func TestPromise37OrdersBeginWithEachFirstCake(t *testing.T) {
	for _, c := range fewLayouts() {
		if len(c.list) == 0 {
			continue
		}
		sum := 0
		for i := range c.list {
			if canBeFirst(c, i) {
				sum += impl.CountFloats(cakesWithout(c.list, i), c.w, c.h)
			}
		}
		if got := impl.CountFloats(c.list, c.w, c.h); got != sum {
			t.Errorf("CountFloats(%v) = %d, not %d", c, got, sum)
		}
	}
}

// canBeFirst reports whether a cake can float out first, and then all others by their places.
func canBeFirst(c layout, index int) bool {
	order := []int{index}
	for _, i := range impl.FloatOrder(c.list, c.w, c.h) {
		if i != index {
			order = append(order, i)
		}
	}
	return impl.ValidFloat(c.list, c.w, c.h, order)
}

func TestPromise38RowsFloatOutSideBySide(t *testing.T) {
	for upper := 0; upper <= impl.MaxFew; upper++ {
		for lower := 0; upper+lower <= impl.MaxFew; lower++ {
			for h := 1; h <= impl.MaxCake; h++ {
				list := append(gridOf(upper, 1, 1, h, 2, 0).list, gridOf(lower, 1, 1, h, 2, h).list...)
				if got := impl.CountFloats(list, 1, h); got != shuffles(upper, lower) {
					t.Errorf("CountFloats of rows of %d and %d cakes, %d high, is %d", upper, lower, h, got)
				}
			}
		}
	}
}

// shuffles returns the number of ways to shuffle two rows.
func shuffles(a int, b int) int {
	if a == 0 || b == 0 {
		return 1
	}
	return shuffles(a-1, b) + shuffles(a, b-1)
}

func TestPromise39EachCutIsCountedOnce(t *testing.T) {
	for _, c := range sampleLayouts() {
		got := impl.SawLength(c.list, c.w, c.h)
		all := 2 * (c.w + c.h) * len(c.list)
		if got > all || 2*got < all || got != countCuts(c) {
			t.Errorf("SawLength(%v) = %d, not %d", c, got, countCuts(c))
		}
		for _, cake := range c.list {
			if alone := impl.SawLength([]impl.Cake{cake}, c.w, c.h); alone != 2*(c.w+c.h) {
				t.Errorf("SawLength of %v alone, %d and %d, is %d", cake, c.w, c.h, alone)
			}
		}
	}
}

// countCuts returns how many pieces of lines, each as long as a cell, have cells of two cakes, or of one and none, at their sides.
func countCuts(c layout) int {
	count := 0
	for y := 0; y <= impl.MaxSide; y++ {
		for x := 0; x <= impl.MaxSide; x++ {
			here := cakeAtCell(c, x, y)
			if here != cakeAtCell(c, x-1, y) {
				count++
			}
			if here != cakeAtCell(c, x, y-1) {
				count++
			}
		}
	}
	return count
}

// cakeAtCell returns the index of the cake that has a cell; -1 if there is none.
func cakeAtCell(c layout, x int, y int) int {
	for i, cake := range c.list {
		if x >= cake.X && x < cake.X+c.w && y >= cake.Y && y < cake.Y+c.h {
			return i
		}
	}
	return -1
}

func TestPromise40FromAFieldToItsCuts(t *testing.T) {
	for _, sides := range allSides() {
		w := sides[0]
		h := sides[1]
		for columns := 1; columns*w <= impl.MaxSide; columns++ {
			for rows := 1; rows*h <= impl.MaxSide; rows++ {
				cakes := impl.CakesAt(evenField(rows*h, columns*w, true), w, h, 0, 0)
				want := (columns+1)*rows*h + (rows+1)*columns*w
				if got := impl.SawLength(cakes, w, h); len(cakes) != columns*rows || got != want {
					t.Errorf("SawLength of %d columns and %d rows, %v, is %d, not %d", columns, rows, sides, got, want)
				}
			}
		}
	}
}

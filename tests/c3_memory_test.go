package tests

import (
	"testing"

	"loop.example/iceharvest/impl"
)

// callField calls every function of the layer that takes a field.
func callField(f [][]bool, w int, h int) {
	impl.ValidField(f)
	impl.AreaOf(f)
	impl.CakesAt(f, w, h, 0, 0)
	impl.CakesAt(f, w, h, w-1, h-1)
	impl.BestGrid(f, w, h)
	impl.MostCakes(f, w, h)
}

// callCakes calls every function of the layer that takes cakes.
func callCakes(list []impl.Cake, w int, h int, order []int) {
	impl.ValidCakes(list, w, h)
	impl.ValidFloat(list, w, h, order)
	impl.FloatOrder(list, w, h)
	impl.CountFloats(list, w, h)
	impl.SawLength(list, w, h)
}

func TestSawWritesIntoNoField(t *testing.T) {
	for _, f := range append(sampleFields(), badFields()...) {
		before := fieldCopy(f)
		for _, sides := range append(allSides(), badSides()...) {
			callField(f, sides[0], sides[1])
		}
		if !sameField(f, before) {
			t.Fatalf("%v became %v", before, f)
		}
	}
}

func TestSawWritesIntoNoCakes(t *testing.T) {
	for _, c := range append(sampleLayouts(), badLayouts()...) {
		before := copyCakes(c.list)
		order := reversed(countTo(len(c.list)))
		callCakes(c.list, c.w, c.h, order)
		if !sameCakes(c.list, before) || !sameInts(order, reversed(countTo(len(before)))) {
			t.Fatalf("%v became %v, or the order %v", before, c.list, order)
		}
		order = countTo(len(c.list))
		callCakes(c.list, c.w, c.h, order)
		if !sameCakes(c.list, before) || !sameInts(order, countTo(len(before))) {
			t.Fatalf("%v became %v, or the order %v", before, c.list, order)
		}
	}
}

// fieldWithin returns three rows, of which the first cells of the first two are a field, with others behind it in the same memory.
func fieldWithin() [][]bool {
	return fieldOf("####.#", "#.##.#", ".#")
}

// cutFieldRows returns the rows of fieldWithin as far as they are the field, and the row behind it, sharing their memory.
func cutFieldRows(whole [][]bool) [][]bool {
	return [][]bool{whole[0][:4], whole[1][:4], whole[2]}
}

func TestSawWritesBehindNoField(t *testing.T) {
	whole := fieldWithin()
	rows := cutFieldRows(whole)
	for _, sides := range allSides() {
		callField(rows[:2], sides[0], sides[1])
		callField(rows[:1], sides[0], sides[1])
		callField(rows[:0], sides[0], sides[1])
	}
	if !sameField(whole, fieldWithin()) || !sameField(rows, cutFieldRows(fieldWithin())) {
		t.Errorf("behind the field there is %v, or %v", whole, rows)
	}
}

// cakesWithin returns a list of which the first three are valid cakes, 2 wide and 1 high, with others behind them.
func cakesWithin() []impl.Cake {
	return []impl.Cake{{X: 2}, {}, {X: 2, Y: 1}, {X: 77}, {Y: 78}}
}

func TestSawWritesBehindNoCakes(t *testing.T) {
	whole := cakesWithin()
	order := []int{1, 0, 2, 77, 78}
	for n := 0; n <= 3; n++ {
		callCakes(whole[:n], 2, 1, order[:n])
		callCakes(whole[:n], 2, 1, order[:3])
	}
	if !sameCakes(whole, cakesWithin()) || !sameInts(order, []int{1, 0, 2, 77, 78}) {
		t.Errorf("behind the arguments there is %v and %v", whole, order)
	}
}

func TestCakesAtIsNewMemory(t *testing.T) {
	whole := fieldWithin()
	rows := cutFieldRows(whole)
	first := impl.CakesAt(rows[:2], 2, 1, 0, 0)
	second := impl.CakesAt(rows[:2], 2, 1, 0, 0)
	longer := append(first, impl.Cake{X: -8, Y: -9})
	for i := range first {
		first[i] = impl.Cake{X: -7, Y: -7}
		longer[i] = impl.Cake{X: -7, Y: -7}
	}
	if !sameCakes(second, []impl.Cake{{}, {X: 2}, {X: 2, Y: 1}}) {
		t.Errorf("two results share memory: %v", second)
	}
	if !sameField(whole, fieldWithin()) {
		t.Errorf("the result shares memory with the argument: %v", whole)
	}
}

func TestFloatOrderIsNewMemory(t *testing.T) {
	whole := cakesWithin()
	checkOwnMemory(t, impl.FloatOrder(whole[:3], 2, 1), impl.FloatOrder(whole[:3], 2, 1))
	checkOwnMemory(t, impl.FloatOrder(whole[:0], 2, 1), impl.FloatOrder(whole[:3], 2, 1))
	if got := impl.FloatOrder(whole[:3], 2, 1); !sameInts(got, []int{1, 0, 2}) || !sameCakes(whole, cakesWithin()) {
		t.Errorf("FloatOrder = %v of %v", got, whole)
	}
}

func TestSawKeepsNoArgument(t *testing.T) {
	f := fieldWithin()[:1]
	cakes := impl.CakesAt(f, 2, 1, 0, 0)
	f[0][0] = false
	if !sameCakes(cakes, []impl.Cake{{}, {X: 2}}) {
		t.Errorf("CakesAt keeps its argument: %v", cakes)
	}
	if got := impl.CakesAt(f, 2, 1, 0, 0); !sameCakes(got, []impl.Cake{{X: 2}}) {
		t.Errorf("CakesAt keeps a state: %v", got)
	}
	list := cakesWithin()[:3]
	order := impl.FloatOrder(list, 2, 1)
	list[1].X = 4
	if !sameInts(order, []int{1, 0, 2}) {
		t.Errorf("FloatOrder keeps its argument: %v", order)
	}
	if got := impl.FloatOrder(list, 2, 1); !sameInts(got, []int{0, 2, 1}) {
		t.Errorf("FloatOrder keeps a state: %v", got)
	}
}

func TestFieldOfOneRowTwice(t *testing.T) {
	row := []bool{true, true, false, true}
	f := [][]bool{row, row}
	if impl.AreaOf(f) != 6 || impl.MostCakes(f, 1, 2) != 3 || impl.MostCakes(f, 2, 1) != 2 || len(impl.CakesAt(f, 2, 2, 0, 0)) != 1 {
		t.Errorf("AreaOf = %d, MostCakes = %d and %d", impl.AreaOf(f), impl.MostCakes(f, 1, 2), impl.MostCakes(f, 2, 1))
	}
	if countTrue(row) != 3 || row[2] {
		t.Errorf("the row became %v", row)
	}
}

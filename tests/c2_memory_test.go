package tests

import (
	"testing"

	"loop.example/iceharvest/impl"
)

// callPond calls every function of the layer.
func callPond(p [][]int, load int, cell int, temps []int) {
	impl.ValidPond(p)
	impl.SafeCells(p, load)
	impl.FieldsOf(p, load)
	impl.FieldSizes(p, load)
	impl.NarrowsOf(p, load)
	impl.RisksFrom(p, load, cell)
	impl.WayTo(p, load, cell, 0)
	impl.WayTo(p, load, 0, cell)
	impl.GreatestLoad(p, 0, cell)
	impl.GrowPond(p, temps)
	impl.CutCell(p, cell)
}

func TestPondWritesIntoNoArgument(t *testing.T) {
	temps := []int{-50, 20, 400}
	for _, p := range append(samplePonds(), badPonds()...) {
		before := gridCopy(p)
		for _, load := range []int{0, 81, 2500} {
			callPond(p, load, countCells(p)-1, temps)
			callPond(p, load, countCells(p)/2, temps)
		}
		if !sameGrid(p, before) || !sameInts(temps, []int{-50, 20, 400}) {
			t.Fatalf("%v became %v, or the hours %v", before, p, temps)
		}
	}
}

// pondWithin returns three rows, of which the first two numbers of the first two are a pond, with others behind it in the same memory.
func pondWithin() [][]int {
	return [][]int{{50, 60, 77, 78}, {60, 50, 77, 78}, {77, 78}}
}

// cutRows returns the rows of pondWithin as far as they are the pond, and the row behind it, sharing their memory.
func cutRows(whole [][]int) [][]int {
	return [][]int{whole[0][:2], whole[1][:2], whole[2]}
}

func TestPondWritesBehindNoArgument(t *testing.T) {
	whole := pondWithin()
	rows := cutRows(whole)
	hours := []int{-50, -50, 77, 78}
	callPond(rows[:2], 2500, 3, hours[:2])
	callPond(rows[:2], 0, 0, hours[:0])
	callPond(rows[:1], 2500, 1, hours[:2])
	if !sameGrid(whole, pondWithin()) || !sameInts(hours, []int{-50, -50, 77, 78}) {
		t.Errorf("behind the arguments there is %v and %v", whole, hours)
	}
	if !sameGrid(rows, cutRows(pondWithin())) {
		t.Errorf("the rows became %v", rows)
	}
}

func TestPondListsAreNewMemory(t *testing.T) {
	p := onePond()
	checkOwnMemory(t, impl.FieldsOf(p, 2500), impl.FieldsOf(p, 2500))
	checkOwnMemory(t, impl.FieldSizes(p, 2500), impl.FieldSizes(p, 2500))
	checkOwnMemory(t, impl.NarrowsOf(p, 2500), impl.NarrowsOf(p, 2500))
	checkOwnMemory(t, impl.RisksFrom(p, 2500, 0), impl.RisksFrom(p, 2500, 0))
	checkOwnMemory(t, impl.RisksFrom(p, 2500, 2), impl.RisksFrom(p, 2500, 2))
	checkOwnMemory(t, impl.WayTo(p, 2500, 0, 8), impl.WayTo(p, 2500, 0, 8))
	first := impl.SafeCells(p, 2500)
	second := impl.SafeCells(p, 2500)
	first[0] = false
	if !second[0] || !sameGrid(p, onePond()) {
		t.Error("two results of SafeCells share memory")
	}
}

// checkOwnMemory writes into a result, and behind it, and checks that another result stays.
func checkOwnMemory(t *testing.T, first []int, second []int) {
	before := copyInts(second)
	overwrite(first)
	if !sameInts(second, before) {
		t.Errorf("two results share memory: %v became %v", before, second)
	}
}

// overwrite writes other numbers into a list, and behind it.
func overwrite(list []int) {
	longer := append(list, -8, -9)
	for i := range list {
		list[i] = -7
		longer[i] = -7
	}
}

func TestPondsThatAreReturnedAreNewMemory(t *testing.T) {
	whole := pondWithin()
	rows := cutRows(whole)
	p := rows[:2]
	for _, got := range [][][]int{
		impl.GrowPond(p, []int{-50}), impl.GrowPond(p, []int{20}), impl.GrowPond(p, nil),
		impl.CutCell(p, 0), impl.CutCell(p, 3),
	} {
		checkRowsAreApart(t, got)
		longer := append(got, nil)
		longer[0] = nil
		got[0] = nil
		if !sameGrid(whole, pondWithin()) || !sameGrid(rows, cutRows(pondWithin())) {
			t.Fatalf("a result shares memory with the argument: %v, %v", whole, rows)
		}
	}
}

// checkRowsAreApart writes into each row, and behind it, and checks that the other rows stay.
func checkRowsAreApart(t *testing.T, p [][]int) {
	for y := range p {
		before := gridCopy(p)
		overwrite(p[y])
		for other := range p {
			if other != y && !sameInts(p[other], before[other]) {
				t.Fatalf("the rows %d and %d of %v share memory", y, other, before)
			}
		}
	}
}

func TestPondOfOneRowTwice(t *testing.T) {
	row := []int{60, 50}
	p := [][]int{row, row}
	checkCut(t, p, 0, [][]int{{0, 50}, {60, 50}})
	checkCut(t, p, 3, [][]int{{60, 50}, {60, 0}})
	checkRowsAreApart(t, impl.CutCell(p, 0))
	checkRowsAreApart(t, impl.GrowPond(p, nil))
	if !sameInts(row, []int{60, 50}) {
		t.Errorf("the row became %v", row)
	}
}

func TestPondKeepsNoArgument(t *testing.T) {
	p := onePond()
	temps := []int{-50}
	grown := impl.GrowPond(p, temps)
	cut := impl.CutCell(p, 4)
	p[0][0] = 0
	temps[0] = 400
	if !sameGrid(grown, impl.GrowPond(onePond(), []int{-50})) || !sameGrid(cut, [][]int{{60, 60, 30}, {0, 0, 60}, {60, 0, 80}}) {
		t.Errorf("an argument is kept: %v, %v", grown, cut)
	}
	if got := impl.FieldSizes(p, 2500); !sameInts(got, []int{4, 1}) {
		t.Errorf("FieldSizes keeps a state: %v", got)
	}
}

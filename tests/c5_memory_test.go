package tests

import (
	"testing"

	"loop.example/iceharvest/impl"
)

// callHeap calls every function of the layer that takes a heap.
func callHeap(h [][]int, cell int) {
	impl.ValidHeap(h)
	impl.CakesIn(h)
	impl.FacesOf(h)
	impl.AddCake(h, cell)
	impl.TakeCake(h, cell)
	impl.MeltDay(h)
	impl.MeltDays(h, 0)
	impl.MeltDays(h, 3)
	impl.DaysLeft(h, 1)
	impl.DaysLeft(h, 0)
}

func TestHeapsWriteIntoNoArgument(t *testing.T) {
	for _, h := range append(sampleHeaps(), badHeaps()...) {
		before := gridCopy(h)
		callHeap(h, 0)
		callHeap(h, countCells(h)-1)
		callHeap(h, countCells(h))
		if !sameGrid(h, before) {
			t.Fatalf("%v became %v", before, h)
		}
	}
}

// heapWithin returns three rows, of which the first two numbers of the first two are a heap, with others behind it in the same memory.
func heapWithin() [][]int {
	return [][]int{{2, 1, 7, 8}, {4, 3, 7, 8}, {7, 8}}
}

func TestHeapsWriteBehindNoArgument(t *testing.T) {
	whole := heapWithin()
	rows := cutRows(whole)
	callHeap(rows[:2], 3)
	callHeap(rows[:2], 0)
	callHeap(rows[:1], 1)
	if !sameGrid(whole, heapWithin()) || !sameGrid(rows, cutRows(heapWithin())) {
		t.Errorf("the rows became %v and %v", whole, rows)
	}
}

// heapsOf returns all heaps that the functions of the layer return of a heap of four cells.
func heapsOf(h [][]int) [][][]int {
	return [][][]int{
		impl.AddCake(h, 0), impl.AddCake(h, 3), impl.TakeCake(h, 0), impl.TakeCake(h, 3),
		impl.MeltDay(h), impl.MeltDays(h, 0), impl.MeltDays(h, 1), impl.MeltDays(h, 3),
		impl.FillHouse(2, 2, 0), impl.FillHouse(2, 2, 4), impl.FillHouse(2, 2, 5),
	}
}

func TestHeapsThatAreReturnedAreNewMemory(t *testing.T) {
	whole := heapWithin()
	rows := cutRows(whole)
	for i, got := range heapsOf(rows[:2]) {
		checkRowsAreApart(t, got)
		longer := append(got, nil)
		longer[0] = nil
		got[0] = nil
		if !sameGrid(whole, heapWithin()) || !sameGrid(rows, cutRows(heapWithin())) {
			t.Fatalf("the result %d shares memory with the argument: %v, %v", i, whole, rows)
		}
	}
}

func TestHeapsWithoutCakesAreNewMemory(t *testing.T) {
	h := [][]int{{0, 0}, {0, 0}}
	for i, got := range [][][]int{impl.AddCake(h, 0), impl.MeltDay(h), impl.MeltDays(h, 0), impl.MeltDays(h, impl.MaxDays)} {
		checkRowsAreApart(t, got)
		if !sameGrid(h, evenGrid(2, 2, 0)) {
			t.Fatalf("the result %d shares memory with the argument: %v", i, h)
		}
	}
}

func TestHeapsOfOneHeapShareNoMemory(t *testing.T) {
	h := cutRows(heapWithin())[:2]
	heaps := heapsOf(h)
	again := heapsOf(h)
	for i := range heaps {
		for y := range heaps[i] {
			overwrite(heaps[i][y])
		}
		for j := i + 1; j < len(heaps); j++ {
			if !sameGrid(heaps[j], again[j]) {
				t.Fatalf("result %d shares memory with result %d: %v", j, i, heaps[j])
			}
		}
	}
	for i, got := range heapsOf(h) {
		if !sameGrid(got, again[i]) {
			t.Errorf("result %d is kept: %v", i, got)
		}
	}
}

func TestHeapOfOneRowTwice(t *testing.T) {
	row := []int{2, 1}
	h := [][]int{row, row}
	checkAdded(t, h, 0, [][]int{{3, 1}, {2, 1}})
	checkAdded(t, h, 3, [][]int{{2, 1}, {2, 2}})
	checkTaken(t, h, 1, [][]int{{2, 0}, {2, 1}})
	checkTaken(t, h, 2, [][]int{{2, 1}, {1, 1}})
	// 4 tops, and 14 sides: two cakes melt.
	checkMelted(t, h, [][]int{{1, 1}, {1, 1}})
	checkMeltedDays(t, h, 0, [][]int{{2, 1}, {2, 1}})
	checkMeltedDays(t, h, 2, [][]int{{1, 1}, {0, 0}})
	for _, got := range heapsOf(h) {
		checkRowsAreApart(t, got)
	}
	if !sameInts(row, []int{2, 1}) {
		t.Errorf("the row became %v", row)
	}
}

func TestHeapsKeepNoArgument(t *testing.T) {
	h := stairs()
	added := impl.AddCake(h, 2)
	taken := impl.TakeCake(h, 0)
	melted := impl.MeltDay(h)
	same := impl.MeltDays(h, 0)
	h[0][0] = 12
	if !sameGrid(added, [][]int{{2, 1}, {1, 1}}) || !sameGrid(taken, [][]int{{1, 1}, {0, 1}}) || !sameGrid(melted, [][]int{{1, 1}, {0, 0}}) || !sameGrid(same, stairs()) {
		t.Errorf("an argument is kept: %v, %v, %v, %v", added, taken, melted, same)
	}
	checkHeap(t, h, 14, 55)
	checkHeap(t, stairs(), 4, 15)
}

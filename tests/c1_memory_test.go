package tests

import (
	"testing"

	"loop.example/iceharvest/impl"
)

// callFrost calls every function of the layer that takes a list.
func callFrost(mass int, temps []int) {
	impl.RunIce(mass, temps)
	impl.ThicksOf(mass, temps)
	impl.FrostSum(temps)
	impl.FirstThick(mass, temps, 50)
	impl.ColdestSpell(temps)
}

func TestFrostWritesIntoNoArgument(t *testing.T) {
	for _, temps := range append(sampleWeathers(), badWeathers()...) {
		before := copyInts(temps)
		for _, mass := range []int{0, 2500, impl.MaxMass, -1} {
			callFrost(mass, temps)
		}
		if !sameInts(temps, before) {
			t.Fatalf("%v became %v", before, temps)
		}
	}
}

func TestFrostWritesBehindNoArgument(t *testing.T) {
	whole := []int{-50, -50, 20, 77, 78, 79}
	before := copyInts(whole)
	callFrost(0, whole[:3])
	callFrost(0, whole[:0])
	if !sameInts(whole, before) {
		t.Errorf("%v became %v", before, whole)
	}
}

func TestThicksOfIsNewMemory(t *testing.T) {
	whole := []int{-50, -50, 20, 77, 78, 79}
	before := copyInts(whole)
	first := impl.ThicksOf(0, whole[:3])
	second := impl.ThicksOf(0, whole[:3])
	for i := range first {
		first[i] = -7
	}
	first = append(first, -8, -9)
	if !sameInts(second, []int{15, 22, 21}) {
		t.Errorf("two results share memory: %v", second)
	}
	if !sameInts(whole, before) {
		t.Errorf("the result %v shares memory with the argument: %v", first, whole)
	}
}

func TestThicksOfWithoutHoursIsNewMemory(t *testing.T) {
	whole := []int{77, 78, 79}
	got := append(impl.ThicksOf(0, whole[:0]), -8)
	if len(got) != 1 || !sameInts(whole, []int{77, 78, 79}) {
		t.Errorf("the result %v shares memory with the argument: %v", got, whole)
	}
}

func TestFrostKeepsNoArgument(t *testing.T) {
	temps := []int{-50, -50, 20}
	got := impl.ThicksOf(0, temps)
	temps[0] = 400
	if !sameInts(got, []int{15, 22, 21}) {
		t.Errorf("ThicksOf keeps its argument: %v", got)
	}
	if again := impl.ThicksOf(0, temps); !sameInts(again, []int{0, 15, 14}) {
		t.Errorf("ThicksOf keeps a state: %v", again)
	}
}

package tests

import (
	"testing"

	"loop.example/iceharvest/impl"
)

func TestFrostConstants(t *testing.T) {
	if impl.Growth != 5 || impl.Thaw != 20 || impl.Bears != 1 || impl.Cover != 50 {
		t.Error("Growth, Thaw, Bears or Cover")
	}
	if impl.MaxThick != 999 || impl.MaxMass != 998001 || impl.MaxTemp != 400 || impl.MaxHours != 200 || impl.MaxLoad != 900000 || impl.MaxSnow != 500 {
		t.Error("limits")
	}
}

func TestThickOfEdges(t *testing.T) {
	for _, c := range [][2]int{
		{0, 0}, {1, 1}, {2, 1}, {3, 1}, {4, 2}, {8, 2}, {9, 3}, {2499, 49}, {2500, 50}, {2501, 50},
		{996003, 997}, {996004, 998}, {998000, 998}, {impl.MaxMass, 999},
	} {
		if got := impl.ThickOf(c[0]); got != c[1] {
			t.Errorf("ThickOf(%d) = %d, not %d", c[0], got, c[1])
		}
	}
	for _, mass := range badMasses() {
		if got := impl.ThickOf(mass); got != -1 {
			t.Errorf("ThickOf(%d) = %d", mass, got)
		}
	}
}

func TestStepIceWithFrost(t *testing.T) {
	for _, c := range [][3]int{
		{0, -1, 5}, {2500, -50, 2750}, {2501, -50, 2751}, {0, -400, 2000},
		{996001, -400, 998001}, {996000, -400, 998000}, {996002, -400, 998001},
		{998000, -1, 998001}, {998000, -400, 998001}, {impl.MaxMass, -1, 998001}, {impl.MaxMass, -400, 998001},
	} {
		checkStepIs(t, c[0], c[1], c[2])
	}
}

func TestStepIceWithoutFrost(t *testing.T) {
	for _, c := range [][3]int{
		{0, 0, 0}, {2501, 0, 2501}, {impl.MaxMass, 0, 998001},
		{2501, 19, 2501}, {2, 19, 2}, {998000, 19, 998000},
		{2500, 20, 2401}, {2501, 20, 2401}, {2499, 20, 2304}, {2500, 39, 2401}, {2500, 40, 2304},
		{100, 199, 1}, {100, 200, 0}, {100, 220, 0}, {100, 400, 0}, {120, 200, 0}, {121, 200, 1},
		{400, 400, 0}, {399, 400, 0}, {440, 400, 0}, {441, 400, 1}, {0, 400, 0}, {0, 20, 0}, {1, 20, 0}, {1, 40, 0},
		{998000, 400, 956484}, {impl.MaxMass, 400, 958441},
	} {
		checkStepIs(t, c[0], c[1], c[2])
	}
}

func checkStepIs(t *testing.T, mass int, temp int, want int) {
	if got := impl.StepIce(mass, temp); got != want {
		t.Errorf("StepIce(%d, %d) = %d, not %d", mass, temp, got, want)
	}
}

func TestStepIceOfOtherArguments(t *testing.T) {
	for _, mass := range badMasses() {
		for _, temp := range []int{-400, -50, 0, 19, 400, 401} {
			checkStepIs(t, mass, temp, -1)
		}
	}
	for _, temp := range badTemps() {
		for _, mass := range []int{0, 2500, impl.MaxMass, -1} {
			checkStepIs(t, mass, temp, -1)
		}
	}
}

func TestRunIceEdges(t *testing.T) {
	for _, mass := range sampleMasses() {
		if impl.RunIce(mass, nil) != mass || impl.RunIce(mass, []int{}) != mass {
			t.Errorf("RunIce(%d) without hours = %d", mass, impl.RunIce(mass, nil))
		}
	}
	checkRunIs(t, 0, []int{-50, -50, 20}, 441)
	checkRunIs(t, 100, []int{400, 400, -1}, 5)
	checkRunIs(t, 0, repeated(-1, impl.MaxHours), 1000)
	checkRunIs(t, 0, repeated(-impl.MaxTemp, impl.MaxHours), 400000)
	checkRunIs(t, 600000, repeated(-impl.MaxTemp, impl.MaxHours), impl.MaxMass)
	checkRunIs(t, impl.MaxMass, repeated(20, impl.MaxHours), 799*799)
	checkRunIs(t, impl.MaxMass, repeated(impl.MaxTemp, impl.MaxHours), 0)
	checkRunIs(t, impl.MaxMass, repeated(19, impl.MaxHours), impl.MaxMass)
}

func checkRunIs(t *testing.T, mass int, temps []int, want int) {
	if got := impl.RunIce(mass, temps); got != want {
		t.Errorf("RunIce(%d, %v) = %d, not %d", mass, temps, got, want)
	}
}

func TestThicksOfEdges(t *testing.T) {
	if got := impl.ThicksOf(2500, nil); len(got) != 0 {
		t.Errorf("ThicksOf without hours = %v", got)
	}
	if got := impl.ThicksOf(0, []int{-50, -50, 20, 400}); !sameInts(got, []int{15, 22, 21, 1}) {
		t.Errorf("ThicksOf = %v", got)
	}
	if got := impl.ThicksOf(impl.MaxMass, repeated(-1, impl.MaxHours)); !sameInts(got, repeated(999, impl.MaxHours)) {
		t.Errorf("ThicksOf at the limit = %v", got)
	}
	if got := impl.ThicksOf(0, repeated(400, impl.MaxHours)); !sameInts(got, repeated(0, impl.MaxHours)) {
		t.Errorf("ThicksOf without ice = %v", got)
	}
}

func TestFrostSumEdges(t *testing.T) {
	if impl.FrostSum(nil) != 0 || impl.FrostSum([]int{0}) != 0 || impl.FrostSum([]int{400, 1}) != 0 {
		t.Error("FrostSum without frost")
	}
	if got := impl.FrostSum([]int{-50, 30, -20, 0, -1}); got != 71 {
		t.Errorf("FrostSum = %d", got)
	}
	if got := impl.FrostSum(repeated(-impl.MaxTemp, impl.MaxHours)); got != 80000 {
		t.Errorf("FrostSum of the most frost = %d", got)
	}
}

func TestFirstThickEdges(t *testing.T) {
	temps := []int{-50, -50, 400, -400}
	for _, c := range [][2]int{{15, 0}, {16, 1}, {22, 1}, {23, 3}, {44, 3}, {45, -1}, {0, 0}, {-1, 0}, {1000, -1}, {greatestInt, -1}, {leastInt, 0}} {
		if got := impl.FirstThick(0, temps, c[0]); got != c[1] {
			t.Errorf("FirstThick(0, %v, %d) = %d, not %d", temps, c[0], got, c[1])
		}
	}
	if impl.FirstThick(2500, nil, 0) != -1 || impl.FirstThick(2500, nil, leastInt) != -1 {
		t.Error("FirstThick without hours")
	}
	if impl.FirstThick(2500, []int{20}, 50) != -1 {
		t.Error("FirstThick looks at the ice before the first hour")
	}
}

func TestRunsOfOtherMasses(t *testing.T) {
	for _, mass := range badMasses() {
		checkNoRun(t, mass, nil)
		checkNoRun(t, mass, []int{-50, 20})
	}
}

func TestRunsOfOtherWeathers(t *testing.T) {
	for _, temps := range badWeathers() {
		checkNoRun(t, 0, temps)
		checkNoRun(t, 2500, temps)
		checkNoRun(t, impl.MaxMass, temps)
		if got := impl.FrostSum(temps); got != -1 {
			t.Errorf("FrostSum(%v) = %d", temps, got)
		}
		if first, last := impl.ColdestSpell(temps); first != -1 || last != -1 {
			t.Errorf("ColdestSpell(%v) = %d, %d", temps, first, last)
		}
	}
}

// checkNoRun checks the results for arguments for which RunIce is -1.
func checkNoRun(t *testing.T, mass int, temps []int) {
	checkRunIs(t, mass, temps, -1)
	if got := impl.ThicksOf(mass, temps); len(got) != 0 {
		t.Errorf("ThicksOf(%d, %v) = %v", mass, temps, got)
	}
	for _, need := range []int{leastInt, -1, 0, 15} {
		if got := impl.FirstThick(mass, temps, need); got != -1 {
			t.Errorf("FirstThick(%d, %v, %d) = %d", mass, temps, need, got)
		}
	}
}

func TestLoadOfEdges(t *testing.T) {
	for _, c := range [][2]int{{0, 0}, {1, 1}, {50, 2500}, {998, 996004}, {999, 998001}, {-1, -1}, {1000, -1}, {greatestInt, -1}, {leastInt, -1}} {
		if got := impl.LoadOf(c[0]); got != c[1] {
			t.Errorf("LoadOf(%d) = %d, not %d", c[0], got, c[1])
		}
	}
}

func TestNeedThickEdges(t *testing.T) {
	for _, c := range [][2]int{
		{0, 0}, {1, 1}, {2, 2}, {2499, 50}, {2500, 50}, {2501, 51}, {898704, 948}, {898705, 949},
		{impl.MaxLoad, 949}, {impl.MaxLoad + 1, -1}, {-1, -1}, {greatestInt, -1}, {leastInt, -1},
	} {
		if got := impl.NeedThick(c[0]); got != c[1] {
			t.Errorf("NeedThick(%d) = %d, not %d", c[0], got, c[1])
		}
	}
}

func TestHoursToEdges(t *testing.T) {
	for _, c := range [][4]int{
		{0, 50, 50, 10}, {1, 50, 50, 10}, {250, 50, 50, 9}, {249, 50, 50, 10}, {2499, 50, 50, 1}, {2500, 50, 50, 0}, {2501, 50, 50, 0},
		{0, 1, 0, 0}, {0, 1, 1, 1}, {0, 400, 999, 500}, {0, 1, 999, 199601},
		{998000, 400, 999, 1}, {impl.MaxMass, 1, 999, 0}, {impl.MaxMass, 400, 0, 0},
	} {
		checkHoursAre(t, c[0], c[1], c[2], c[3])
	}
}

func TestHoursToOfOtherArguments(t *testing.T) {
	for _, mass := range badMasses() {
		checkHoursAre(t, mass, 50, 50, -1)
		checkHoursAre(t, mass, 50, 0, -1)
	}
	for _, frost := range []int{0, -1, -50, impl.MaxTemp + 1, greatestInt, leastInt} {
		checkHoursAre(t, 0, frost, 50, -1)
		checkHoursAre(t, 2500, frost, 50, -1)
	}
	for _, need := range []int{-1, impl.MaxThick + 1, greatestInt, leastInt} {
		checkHoursAre(t, 0, 50, need, -1)
		checkHoursAre(t, impl.MaxMass, 50, need, -1)
	}
}

func checkHoursAre(t *testing.T, mass int, frost int, need int, want int) {
	if got := impl.HoursTo(mass, frost, need); got != want {
		t.Errorf("HoursTo(%d, %d, %d) = %d, not %d", mass, frost, need, got, want)
	}
}

func TestUnderSnowEdges(t *testing.T) {
	for _, c := range [][3]int{
		{-100, 50, -50}, {100, 50, 50}, {-51, 50, -25}, {51, 50, 25}, {-1, 1, 0}, {1, 1, 0}, {-1, 0, -1},
		{-400, 500, -36}, {400, 500, 36}, {-400, 0, -400}, {400, 0, 400}, {0, 0, 0}, {0, 500, 0},
	} {
		checkFeltIs(t, c[0], c[1], c[2])
	}
}

func TestUnderSnowOfOtherArguments(t *testing.T) {
	for _, snow := range []int{-1, -impl.Cover, impl.MaxSnow + 1, greatestInt, leastInt} {
		checkFeltIs(t, -100, snow, 0)
		checkFeltIs(t, 400, snow, 0)
	}
	for _, temp := range badTemps() {
		checkFeltIs(t, temp, 0, 0)
		checkFeltIs(t, temp, 50, 0)
	}
}

func checkFeltIs(t *testing.T, temp int, snow int, want int) {
	if got := impl.UnderSnow(temp, snow); got != want {
		t.Errorf("UnderSnow(%d, %d) = %d, not %d", temp, snow, got, want)
	}
}

func TestColdestSpellEdges(t *testing.T) {
	checkSpellIs(t, []int{-10, 30, -20, 5, -30, 40}, 2, 4)
	checkSpellIs(t, []int{5}, 0, 0)
	checkSpellIs(t, []int{7, 5, 6}, 1, 1)
	checkSpellIs(t, repeated(-impl.MaxTemp, impl.MaxHours), 0, impl.MaxHours-1)
	checkSpellIs(t, repeated(impl.MaxTemp, impl.MaxHours), 0, 0)
	checkSpellIs(t, nil, -1, -1)
	checkSpellIs(t, []int{}, -1, -1)
}

func TestColdestSpellOfEqualSums(t *testing.T) {
	checkSpellIs(t, []int{5, 3, 3}, 1, 1)
	checkSpellIs(t, []int{-5, 9, -5}, 0, 0)
	checkSpellIs(t, []int{-5, 0, 9}, 0, 0)
	checkSpellIs(t, []int{9, 0, -5}, 1, 2)
	checkSpellIs(t, []int{0, 0, 0}, 0, 0)
	checkSpellIs(t, []int{-5, 5, -5}, 0, 0)
	checkSpellIs(t, []int{1, -3, 3, -3, 1}, 1, 1)
	checkSpellIs(t, []int{-4, 9, -2, -2}, 0, 0)
}

func checkSpellIs(t *testing.T, temps []int, wantFirst int, wantLast int) {
	if first, last := impl.ColdestSpell(temps); first != wantFirst || last != wantLast {
		t.Errorf("ColdestSpell(%v) = %d, %d, not %d, %d", temps, first, last, wantFirst, wantLast)
	}
}

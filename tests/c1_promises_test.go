package tests

import (
	"testing"

	"loop.example/iceharvest/impl"
)

func TestPromise1RootsAreRoots(t *testing.T) {
	for mass := 0; mass <= impl.MaxMass; mass++ {
		root := impl.ThickOf(mass)
		if root < 0 || root*root > mass || (root+1)*(root+1) <= mass {
			t.Fatalf("ThickOf(%d) = %d", mass, root)
		}
	}
	for thick := 0; thick <= impl.MaxThick; thick++ {
		if got := impl.ThickOf(thick * thick); got != thick {
			t.Fatalf("ThickOf(%d) = %d", thick*thick, got)
		}
	}
}

func TestPromise2FrostGrowsIceAndWarmthTakesIt(t *testing.T) {
	for _, mass := range sampleMasses() {
		for temp := -impl.MaxTemp; temp <= impl.MaxTemp; temp++ {
			checkStep(t, mass, temp)
		}
		if got := impl.StepIce(mass, 0); got != mass {
			t.Errorf("StepIce(%d, 0) = %d", mass, got)
		}
	}
}

// checkStep checks that an hour leads from a valid mass to a valid one, in the direction of the temperature.
func checkStep(t *testing.T, mass int, temp int) {
	got := impl.StepIce(mass, temp)
	if got < 0 || got > impl.MaxMass {
		t.Errorf("StepIce(%d, %d) = %d is no mass", mass, temp, got)
	}
	if temp < 0 && got < mass {
		t.Errorf("StepIce(%d, %d) = %d is less with frost", mass, temp, got)
	}
	if temp >= 0 && got > mass {
		t.Errorf("StepIce(%d, %d) = %d is more without frost", mass, temp, got)
	}
}

func TestPromise3HoursFollowEachOther(t *testing.T) {
	for _, temps := range sampleWeathers() {
		for _, mass := range sampleMasses() {
			all := impl.RunIce(mass, temps)
			for i := 0; i <= len(temps); i++ {
				half := impl.RunIce(mass, temps[:i])
				if got := impl.RunIce(half, temps[i:]); got != all {
					t.Fatalf("RunIce(%d, %v) = %d, but %d in two parts at %d", mass, temps, all, got, i)
				}
			}
		}
	}
}

func TestPromise4FrostHasNoOrder(t *testing.T) {
	for _, temps := range sampleFrosts() {
		for _, mass := range sampleMasses() {
			want := mass + impl.Growth*impl.FrostSum(temps)
			if want > impl.MaxMass {
				want = impl.MaxMass
			}
			if got := impl.RunIce(mass, temps); got != want {
				t.Errorf("RunIce(%d, %v) = %d, not %d", mass, temps, got, want)
			}
			if got := impl.RunIce(mass, reversed(temps)); got != want {
				t.Errorf("RunIce(%d, %v) = %d, not %d in reverse order", mass, temps, got, want)
			}
		}
	}
}

func TestPromise5ThickIceStaysThicker(t *testing.T) {
	for _, temps := range sampleWeathers() {
		before := -1
		for _, mass := range sampleMasses() {
			got := impl.RunIce(mass, temps)
			if got < before {
				t.Fatalf("RunIce(%d, %v) = %d, but %d for less ice", mass, temps, got, before)
			}
			before = got
		}
	}
}

func TestPromise5HoldsFromMassToMass(t *testing.T) {
	for _, temp := range []int{-400, -1, 0, 19, 20, 40, 400} {
		before := -1
		for mass := 0; mass <= impl.MaxMass; mass++ {
			got := impl.RunIce(mass, []int{temp})
			if got < before {
				t.Fatalf("RunIce(%d, [%d]) = %d, but %d for less ice", mass, temp, got, before)
			}
			before = got
		}
	}
}

func TestPromise6ThicknessesAreRoots(t *testing.T) {
	for _, temps := range sampleWeathers() {
		for _, mass := range sampleMasses() {
			thicks := impl.ThicksOf(mass, temps)
			if len(thicks) != len(temps) {
				t.Fatalf("ThicksOf(%d, %v) = %v", mass, temps, thicks)
			}
			for i, thick := range thicks {
				if want := impl.ThickOf(impl.RunIce(mass, temps[:i+1])); thick != want {
					t.Fatalf("ThicksOf(%d, %v)[%d] = %d, not %d", mass, temps, i, thick, want)
				}
			}
		}
	}
}

func TestPromise7FrostAddsUp(t *testing.T) {
	for _, temps := range sampleWeathers() {
		all := impl.FrostSum(temps)
		for i := 0; i <= len(temps); i++ {
			if got := impl.FrostSum(temps[:i]) + impl.FrostSum(temps[i:]); got != all {
				t.Fatalf("FrostSum(%v) = %d, but %d in two parts at %d", temps, all, got, i)
			}
		}
		if got := impl.FrostSum(negated(temps)); got != warmthSum(temps) {
			t.Errorf("FrostSum(%v) = %d, not %d", negated(temps), got, warmthSum(temps))
		}
	}
}

// warmthSum returns the sum of the temperatures that are greater than 0.
func warmthSum(temps []int) int {
	sum := 0
	for _, temp := range temps {
		if temp > 0 {
			sum += temp
		}
	}
	return sum
}

func TestPromise8TheFirstHourIsTheFirst(t *testing.T) {
	for _, temps := range sampleWeathers() {
		for _, mass := range []int{0, 399, 2500, 640000, impl.MaxMass} {
			thicks := impl.ThicksOf(mass, temps)
			for need := -1; need <= impl.MaxThick+1; need++ {
				checkFirst(t, mass, temps, thicks, need)
			}
		}
	}
}

// checkFirst checks FirstThick by the thicknesses after each hour.
func checkFirst(t *testing.T, mass int, temps []int, thicks []int, need int) {
	got := impl.FirstThick(mass, temps, need)
	if got < -1 || got >= len(thicks) {
		t.Fatalf("FirstThick(%d, %v, %d) = %d is no hour", mass, temps, need, got)
	}
	if got >= 0 && thicks[got] < need {
		t.Fatalf("FirstThick(%d, %v, %d) = %d, when ice is too thin", mass, temps, need, got)
	}
	before := got
	if got < 0 {
		before = len(thicks)
	}
	for i := 0; i < before; i++ {
		if thicks[i] >= need {
			t.Fatalf("FirstThick(%d, %v, %d) = %d, but hour %d is enough", mass, temps, need, got, i)
		}
	}
}

func TestPromise9TheLeastThicknessBears(t *testing.T) {
	for thick := 0; thick <= 948; thick++ {
		load := impl.LoadOf(thick)
		checkNeed(t, load)
		checkNeed(t, load+1)
		if load > 0 {
			checkNeed(t, load-1)
		}
	}
	for load := 0; load <= impl.MaxLoad; load += 97 {
		checkNeed(t, load)
	}
	checkNeed(t, impl.MaxLoad)
}

// checkNeed checks that NeedThick of a load bears it, and a millimetre less does not.
func checkNeed(t *testing.T, load int) {
	thick := impl.NeedThick(load)
	if thick < 0 || thick > impl.MaxThick || impl.LoadOf(thick) < load {
		t.Fatalf("NeedThick(%d) = %d", load, thick)
	}
	if thick > 0 && impl.LoadOf(thick-1) >= load {
		t.Fatalf("NeedThick(%d) = %d is not the least", load, thick)
	}
}

func TestPromise10LoadsNeedTheirIce(t *testing.T) {
	for thick := 0; thick <= impl.MaxThick; thick++ {
		load := impl.LoadOf(thick)
		if load != impl.Bears*thick*thick {
			t.Fatalf("LoadOf(%d) = %d", thick, load)
		}
		want := thick
		if load > impl.MaxLoad {
			want = -1
		}
		if got := impl.NeedThick(load); got != want {
			t.Fatalf("NeedThick(LoadOf(%d)) = %d, not %d", thick, got, want)
		}
	}
}

func TestPromise11TheLeastHoursAreEnough(t *testing.T) {
	for _, mass := range sampleMasses() {
		for _, frost := range []int{1, 2, 7, 50, 199, impl.MaxTemp} {
			for need := 0; need <= impl.MaxThick; need += 27 {
				checkHours(t, mass, frost, need)
			}
		}
	}
}

// checkHours checks that HoursTo is enough and 1 less is not; lists of hours that are too long for RunIce are not looked at.
func checkHours(t *testing.T, mass int, frost int, need int) {
	hours := impl.HoursTo(mass, frost, need)
	if hours < 0 {
		t.Fatalf("HoursTo(%d, %d, %d) = %d", mass, frost, need, hours)
	}
	if hours > impl.MaxHours {
		return
	}
	temps := repeated(-frost, hours)
	if impl.ThickOf(impl.RunIce(mass, temps)) < need {
		t.Fatalf("HoursTo(%d, %d, %d) = %d is not enough", mass, frost, need, hours)
	}
	if hours > 0 && impl.ThickOf(impl.RunIce(mass, temps[1:])) >= need {
		t.Fatalf("HoursTo(%d, %d, %d) = %d is not the least", mass, frost, need, hours)
	}
}

func TestPromise11HoldsForLongFrost(t *testing.T) {
	for _, frost := range []int{1, 3, 17} {
		for _, need := range []int{100, 500, 998, impl.MaxThick} {
			mass := 0
			hours := 0
			for impl.ThickOf(mass) < need {
				mass = impl.StepIce(mass, -frost)
				hours++
			}
			if got := impl.HoursTo(0, frost, need); got != hours {
				t.Errorf("HoursTo(0, %d, %d) = %d, not %d", frost, need, got, hours)
			}
		}
	}
}

func TestPromise12SnowShelters(t *testing.T) {
	for temp := -impl.MaxTemp; temp <= impl.MaxTemp; temp++ {
		for snow := 0; snow <= impl.MaxSnow; snow++ {
			checkSnow(t, temp, snow)
		}
		if got := impl.UnderSnow(temp, 0); got != temp {
			t.Errorf("UnderSnow(%d, 0) = %d", temp, got)
		}
	}
}

// checkSnow checks the sign of what is felt under snow, and that it is the quotient without what is behind the period.
func checkSnow(t *testing.T, temp int, snow int) {
	felt := impl.UnderSnow(temp, snow)
	if felt*temp < 0 || absolute(felt) > absolute(temp) {
		t.Fatalf("UnderSnow(%d, %d) = %d", temp, snow, felt)
	}
	rest := absolute(temp)*impl.Cover - absolute(felt)*(impl.Cover+snow)
	if rest < 0 || rest >= impl.Cover+snow {
		t.Fatalf("UnderSnow(%d, %d) = %d is not the quotient", temp, snow, felt)
	}
}

func TestPromise13NoSpellIsColder(t *testing.T) {
	for _, temps := range spellWeathers() {
		if len(temps) == 0 {
			continue
		}
		first, last := impl.ColdestSpell(temps)
		if first < 0 || last < first || last >= len(temps) {
			t.Fatalf("ColdestSpell(%v) = %d, %d", temps, first, last)
		}
		wantFirst, wantLast := coldestByEnds(temps)
		if first != wantFirst || last != wantLast {
			t.Errorf("ColdestSpell(%v) = %d, %d, not %d, %d", temps, first, last, wantFirst, wantLast)
		}
	}
}

// spellWeathers returns the sample weathers and short ones in which many spells are equal.
func spellWeathers() [][]int {
	list := sampleWeathers()
	for seed := 0; seed < 200; seed++ {
		list = append(list, spread(1+seed%9, seed, -2, 2))
	}
	return list
}

// coldestByEnds looks at all spells from the last one to the first one, so that of equal ones the first one is left.
func coldestByEnds(temps []int) (int, int) {
	first := len(temps) - 1
	last := first
	least := temps[first]
	for i := len(temps) - 1; i >= 0; i-- {
		for j := len(temps) - 1; j >= i; j-- {
			sum := sumOf(temps[i : j+1])
			if sum <= least {
				least = sum
				first = i
				last = j
			}
		}
	}
	return first, last
}

// sumOf returns the sum of a list.
func sumOf(list []int) int {
	sum := 0
	for _, n := range list {
		sum += n
	}
	return sum
}

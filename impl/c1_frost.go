package impl

// MaxThick is the greatest thickness of ice, in millimetres.
const MaxThick = 999

// MaxMass is the greatest mass of ice, the square of the greatest thickness.
const MaxMass = 998001

// MaxTemp is the greatest temperature, in tenths of a degree, with either sign.
const MaxTemp = 400

// MaxHours is the largest number of hours of a list.
const MaxHours = 200

// MaxLoad is the greatest load.
const MaxLoad = 900000

// MaxSnow is the greatest depth of snow.
const MaxSnow = 500

// Growth is by how much the mass of ice grows with one tenth of a degree of frost in an hour.
const Growth = 5

// Thaw is how many tenths of a degree of warmth take a millimetre of ice away in an hour.
const Thaw = 20

// Bears is the load that ice of a millimetre bears.
const Bears = 1

// Cover is the depth of snow that halves frost and warmth.
const Cover = 50

// ThickOf returns the thickness of ice of a mass.
func ThickOf(mass int) int {
	if !validMass(mass) {
		return -1
	}
	low := 0
	high := MaxThick
	// Rounding the middle up makes low..high shrink at each step.
	for low < high {
		middle := (low + high + 1) / 2
		if middle*middle <= mass {
			low = middle
		} else {
			high = middle - 1
		}
	}
	return low
}

// StepIce returns the mass of ice after an hour.
func StepIce(mass int, temp int) int {
	if !validMass(mass) || !validTemp(temp) {
		return -1
	}
	if temp < 0 {
		return frozenMass(mass, -temp)
	}
	return thawedMass(mass, temp/Thaw)
}

// RunIce returns the mass of ice after some hours.
func RunIce(mass int, temps []int) int {
	if !validMass(mass) || !validTemps(temps) {
		return -1
	}
	ice := mass
	for _, temp := range temps {
		ice = StepIce(ice, temp)
	}
	return ice
}

// ThicksOf returns the thickness of ice after each hour.
func ThicksOf(mass int, temps []int) []int {
	if !validMass(mass) || !validTemps(temps) {
		return nil
	}
	thicks := make([]int, len(temps))
	ice := mass
	for i, temp := range temps {
		ice = StepIce(ice, temp)
		thicks[i] = ThickOf(ice)
	}
	return thicks
}

// FrostSum returns the sum of the frost of all hours.
func FrostSum(temps []int) int {
	if !validTemps(temps) {
		return -1
	}
	sum := 0
	for _, temp := range temps {
		if temp < 0 {
			sum -= temp
		}
	}
	return sum
}

// FirstThick returns the first hour after which ice is thick enough.
func FirstThick(mass int, temps []int, need int) int {
	for i, thick := range ThicksOf(mass, temps) {
		if thick >= need {
			return i
		}
	}
	return -1
}

// LoadOf returns the load that ice bears.
func LoadOf(thick int) int {
	if !validThick(thick) {
		return -1
	}
	return Bears * thick * thick
}

// NeedThick returns the least thickness of ice that bears a load.
func NeedThick(load int) int {
	if load < 0 || load > MaxLoad {
		return -1
	}
	for thick := 0; thick <= MaxThick; thick++ {
		if LoadOf(thick) >= load {
			return thick
		}
	}
	return -1
}

// HoursTo returns how many hours of frost make ice thick enough.
func HoursTo(mass int, frost int, need int) int {
	if !validMass(mass) || frost < 1 || frost > MaxTemp || !validThick(need) {
		return -1
	}
	lack := need*need - mass
	if lack <= 0 {
		return 0
	}
	// The limit of the mass delays nothing: no need is past it.
	growth := Growth * frost
	return (lack + growth - 1) / growth
}

// UnderSnow returns the temperature that ice under snow feels.
func UnderSnow(temp int, snow int) int {
	if !validTemp(temp) || snow < 0 || snow > MaxSnow {
		return 0
	}
	return temp * Cover / (Cover + snow)
}

// ColdestSpell returns the coldest hours next to each other.
func ColdestSpell(temps []int) (int, int) {
	if len(temps) == 0 || !validTemps(temps) {
		return -1, -1
	}
	first := 0
	last := 0
	least := temps[0]
	for begin := range temps {
		sum := 0
		for end := begin; end < len(temps); end++ {
			sum += temps[end]
			// Only a lesser sum counts, so that of equal ones the first stays.
			if sum < least {
				least = sum
				first = begin
				last = end
			}
		}
	}
	return first, last
}

// frozenMass returns a valid mass after an hour with some frost.
func frozenMass(mass int, frost int) int {
	grown := mass + Growth*frost
	if grown > MaxMass {
		return MaxMass
	}
	return grown
}

// thawedMass returns a valid mass after an hour that takes some millimetres.
func thawedMass(mass int, loss int) int {
	// Without a loss even the part of the mass that is no square stays.
	if loss == 0 {
		return mass
	}
	left := ThickOf(mass) - loss
	if left < 0 {
		return 0
	}
	return left * left
}

// validMass reports whether a mass is in its limits.
func validMass(mass int) bool {
	return mass >= 0 && mass <= MaxMass
}

// validThick reports whether a thickness is in its limits.
func validThick(thick int) bool {
	return thick >= 0 && thick <= MaxThick
}

// validTemp reports whether a temperature is in its limits.
func validTemp(temp int) bool {
	return temp >= -MaxTemp && temp <= MaxTemp
}

// validTemps reports whether temperatures are not too many, and each is in its limits.
func validTemps(temps []int) bool {
	if len(temps) > MaxHours {
		return false
	}
	for _, temp := range temps {
		if !validTemp(temp) {
			return false
		}
	}
	return true
}

package tests

import "loop.example/iceharvest/impl"

// sampleMasses returns masses of thin and thick ice, ascending, with squares, their neighbours and both limits among them.
func sampleMasses() []int {
	return []int{0, 1, 2, 3, 4, 8, 9, 10, 99, 100, 101, 399, 400, 401, 2400, 2499, 2500, 2501, 39999, 40000,
		123456, 249999, 250000, 640000, 899999, 996003, 996004, 998000, impl.MaxMass}
}

// sampleFrosts returns lists of hours without warmth.
func sampleFrosts() [][]int {
	return [][]int{
		nil,
		{0},
		{-1},
		{-50, -50},
		{0, -400, 0, -1},
		spread(9, 1, -60, 0),
		spread(100, 2, -400, 0),
		spread(impl.MaxHours, 3, -400, -200),
		repeated(-impl.MaxTemp, impl.MaxHours),
	}
}

// sampleWeathers returns lists of hours with frost, with warmth, and with both.
func sampleWeathers() [][]int {
	list := sampleFrosts()
	mixed := [][]int{
		{400},
		{-50, -50, 20},
		{-50, 30, -20},
		{-10, 30, -20, 5, -30, 40},
		{19, -1, 19, -1},
		{40, -50, 39},
		{-400, 400, -400, 400},
		spread(7, 4, 0, 400),
		spread(30, 5, -90, 60),
		spread(100, 6, -400, 400),
		spread(impl.MaxHours, 7, -400, 100),
		repeated(impl.MaxTemp, impl.MaxHours),
	}
	return append(list, mixed...)
}

// badWeathers returns lists of hours that are not valid, each for one reason alone.
func badWeathers() [][]int {
	return [][]int{
		{impl.MaxTemp + 1},
		{-impl.MaxTemp - 1},
		{-50, -50, impl.MaxTemp + 1},
		{-50, -impl.MaxTemp - 1, -50},
		{greatestInt},
		{leastInt},
		repeated(0, impl.MaxHours+1),
		repeated(-50, impl.MaxHours+1),
	}
}

// badMasses returns numbers that are no masses.
func badMasses() []int {
	return []int{-1, impl.MaxMass + 1, greatestInt, leastInt}
}

// badTemps returns numbers that are no temperatures.
func badTemps() []int {
	return []int{-impl.MaxTemp - 1, impl.MaxTemp + 1, greatestInt, leastInt}
}

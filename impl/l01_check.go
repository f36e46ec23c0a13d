package impl

const MaxValue = 32767

const (
	maxDisk  = 4
	maxPlace = 15
	noSum    = -1
)

// sumModulus is a prime above MaxValue: multiples of 31 by different values
// never agree modulo it, so a sum tells the values at one place apart.
const sumModulus = 65521

type storedValue int64

func (v storedValue) valid() bool {
	return between(int64(v), 0, MaxValue)
}

func (v storedValue) sumAt(disk int64, place int64) int64 {
	return (31*int64(v) + 1000*place + 20000*disk) % sumModulus
}

func between(n int64, low int64, high int64) bool {
	return low <= n && n <= high
}

// sumWhere asks about the ranges before it sums, because sumAt would overflow
// on numbers far outside them.
func sumWhere(disk int64, place int64, valid func() bool, sumAt func(int64, int64) int64) int64 {
	if !between(disk, 0, maxDisk) || !between(place, 0, maxPlace) || !valid() {
		return noSum
	}
	return sumAt(disk, place)
}

func ValueOk(v int64) bool {
	valid := storedValue.valid
	return valid(storedValue(v))
}

func SumOf(disk int64, place int64, value int64) int64 {
	v := storedValue(value)
	return sumWhere(disk, place, v.valid, v.sumAt)
}

// Fits rejects noSum by itself, because SumOf answers it for what is out of
// range, and that is no sum that could belong to anything.
func Fits(disk int64, place int64, value int64, sum int64) bool {
	return sum != noSum && SumOf(disk, place, value) == sum
}

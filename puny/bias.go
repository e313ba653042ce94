package puny

// The numbers of Punycode.
const (
	base        = 36
	tmin        = 1
	tmax        = 26
	skew        = 38
	damp        = 700
	initialBias = 72
	initialN    = 128

	most = 1<<31 - 1 // what is reckoned may be
)

// threshold tells at k which digits are the last one of a number: those below it.
func threshold(k, bias int64) int64 { return min(max(k-bias, tmin), tmax) }

// biasBehind is the bias behind a delta, for so many runes.
func biasBehind(delta, runes int64, first bool) int64 {
	if first {
		delta /= damp
	} else {
		delta /= 2
	}
	delta += delta / runes
	var k int64
	for delta > (base-tmin)*tmax/2 {
		delta /= base - tmin
		k += base
	}
	return k + (base-tmin+1)*delta/(delta+skew)
}

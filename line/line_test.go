package line_test

import (
	"math"
	"math/rand"
	"slices"
	"strings"
	"testing"

	"castellan/api"
	"castellan/line"
)

const pilot = 3 + 3i

// sixteen holds the point of each number of four bits, written out by the chapter's words.
var sixteen = [16]complex128{
	-3 - 3i, -3 - 1i, -3 + 1i, -3 + 3i,
	-1 - 3i, -1 - 1i, -1 + 1i, -1 + 3i,
	1 - 3i, 1 - 1i, 1 + 1i, 1 + 3i,
	3 - 3i, 3 - 1i, 3 + 1i, 3 + 3i,
}

var (
	nan  = math.NaN()
	inf  = math.Inf(1)
	zero = math.Copysign(0, -1) // -0
)

func anyBytes(rnd *rand.Rand, n int) string {
	b := make([]byte, n)
	rnd.Read(b)
	return string(b)
}

// anyNoise has parts from -1/2 to 1/2, the two ends often among them.
func anyNoise(rnd *rand.Rand, n int) []complex128 {
	l := make([]complex128, n)
	for i := range l {
		l[i] = complex(anyHalf(rnd), anyHalf(rnd))
	}
	return l
}

func anyHalf(rnd *rand.Rand) float64 {
	if rnd.Intn(2) == 0 {
		return float64(rnd.Intn(3)-1) / 2
	}
	return rnd.Float64() - 0.5
}

// anyPoints has parts that are fourths from -most to most: among them all at which a point is taken as another one, and sums of them are exact.
func anyPoints(rnd *rand.Rand, n, most int) []complex128 {
	l := make([]complex128, n)
	for i := range l {
		l[i] = complex(float64(rnd.Intn(8*most+1))/4-float64(most), float64(rnd.Intn(8*most+1))/4-float64(most))
	}
	return l
}

func samePart(a, b float64) bool {
	return a == b || a != a && b != b
}

func sameRow(a, b []complex128) bool {
	return slices.EqualFunc(a, b, func(p, q complex128) bool {
		return samePart(real(p), real(q)) && samePart(imag(p), imag(q))
	})
}

func wantRow(t *testing.T, what string, got, want []complex128) {
	t.Helper()
	if !sameRow(got, want) {
		t.Errorf("%s: %v, not %v", what, got, want)
	}
}

func wantReceive(t *testing.T, what string, l []complex128, want string, e api.Errno) {
	t.Helper()
	if s, ge := line.Receive(l); s != want || ge != e {
		t.Errorf("%s: %x, %d, not %x, %d", what, s, ge, want, e)
	}
}

func rowOf(t *testing.T, s string) []complex128 {
	t.Helper()
	l, e := line.Send(s)
	if e != api.OK || len(l) != 1+2*len(s) {
		t.Fatalf("Send of %d bytes: %d points, %d", len(s), len(l), e)
	}
	return l
}

// P3.1

func TestSend(t *testing.T) {
	wantRow(t, "nothing to send", rowOf(t, ""), []complex128{pilot})
	wantRow(t, "1B", rowOf(t, "\x1b"), []complex128{pilot, -3 - 1i, 1 + 3i})
	wantRow(t, "1B E4", rowOf(t, "\x1b\xe4"), []complex128{pilot, -3 - 1i, 1 + 3i, 3 + 1i, -1 - 3i})
}

func TestSendOfEachByte(t *testing.T) {
	for b := range 256 {
		wantRow(t, "a byte", rowOf(t, string([]byte{byte(b)})), []complex128{pilot, sixteen[b/16], sixteen[b%16]})
	}
}

func TestSendOfManyBytes(t *testing.T) {
	rnd := rand.New(rand.NewSource(31))
	for n := range 100 {
		s := anyBytes(rnd, n)
		want := []complex128{pilot}
		for i := range len(s) {
			want = append(want, sixteen[s[i]/16], sixteen[s[i]%16])
		}
		wantRow(t, "bytes", rowOf(t, s), want)
	}
}

func TestSendOfTooManyBytes(t *testing.T) {
	for _, n := range []int{2046, 2047} {
		rowOf(t, strings.Repeat("x", n))
	}
	for _, n := range []int{2048, 2049, 4096, 1 << 16} {
		if l, e := line.Send(strings.Repeat("x", n)); len(l) != 0 || e != api.ErrLineLong {
			t.Errorf("Send of %d bytes: %d points, %d", n, len(l), e)
		}
	}
}

// P3.2

func TestTurn(t *testing.T) {
	const p = 1 + 2i
	for _, x := range []struct {
		k    int
		want complex128
	}{
		{0, p}, {1, -2 + 1i}, {2, -1 - 2i}, {3, 2 - 1i}, {4, p}, {5, -2 + 1i}, {6, -1 - 2i}, {7, 2 - 1i}, {8, p},
		{-1, 2 - 1i}, {-2, -1 - 2i}, {-3, -2 + 1i}, {-4, p}, {-5, 2 - 1i}, {-8, p},
		{1 << 40, p}, {1<<40 + 1, -2 + 1i}, {-1 << 40, p}, {-1<<40 - 1, 2 - 1i},
		{math.MaxInt, 2 - 1i}, {math.MaxInt - 1, -1 - 2i}, {math.MinInt, p}, {math.MinInt + 1, -2 + 1i},
	} {
		if l := line.Turn([]complex128{p, 0, -x.want}, x.k); len(l) != 3 || l[0] != x.want || l[1] != 0 {
			t.Errorf("Turn(1+2i, %d): %v, not %v", x.k, l, x.want)
		}
	}
}

func TestTurnOfAnyPoints(t *testing.T) {
	rnd := rand.New(rand.NewSource(32))
	powers := [4]complex128{1, 1i, -1, -1i}
	for range 200 {
		l, k := anyPoints(rnd, rnd.Intn(9), 9), rnd.Intn(41)-20
		var want []complex128
		for _, p := range l {
			want = append(want, p*powers[(k+20)%4])
		}
		wantRow(t, "turned", line.Turn(l, k), want)
	}
}

func TestTurnOfNoNumbers(t *testing.T) {
	l := []complex128{complex(inf, 2), complex(0, -inf), complex(nan, 1), complex(inf, nan), complex(-inf, inf)}
	wantRow(t, "by 0", line.Turn(l, 0), l)
	wantRow(t, "by 1", line.Turn(l, 1), []complex128{complex(-2, inf), complex(inf, 0), complex(-1, nan), complex(nan, inf), complex(-inf, -inf)})
	wantRow(t, "by 2", line.Turn(l, 2), []complex128{complex(-inf, -2), complex(0, inf), complex(nan, -1), complex(-inf, nan), complex(inf, -inf)})
	wantRow(t, "by -1", line.Turn(l, -1), []complex128{complex(2, -inf), complex(-inf, 0), complex(1, nan), complex(nan, -inf), complex(inf, inf)})
	wantRow(t, "by 4", line.Turn(l, 4), l)
}

func TestTurnOfNothing(t *testing.T) {
	for _, k := range []int{0, 1, -1, 4} {
		if len(line.Turn(nil, k)) != 0 || len(line.Turn([]complex128{}, k)) != 0 {
			t.Errorf("no points turned by %d are some", k)
		}
	}
}

func TestAdd(t *testing.T) {
	l := []complex128{1 + 2i, -3, 3i}
	for _, x := range []struct {
		what        string
		noise, want []complex128
	}{
		{"no noise", nil, l},
		{"empty noise", []complex128{}, l},
		{"shorter noise", []complex128{0.5 - 0.25i, 1i}, []complex128{1.5 + 1.75i, -3 + 1i, 3i}},
		{"noise as long", []complex128{1, 2, 3}, []complex128{2 + 2i, -1, 3 + 3i}},
		{"longer noise", []complex128{1, 2, 3, 4, 5i}, []complex128{2 + 2i, -1, 3 + 3i}},
		{"no numbers", []complex128{complex(nan, 1), complex(inf, 0), complex(1, -inf)}, []complex128{complex(nan, 3), complex(inf, 0), complex(1, -inf)}},
	} {
		wantRow(t, x.what, line.Add(l, x.noise), x.want)
	}
	wantRow(t, "endless both ways", line.Add([]complex128{complex(inf, inf)}, []complex128{complex(-inf, inf)}), []complex128{complex(nan, inf)})
	if len(line.Add(nil, l)) != 0 || len(line.Add(nil, nil)) != 0 {
		t.Error("no points with noise are some")
	}
}

func TestAddOfAnyPoints(t *testing.T) {
	rnd := rand.New(rand.NewSource(33))
	for range 200 {
		l, noise := anyPoints(rnd, rnd.Intn(9), 9), anyPoints(rnd, rnd.Intn(9), 9)
		var want []complex128
		for i, p := range l {
			if i < len(noise) {
				p = complex(real(p)+real(noise[i]), imag(p)+imag(noise[i]))
			}
			want = append(want, p)
		}
		wantRow(t, "with noise", line.Add(l, noise), want)
	}
}

// parts tells what each part of a near point is taken as.
func parts() map[float64]float64 {
	m := map[float64]float64{}
	for from, takenAs := range map[float64]float64{-2: -1, 0: 1, 2: 3} {
		m[from] = takenAs
		m[math.Nextafter(from, inf)] = takenAs
		m[math.Nextafter(from, -inf)] = takenAs - 2
		m[takenAs] = takenAs
	}
	for _, p := range []float64{-4, math.Nextafter(-4, inf), -3.5, -3, -2.5} {
		m[p] = -3
	}
	for _, p := range []float64{4, math.Nextafter(4, -inf), 3.5, 2.5} {
		m[p] = 3
	}
	m[-1.5], m[-0.5], m[0.5], m[1.5] = -1, -1, 1, 1
	return m
}

func TestNear(t *testing.T) {
	for a, x := range parts() {
		for b, y := range parts() {
			if p, ok := line.Near(complex(a, b)); p != complex(x, y) || !ok {
				t.Errorf("Near(%v%+vi): %v, %v, not %v%+vi", a, b, p, ok, x, y)
			}
		}
	}
}

func TestNearOfNothingBelowNought(t *testing.T) {
	if p, ok := line.Near(complex(zero, zero)); p != 1+1i || !ok {
		t.Errorf("-0-0i: %v, %v", p, ok)
	}
}

// farParts are those that no near point has.
func farParts() []float64 {
	return []float64{math.Nextafter(4, inf), math.Nextafter(-4, -inf), 4.5, -4.5, 1e300, -1e300, nan, -nan, inf, -inf}
}

func TestNearOfFarPoints(t *testing.T) {
	for _, far := range farParts() {
		for _, other := range append(farParts(), 0, 1, -4, 4) {
			for _, p := range []complex128{complex(far, other), complex(other, far)} {
				if q, ok := line.Near(p); q != 0 || ok {
					t.Errorf("Near(%v): %v, %v", p, q, ok)
				}
			}
		}
	}
}

// P3.3

func TestReceive(t *testing.T) {
	l := []complex128{pilot, -3 - 1i, 1 + 3i}
	wantReceive(t, "1B", l, "\x1b", api.OK)
	wantReceive(t, "1B, turned by 1", []complex128{-3 + 3i, 1 - 3i, -3 + 1i}, "\x1b", api.OK)
	wantReceive(t, "1B, turned by 2", []complex128{-3 - 3i, 3 + 1i, -1 - 3i}, "\x1b", api.OK)
	wantReceive(t, "1B, turned by 3", []complex128{3 - 3i, -1 + 3i, 3 - 1i}, "\x1b", api.OK)
	for k := range 4 {
		wantReceive(t, "the pilot alone", line.Turn([]complex128{pilot}, k), "", api.OK)
	}
}

func TestReceiveOfEachByte(t *testing.T) {
	for b := range 256 {
		for k := range 4 {
			wantReceive(t, "a byte", line.Turn([]complex128{pilot, sixteen[b/16], sixteen[b%16]}, k), string([]byte{byte(b)}), api.OK)
		}
	}
}

func TestReceiveOfNoPilot(t *testing.T) {
	wantReceive(t, "nil", nil, "", api.ErrLinePilot)
	wantReceive(t, "none", []complex128{}, "", api.ErrLinePilot)
	for _, p := range sixteen {
		for _, l := range [][]complex128{{p}, {p, 1}, {p, 1, 1}, {p, 1, 9}} {
			if p*p == 18i || p*p == -18i {
				continue
			}
			wantReceive(t, "a first point that is no pilot", l, "", api.ErrLinePilot)
		}
	}
	for _, far := range farParts() {
		wantReceive(t, "a first point that is not near", []complex128{complex(far, 3), 1, 1}, "", api.ErrLinePilot)
		wantReceive(t, "a first point that is not near", []complex128{complex(3, far), 1, 1}, "", api.ErrLinePilot)
	}
}

// The first point is taken as it came, not turned back: 2 is taken as 3, but -2 as -1.
func TestReceiveTakesThePilotAsItCame(t *testing.T) {
	below := math.Nextafter(-2, -inf)
	for k, first := range []complex128{2 + 2i, complex(below, 2), complex(below, below), complex(2, below)} {
		l := append([]complex128{first}, line.Turn([]complex128{-3 - 1i, 1 + 3i}, k)...)
		wantReceive(t, "a pilot that is just one", l, "\x1b", api.OK)
	}
	under := math.Nextafter(2, -inf)
	for _, first := range []complex128{complex(under, 3), complex(3, under), -2 + 3i, 3 - 2i, -2 - 3i, -3 - 2i, -2 - 2i, -2 + 2i, 2 - 2i} {
		wantReceive(t, "a pilot that is just none", []complex128{first, 1, 1}, "", api.ErrLinePilot)
	}
	for k, first := range []complex128{4 + 4i, -4 + 4i, -4 - 4i, 4 - 4i} {
		l := append([]complex128{first}, line.Turn([]complex128{-3 - 1i, 1 + 3i}, k)...)
		wantReceive(t, "a pilot as far as may be", l, "\x1b", api.OK)
	}
}

// Of the points behind it each is turned back first, and taken then: parts midway between two tell that.
func TestReceiveTurnsBackAndThenTakes(t *testing.T) {
	for _, x := range []struct {
		what string
		l    []complex128
		want string
	}{
		{"not turned", []complex128{pilot, 2 - 2i, 0}, "\xda"},
		{"turned by 1", []complex128{-3 + 3i, 2 - 2i, 0}, "\x5a"},                                // 2-2i turned back is -2-2i
		{"turned by 2", []complex128{-3 - 3i, 2 - 2i, 0}, "\x7a"},                                // it is -2+2i
		{"turned by 3", []complex128{3 - 3i, 2 - 2i, 0}, "\xfa"},                                 // it is 2+2i
		{"as far as may be", []complex128{-3 - 3i, 4 - 4i, -4 + 4i}, "\x3c"},                     // -4+4i, 4-4i
		{"nothing below nought", []complex128{-3 - 3i, 0, complex(zero, zero)}, "\xaa"},          // both are 1+1i
		{"a part of nothing, turned by 1", []complex128{-3 + 3i, complex(zero, 1), -1i}, "\xa6"}, // 1, -1
	} {
		wantReceive(t, x.what, x.l, x.want, api.OK)
	}
}

func TestReceiveOfAnEvenNumber(t *testing.T) {
	for _, l := range [][]complex128{{pilot, 1}, {pilot, 1, 1, 1}, {-3 - 3i, 1}, {-3 + 3i, 1}, {3 - 3i, 1}} {
		wantReceive(t, "an even number", l, "", api.ErrLineOdd)
	}
}

func TestReceiveOfFarPoints(t *testing.T) {
	wantReceive(t, "3+3i, 1, 5", []complex128{pilot, 1, 5}, "", api.ErrLinePoint)
	for _, far := range farParts() {
		for k := range 4 {
			for at := 1; at < 7; at++ {
				for _, p := range []complex128{complex(far, 1), complex(1, far), complex(far, far)} {
					l := line.Turn([]complex128{pilot, 1, 1, 1, 1, 1, 1}, k)
					l[at] = p
					wantReceive(t, "a point that is not near", l, "", api.ErrLinePoint)
				}
			}
		}
	}
}

// longRow is so many points, all of which are near, behind a pilot.
func longRow(n int) []complex128 {
	l := slices.Repeat([]complex128{1 + 1i}, n)
	l[0] = pilot
	return l
}

func TestReceiveOfManyPoints(t *testing.T) {
	wantReceive(t, "as many as bytes may have", longRow(api.MaxPoints-1), strings.Repeat("\xaa", 2047), api.OK)
	wantReceive(t, "MaxPoints", longRow(api.MaxPoints), "", api.ErrLineOdd)
	wantReceive(t, "MaxPoints and one", longRow(api.MaxPoints+1), "", api.ErrLineLong)
	wantReceive(t, "MaxPoints and two", longRow(api.MaxPoints+2), "", api.ErrLineLong)
}

func TestTheOrderOfTheErrors(t *testing.T) {
	long := longRow(api.MaxPoints + 2)
	long[0], long[5] = 1, 9
	wantReceive(t, "too long, no pilot, even, not near", long, "", api.ErrLineLong)
	full := longRow(api.MaxPoints)
	full[0], full[5] = 1, 9
	wantReceive(t, "MaxPoints, no pilot, even, not near", full, "", api.ErrLinePilot)
	full[0] = pilot
	wantReceive(t, "MaxPoints, even, not near", full, "", api.ErrLineOdd)
	wantReceive(t, "one less, not near", full[:api.MaxPoints-1], "", api.ErrLinePoint)
	wantReceive(t, "no pilot, even", []complex128{1, 1}, "", api.ErrLinePilot)
	wantReceive(t, "no pilot, not near", []complex128{1, 9, 1}, "", api.ErrLinePilot)
	wantReceive(t, "even, not near", []complex128{pilot, 9}, "", api.ErrLineOdd)
	wantReceive(t, "even, no number", []complex128{pilot, complex(nan, 0), 1, 1}, "", api.ErrLineOdd)
}

// slowNearest is chapter 3's rule of the nearest part once more: of two that are as near it is the greater.
func slowNearest(part float64) float64 {
	best := -3.0
	for _, q := range []float64{-1, 1, 3} {
		if math.Abs(part-q) <= math.Abs(part-best) {
			best = q
		}
	}
	return best
}

func slowTaken(p complex128) (int, bool) {
	if math.Abs(real(p)) > 4 || math.Abs(imag(p)) > 4 {
		return -1, false
	}
	return slices.Index(sixteen[:], complex(slowNearest(real(p)), slowNearest(imag(p)))), true
}

// slowReceive is P3.3 once more, word by word, of points whose parts are numbers.
func slowReceive(l []complex128) (string, api.Errno) {
	if len(l) == 0 {
		return "", api.ErrLinePilot
	}
	back := complex128(1)
	switch n, _ := slowTaken(l[0]); n {
	case 15:
	case 3:
		back = -1i
	case 0:
		back = -1
	case 12:
		back = 1i
	default:
		return "", api.ErrLinePilot
	}
	if len(l)%2 == 0 {
		return "", api.ErrLineOdd
	}
	s := ""
	for i := 1; i < len(l); i += 2 {
		upper, ok1 := slowTaken(l[i] * back)
		lower, ok2 := slowTaken(l[i+1] * back)
		if !ok1 || !ok2 {
			return "", api.ErrLinePoint
		}
		s += string([]byte{byte(16*upper + lower)})
	}
	return s, api.OK
}

func TestReceiveOfAnyPoints(t *testing.T) {
	rnd := rand.New(rand.NewSource(34))
	said := map[api.Errno]int{}
	for n := range 20000 {
		l := anyPoints(rnd, rnd.Intn(8), 4+n%10/9)
		if len(l) > 0 && rnd.Intn(3) > 0 {
			l[0] = line.Turn([]complex128{pilot}, rnd.Intn(4))[0]
		}
		want, e := slowReceive(l)
		said[e]++
		if s, ge := line.Receive(l); s != want || ge != e {
			t.Fatalf("%v: %x, %d, not %x, %d", l, s, ge, want, e)
		}
	}
	for _, e := range []api.Errno{api.OK, api.ErrLinePilot, api.ErrLineOdd, api.ErrLinePoint} {
		if said[e] < 100 {
			t.Errorf("%d was to be said %d times alone", e, said[e])
		}
	}
}

// P3.4

func TestWhatIsSentIsReceived(t *testing.T) {
	rnd := rand.New(rand.NewSource(35))
	for n := range 300 {
		s := anyBytes(rnd, n)
		for _, k := range []int{rnd.Intn(4), rnd.Intn(4000) - 2000} {
			l := line.Turn(rowOf(t, s), k)
			wantReceive(t, "turned", l, s, api.OK)
			wantReceive(t, "turned and with noise", line.Add(l, anyNoise(rnd, rnd.Intn(2*len(l)))), s, api.OK)
			wantReceive(t, "with noise and turned", line.Turn(line.Add(rowOf(t, s), anyNoise(rnd, len(l))), k), s, api.OK)
		}
	}
}

func TestWhatIsSentWithNoiseOfOneHalf(t *testing.T) {
	s := "\x00\x1b\x2f\x44\x59\x6e\x83\x97\xac\xb1\xc6\xda\xe5\xf0\xff"
	for k := range 4 {
		for _, noise := range []complex128{0.5 + 0.5i, 0.5 - 0.5i, -0.5 + 0.5i, -0.5 - 0.5i, 0.5, -0.5i} {
			l := line.Turn(rowOf(t, s), k)
			wantReceive(t, "noise of 1/2", line.Add(l, slices.Repeat([]complex128{noise}, len(l))), s, api.OK)
		}
	}
}

func TestTheLongestRowIsReceived(t *testing.T) {
	rnd := rand.New(rand.NewSource(36))
	s := anyBytes(rnd, 2047)
	for k := range 4 {
		l := line.Turn(rowOf(t, s), k)
		wantReceive(t, "the longest row", line.Add(l, anyNoise(rnd, len(l))), s, api.OK)
	}
}

func TestTurnsTogether(t *testing.T) {
	rnd := rand.New(rand.NewSource(37))
	for range 200 {
		l := anyPoints(rnd, rnd.Intn(9), 9)
		j, k := rnd.Intn(200)-100, rnd.Intn(200)-100
		wantRow(t, "by four quarters", line.Turn(l, 4), l)
		wantRow(t, "there and back", line.Turn(line.Turn(l, k), -k), l)
		wantRow(t, "by both", line.Turn(line.Turn(l, j), k), line.Turn(l, j+k))
	}
}

// R3, R4

func TestListsAreLeftAsTheyAre(t *testing.T) {
	whole := []complex128{pilot, 1, 2, 3, 4}
	noise := []complex128{9, 9, 9, 9, 9}
	for k := range 5 {
		line.Turn(whole[:3], k)
	}
	line.Add(whole[:3], noise)
	line.Add(whole[:3], noise[:2])
	line.Receive(whole[:3])
	wantRow(t, "the points", whole, []complex128{pilot, 1, 2, 3, 4})
	wantRow(t, "the noise", noise, []complex128{9, 9, 9, 9, 9})
}

func TestAnswersAreNewMemory(t *testing.T) {
	whole := []complex128{pilot, 1, 2, 3, 4}
	for _, told := range []func(l []complex128) []complex128{
		func(l []complex128) []complex128 { return line.Turn(l, 0) },
		func(l []complex128) []complex128 { return line.Turn(l, 4) },
		func(l []complex128) []complex128 { return line.Turn(l, 1) },
		func(l []complex128) []complex128 { return line.Add(l, nil) },
		func(l []complex128) []complex128 { return line.Add(nil, l) },
		func(l []complex128) []complex128 { return line.Add(l, l) },
	} {
		for _, n := range []int{0, 3} {
			answer := told(whole[:n])
			answer = answer[:cap(answer)]
			for i := range answer {
				answer[i] = 77
			}
			wantRow(t, "the points", whole, []complex128{pilot, 1, 2, 3, 4})
		}
	}
}

func TestRowsAreApart(t *testing.T) {
	a, b := rowOf(t, "\x1b"), rowOf(t, "\x1b")
	for i := range a[:cap(a)] {
		a[:cap(a)][i] = 77
	}
	wantRow(t, "the other row", b, []complex128{pilot, -3 - 1i, 1 + 3i})
	wantRow(t, "a later row", rowOf(t, "\x1b"), []complex128{pilot, -3 - 1i, 1 + 3i})
}

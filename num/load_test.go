package num_test

import (
	"bytes"
	"math/big"
	"slices"
	"testing"

	"sandreckoner/api"
	"sandreckoner/num"
)

// The bytes of the parts 0, 1, 2 and 3, that begin those of many numbers.
var (
	part0 = []byte{0, 0}
	part1 = []byte{0, 1, 0, 0, 0}
	part2 = []byte{0, 1, 0, 0, 1}
	part3 = []byte{0, 2, 0, 0, 2, 1, 0, 0}
)

// list returns the bytes of so many parts.
func list(parts ...[]byte) []byte {
	return append([]byte{byte(len(parts) >> 8), byte(len(parts))}, bytes.Join(parts, nil)...)
}

// samples returns numbers of all kinds.
func samples(t *testing.T) []num.N {
	p := power(t, num.Of(100))
	x := power(t, p)
	y := good(good(power(t, x).Sub(x))(t).Add(p))(t)
	return []num.N{
		num.Of(0), num.Of(1), num.Of(-1), num.Of(7), num.Of(-6), num.Of(23), num.Of(1 << 62), num.Of(-1 << 63), power(t, num.Of(63)),
		p, p.Neg(), x, x.Neg(), good(x.Sub(num.Of(1)))(t), y, y.Neg(), good(y.Mul(y))(t), good(y.Sub(num.Of(1000)))(t),
	}
}

// P1.11: bytes are read back as the number.
func TestLoad(t *testing.T) {
	for _, x := range samples(t) {
		b := x.Bytes()
		y := good(num.Load(b))(t)
		clear(b)
		same(t, "Load of Bytes", y, x)
		wellFormed(t, y)
	}
	for _, n := range edges() {
		expect(t, "Load", good(num.Load(bytesOf(n)))(t), n)
	}
	s := newSampler(111)
	for range 200 {
		n := s.sample()
		expect(t, "Load", good(num.Load(bytesOf(n)))(t), n)
	}
}

// P1.11: whatever is changed, it is refused, or it is the bytes of another number.
func TestLoadOfChangedBytes(t *testing.T) {
	for _, x := range samples(t) {
		b := x.Bytes()
		for i := range b {
			for _, c := range []byte{0, 1, 2, 3, b[i] + 1, b[i] - 1, b[i] ^ 1, b[i] ^ 128, 255} {
				changed := slices.Clone(b)
				changed[i] = c
				checkLoad(t, changed)
			}
			checkLoad(t, slices.Delete(slices.Clone(b), i, i+1))
			checkLoad(t, slices.Insert(slices.Clone(b), i, 0))
			if y, e := num.Load(b[:i]); e != api.ErrForm || y != (num.N{}) {
				t.Errorf("the first %d bytes of %v: %d", i, b, e)
			}
		}
		if y, e := num.Load(append(b, 0)); e != api.ErrForm || y != (num.N{}) {
			t.Errorf("a byte behind %v: %d", b, e)
		}
	}
}

// checkLoad checks that just those bytes are read that are those of a number.
func checkLoad(t *testing.T, b []byte) {
	t.Helper()
	x, e := num.Load(b)
	switch {
	case e == api.OK:
		if !bytes.Equal(x.Bytes(), b) {
			t.Errorf("%v is read, but has the bytes %v", b, x.Bytes())
		}
		wellFormed(t, x)
	case e != api.ErrForm || x != num.Of(0):
		t.Errorf("%v: error %d, and the bytes %v", b, e, x.Bytes())
	}
}

// P1.11: bytes that are nearly those of a number.
func TestLoadRefuses(t *testing.T) {
	same(t, "3", good(num.Load(list(part0, part1, part2, part3)))(t), num.Of(3))
	for what, b := range map[string][]byte{
		"nothing":                     nil,
		"half a count":                {0},
		"no parts":                    {0, 0},
		"no parts, and one":           {0, 0, 0, 0},
		"a part too few":              {0, 1},
		"a part without terms twice":  list(part0, part0),
		"a part twice":                list(part0, part1, part1, part2),
		"the number among its parts":  list(part0, part1, part2, part2),
		"a part in vain":              list(part0, part1, part2, part3, []byte{0, 2, 0, 0, 2, 0, 0, 0}),
		"parts in vain":               list(part0, part1, part2, part3, part1),
		"parts that do not rise":      list(part0, part1, part3, part2),
		"3 ahead of 2":                list(part0, part1, []byte{0, 1, 0, 0, 1}, []byte{0, 1, 0, 0, 2}, part3, []byte{0, 2, 0, 0, 4, 0, 0, 3}),
		"a term of its own":           list(part0, []byte{0, 1, 0, 0, 1}),
		"a term of a part behind":     list(part0, []byte{0, 1, 0, 0, 2}, part1),
		"a first part with a term":    list(part1),
		"a sign of 2":                 list(part0, []byte{0, 1, 2, 0, 0}),
		"a sign of 255":               list(part0, []byte{0, 1, 255, 0, 0}),
		"a negative part":             list(part0, []byte{0, 1, 1, 0, 0}, []byte{0, 1, 0, 0, 1}),
		"a negative part behind 0, 1": list(part0, part1, []byte{0, 1, 1, 0, 0}, []byte{0, 2, 0, 0, 2, 0, 0, 1}),
		"terms that rise":             list(part0, part1, part2, []byte{0, 2, 1, 0, 0, 0, 0, 2}),
		"2^0 + 2^0":                   list(part0, []byte{0, 2, 0, 0, 0, 0, 0, 0}),
		"2^0 - 2^0":                   list(part0, []byte{0, 2, 0, 0, 0, 1, 0, 0}),
		"2^1 + 2^0":                   list(part0, part1, []byte{0, 2, 0, 0, 1, 0, 0, 0}),
		"2^1 - 2^0":                   list(part0, part1, []byte{0, 2, 0, 0, 1, 1, 0, 0}),
		"2^2 - 2^1":                   list(part0, part1, part2, []byte{0, 2, 0, 0, 2, 1, 0, 1}),
		"2^3 - 2^2 + 2^0":             list(part0, part1, part2, part3, []byte{0, 3, 0, 0, 3, 1, 0, 2, 0, 0, 0}),
		"a part of neighbours":        list(part0, part1, []byte{0, 2, 0, 0, 1, 0, 0, 0}, []byte{0, 1, 0, 0, 2}),
		"a byte more":                 append(list(part0, part1), 0),
		"a byte less":                 {0, 2, 0, 0, 0, 1, 0, 0},
		"65535 parts":                 {255, 255, 0, 0},
		"65535 terms":                 {0, 1, 255, 255},
	} {
		refuses(num.Load(b))(t, what, api.ErrForm)
	}
}

// P1.11: terms of great exponents, which may be neighbours.
func TestLoadOfGreatNeighbours(t *testing.T) {
	for _, digits := range []string{"0x7fffffffffffffff", "0x8000000000000000", "0x15555555555555555555555", "0x2aaaaaaaaaaaaaaaaaaaaa", "0x3fffffffffffffffffffffff"} {
		e := fromBig(t, parse(digits))
		for gap := int64(1); gap <= 4; gap++ {
			f := good(e.Add(num.Of(gap)))(t)
			x := good(good(power(t, power(t, f)).Add(power(t, power(t, e))))(t).Add(power(t, e)))(t)
			b := x.Bytes()
			// The number stands last, with three terms. e is the last exponent, and f the next part: so 2^f is put ahead of 2^e.
			end := len(b) - 3
			place := int(b[end+1])<<8 | int(b[end+2]) + 1
			b[end-7] = 4
			b = slices.Insert(b, end, 0, byte(place>>8), byte(place))
			if gap == 1 {
				refuses(num.Load(b))(t, "neighbours", api.ErrForm)
				continue
			}
			same(t, "a term more", good(num.Load(b))(t), good(x.Add(power(t, f)))(t))
		}
	}
}

// P1.11, P6: bytes of numbers that are not allowed, though they are well formed.
func TestLoadRefusesWhatIsNotAllowed(t *testing.T) {
	most := new(big.Int)
	for i := range api.MaxTerms {
		most.SetBit(most, 2*i, 1)
	}
	expect(t, "300 terms", good(num.Load(bytesOf(most)))(t), most)
	same(t, "a part of 300 terms", good(num.Load(powerBytes(bytesOf(most))))(t), power(t, fromBig(t, most)))
	most.SetBit(most, 2*api.MaxTerms, 1)
	refuses(num.Load(bytesOf(most)))(t, "301 terms", api.ErrForm)
	refuses(num.Load(powerBytes(bytesOf(most))))(t, "a part of 301 terms", api.ErrForm)
	refuses(num.Load(bytesOf(new(big.Int).Neg(most))))(t, "301 terms", api.ErrForm)

	x := towerOf(t, api.MaxHeight-1, num.Of(1))
	same(t, "the height 100", good(num.Load(x.Bytes()))(t), x)
	refuses(num.Load(powerBytes(x.Bytes())))(t, "the height 101", api.ErrForm)

	y := heavy(t, api.MaxWeight)
	same(t, "the weight 2000", good(num.Load(y.Bytes()))(t), y)
	refuses(num.Load(powerBytes(y.Bytes())))(t, "the weight 2001", api.ErrForm)
}

package thermo_test

import (
	"math/big"
	"strconv"
	"strings"
	"sync"
	"testing"

	"parlour/api"
	"parlour/conway"
	"parlour/thermo"
)

func measures(t *testing.T, text, mean, temperature string) {
	t.Helper()
	m, f := thermo.Mean(text)
	u, g := thermo.Temperature(text)
	if m != mean || u != temperature || f != (api.Fault{}) || g != (api.Fault{}) {
		t.Errorf("%q: %q %q %v %v, not %q %q", text, m, u, f, g, mean, temperature)
	}
}

func walls(t *testing.T, text, at, left, right string) {
	t.Helper()
	if l, r, f := thermo.Walls(text, at); l != left || r != right || f != (api.Fault{}) {
		t.Errorf("%q at %q: %q %q %v, not %q %q", text, at, l, r, f, left, right)
	}
}

// fails: whatever t is.
func fails(t *testing.T, text string, want api.Fault) {
	t.Helper()
	if m, f := thermo.Mean(text); m != "" || f != want {
		t.Errorf("%q: %q %v, not %v", text, m, f, want)
	}
	if u, f := thermo.Temperature(text); u != "" || f != want {
		t.Errorf("%q: %q %v, not %v", text, u, f, want)
	}
	for _, at := range []string{"0", "1/2", "100", "101", "2/4", "-1", "", "x"} {
		if l, r, f := thermo.Walls(text, at); l != "" || r != "" || f != want {
			t.Errorf("%q at %q: %q %q %v, not %v", text, at, l, r, f, want)
		}
	}
}

// nested is 1/2^n.
func nested(n int) string { return strings.Repeat("{0|", n) + "1" + strings.Repeat("}", n) }

func TestNumbersAreCold(t *testing.T) {
	for text, want := range map[string]string{
		"0": "0", "-0": "0", "{|}": "0", "1": "1", "59": "59", "-59": "-59", "1/2": "1/2", "-1/2": "-1/2", "101/2": "101/2", "-999/64": "-999/64", "1/2+1/2": "1", "3/4-1/4": "1/2", "1-1": "0",
		// Numbers by what they are worth, not by how they are written.
		"{0|1}": "1/2", "{*|*}": "0", "*+*": "0", "^+v": "0", "{1|-1}+{1|-1}": "0", "{2|0}+{1|-1}": "1", "{-5|{7|-7}}": "0", "{{2|0}|{0|-2}}": "0", "{{9|-9}|}": "0", "{{9|1}|}": "1", "{0|1/64}": "1/128",
	} {
		measures(t, text, want, "cold")
		for _, at := range []string{"0", "1/2", "1/3", "4095/4096", "7", "100"} {
			walls(t, text, at, want, want)
		}
	}
	for n := range 59 {
		want := "1/" + strconv.Itoa(1<<n)
		if n == 0 {
			want = "1"
		}
		measures(t, nested(n), want, "cold")
		measures(t, "-"+nested(n), "-"+want, "cold")
		walls(t, nested(n), "1/3", want, want)
	}
}

func TestMeasures(t *testing.T) {
	for _, x := range [][3]string{
		{"{1|-1}", "0", "1"}, {"{2|0}", "1", "1"}, {"-{2|0}", "-1", "1"}, {"{1|0}", "1/2", "1/2"}, {"{2|-1/2}", "3/4", "5/4"}, {"{1/64|-1/64}", "0", "1/64"}, {"{1/64|0}", "1/128", "1/128"}, {"{-1|-4}", "-5/2", "3/2"}, {"{29|-29}", "0", "29"}, {"{58|0}", "29", "29"}, {"3+{1|-1}", "3", "1"}, {"1/4-{2|1}", "-5/4", "1/2"},
		// Near a number by less than any other one: no heat, but not cold.
		{"*", "0", "0"}, {"*8", "0", "0"}, {"*8+*7", "0", "0"}, {"^", "0", "0"}, {"v", "0", "0"}, {"^+^+*", "0", "0"}, {"{2|2}", "2", "0"}, {"-2-*", "-2", "0"}, {"1/2+^", "1/2", "0"}, {"-7/8+*3+v", "-7/8", "0"}, {"{0|{0|-2}}", "0", "0"}, {"{{2|0}|0}", "0", "0"}, {"{{3|1}|1}", "1", "0"}, {"{0|{0|-9}}+3/4", "3/4", "0"},
		// What is far less does not change it.
		{"{1|-1}+*", "0", "1"}, {"{5|1}+^", "3", "2"}, {"{3|*}", "3/2", "3/2"}, {"{^|v-1}", "-1/2", "1/2"}, {"{1|-1}+{0|{0|-2}}", "0", "1"},
		// Threats that have to be answered, or not.
		{"{{3|1}|0}", "1", "1"}, {"{4|{2|0}}", "5/2", "3/2"}, {"{{4|2}|{-1|-3}}", "1/2", "5/2"}, {"{{9|0}|-1}", "0", "1"}, {"{{9|0}|-4}", "0", "4"}, {"{{9|0}|-5}", "-1/4", "19/4"}, {"{1|{0|-9}}", "0", "1"}, {"{6|{0|-9}}", "3/4", "21/4"}, {"{{{12|0}|-1}|-2}", "-1", "1"}, {"{5|{4|{3|0}}}", "4", "1"},
		// More than one move: which is best hangs on t.
		{"{3,{10|0}|-4}", "0", "4"}, {"{3,{10|0}|-3}", "0", "3"}, {"{3,{10|0}|-2}", "1/2", "5/2"}, {"{3,{10|0}|-6}", "-1/2", "11/2"}, {"{4|-3,{0|-10}}", "0", "4"}, {"{3,{8|-8},{10|-9}|-20}", "-17/2", "23/2"}, {"{0,{4|-1}|-6}", "-9/4", "15/4"}, {"{0,{4|-1},{9|-2}|-6}", "-2", "4"},
		// Sums.
		{"{2|0}+{4|0}", "3", "2"}, {"{4|0}+{1|-1}", "2", "2"}, {"{1|-1}+{2|-2}+{3|-3}", "0", "3"}, {"{2|0}+{2|0}+{2|0}", "3", "1"}, {"{4|{2|0}}+{1|0}", "3", "3/2"}, {"{1|0}-{4|1}", "-2", "3/2"},
	} {
		measures(t, x[0], x[1], x[2])
	}
}

func TestWalls(t *testing.T) {
	for text, all := range map[string][][3]string{
		"{2|0}":            {{"0", "2", "0"}, {"1/2", "3/2", "1/2"}, {"1/3", "5/3", "1/3"}, {"999/1000", "1001/1000", "999/1000"}, {"4095/4096", "4097/4096", "4095/4096"}, {"1", "1", "1"}, {"4096/4095", "1", "1"}, {"100", "1", "1"}},
		"{0|-2}":           {{"0", "0", "-2"}, {"1/3", "-1/3", "-5/3"}, {"1/4096", "-1/4096", "-8191/4096"}, {"1", "-1", "-1"}, {"7/3", "-1", "-1"}},
		"{1|-1}":           {{"0", "1", "-1"}, {"1/3", "2/3", "-2/3"}, {"2/3", "1/3", "-1/3"}, {"1", "0", "0"}, {"3/2", "0", "0"}},
		"{1/2|-1/4}":       {{"0", "1/2", "-1/4"}, {"1/3", "1/6", "1/12"}, {"1/4", "1/4", "0"}, {"3/8", "1/8", "1/8"}, {"1/6", "1/3", "-1/12"}},
		"*":                {{"0", "0", "0"}, {"1/3", "0", "0"}, {"100", "0", "0"}},
		"^-3/4":            {{"0", "-3/4", "-3/4"}, {"5/7", "-3/4", "-3/4"}},
		"{0|{0|-2}}":       {{"0", "0", "0"}, {"1/2", "0", "0"}, {"2", "0", "0"}},
		"{{3|1}|0}":        {{"0", "1", "0"}, {"1/3", "1", "1/3"}, {"4095/4096", "1", "4095/4096"}, {"1", "1", "1"}, {"2", "1", "1"}},
		"{4|{2|0}}":        {{"0", "4", "2"}, {"2/3", "10/3", "2"}, {"1", "3", "2"}, {"4/3", "8/3", "7/3"}, {"3/2", "5/2", "5/2"}, {"5/3", "5/2", "5/2"}},
		"{3,{10|0}|-4}":    {{"0", "3", "-4"}, {"5/3", "4/3", "-7/3"}, {"3", "0", "-1"}, {"10/3", "0", "-2/3"}, {"4", "0", "0"}, {"9/2", "0", "0"}},
		"{3,{10|0}|-6}":    {{"2", "1", "-4"}, {"4", "0", "-2"}, {"5", "0", "-1"}, {"21/4", "-1/4", "-3/4"}, {"11/2", "-1/2", "-1/2"}},
		"{4|-3,{0|-10}}":   {{"0", "4", "-3"}, {"7/3", "5/3", "-2/3"}, {"3", "1", "0"}, {"11/3", "1/3", "0"}, {"4", "0", "0"}},
		"{29|-29}":         {{"0", "29", "-29"}, {"1/4096", "118783/4096", "-118783/4096"}, {"118783/4096", "1/4096", "-1/4096"}, {"29", "0", "0"}, {"100", "0", "0"}},
		"{{4|2}|{-1|-3}}":  {{"0", "2", "-1"}, {"1", "2", "-1"}, {"9/7", "12/7", "-5/7"}, {"5/2", "1/2", "1/2"}},
		"{0,{4|-1}|-6}":    {{"1/2", "-1/2", "-11/2"}, {"1", "-1", "-5"}, {"5/3", "-1", "-13/3"}, {"5/2", "-1", "-7/2"}, {"3", "-3/2", "-3"}, {"15/4", "-9/4", "-9/4"}},
		"{-1|-4}+^+*2-1/2": {{"0", "-3/2", "-9/2"}, {"3/5", "-21/10", "-39/10"}, {"3/2", "-3", "-3"}},
	} {
		for _, x := range all {
			walls(t, text, x[0], x[1], x[2])
		}
	}
}

func TestTimes(t *testing.T) {
	for _, at := range []string{"0", "1", "9", "10", "99", "100", "1/2", "3/2", "199/2", "1/3", "10/3", "299/3", "1/4095", "1/4096", "4095/4096", "4097/4096", "409599/4096", "409499/4095", "100/3", "97/101"} {
		if l, r, f := thermo.Walls("1", at); l != "1" || r != "1" || f != (api.Fault{}) {
			t.Error(at, l, r, f)
		}
	}
	want := api.Fault{Code: api.ErrArg, At: -1}
	for _, at := range []string{
		// None.
		"", " ", "x", "cold", "a/b", "0x1", "1e1", "1.5", ".5", "½", "\xff", "1/", "/", "/2", "1//2", "1/2/3", "1/2/", "1 /2", "1/ 2", " 1", "1 ", "1\n", "\x001", "+1", "1/+2", "1/-2", "-1/-2", "--1", "-", "-/2", "1-", "1+1", "٣",
		// Not in lowest terms.
		"2/4", "6/3", "3/3", "0/2", "0/3", "4096/4096", "10/100", "0/1", "1/1", "7/1", "100/1", "0/0", "1/0", "100/0", "4096/2",
		// Noughts ahead of others.
		"00", "01", "001", "1/02", "01/2", "1/00", "00/1", "000000",
		// Below 0.
		"-1", "-1/2", "-0", "-100", "-1/4096", "-1/4097",
		// Above 100.
		"101", "200", "1000", "201/2", "301/3", "409601/4096", "409501/4095", "1000000", "999999/2", "4294967296", "4294967297/2", "18446744073709551616", "18446744073709551617/2", "18446744073709551617", "99999999999999999999999999/7",
		// d above 4096.
		"1/4097", "1/8192", "1/5000", "4096/4097", "1/1000000", "1/4294967298", "1/18446744073709551618", "1/18446744073709551616", "409601/4097", "1000001/1000000",
		strings.Repeat("1", 1<<16), "1/" + strings.Repeat("3", 1<<16), strings.Repeat("0", 1<<16), strings.Repeat("/", 1<<16), strings.Repeat("-", 1<<16) + "1",
	} {
		for _, text := range []string{"1", "*", "{2|0}"} {
			if l, r, f := thermo.Walls(text, at); l != "" || r != "" || f != want {
				t.Errorf("%q at %.100q: %q %q %v", text, at, l, r, f)
			}
		}
	}
}

func TestFaults(t *testing.T) {
	for text, want := range map[string]api.Fault{
		"": {Code: api.ErrSyntax}, "{2|0": {Code: api.ErrSyntax, At: 4}, "{2|0}}": {Code: api.ErrSyntax, At: 5}, "01": {Code: api.ErrSyntax, At: 1}, "2/4": {Code: api.ErrSyntax, At: 1}, "1/3": {Code: api.ErrSyntax, At: 3}, "*9": {Code: api.ErrSyntax, At: 1}, "cold": {Code: api.ErrSyntax}, "60+": {Code: api.ErrSyntax, At: 3}, " 1": {Code: api.ErrSyntax},
		"60": {Code: api.ErrLarge, At: -1}, "60-60": {Code: api.ErrLarge, At: -1}, "{59|-1}": {Code: api.ErrLarge, At: -1}, "{30|-30}": {Code: api.ErrLarge, At: -1}, "{0,0,0,0,0,0,0,0,0,0,0|}": {Code: api.ErrLarge, At: -1}, "{1|-1}+{2|-2}+{3|-3}+{4|-4}+{5|-5}+{6|-6}": {Code: api.ErrLarge, At: -1},
		strings.Repeat("(", 300): {Code: api.ErrSyntax, At: 300}, strings.Repeat("(", 301): {Code: api.ErrLarge}, strings.Repeat("0+", 150) + "0": {Code: api.ErrLarge}, strings.Repeat("\xff", 1<<16): {Code: api.ErrLarge},
	} {
		fails(t, text, want)
		if _, f := conway.Canon(text); f != want {
			t.Errorf("%q: %v, not %v", text, f, want)
		}
	}
}

func ratio(n, d int64) *big.Rat { return big.NewRat(n, d) }

// told is the text of a fraction as P23 writes it.
func told(x *big.Rat) string { return x.RatString() }

func sum(a, b *big.Rat) *big.Rat { return new(big.Rat).Add(a, b) }

func less(a, b *big.Rat) *big.Rat { return new(big.Rat).Sub(a, b) }

func times(a, b *big.Rat) *big.Rat { return new(big.Rat).Mul(a, b) }

func turned(a *big.Rat) *big.Rat { return new(big.Rat).Neg(a) }

// Walls between very small fractions of two kinds need more than 64 bits.
func TestManyHalves(t *testing.T) {
	for k := range 57 {
		text := "{" + nested(k) + "|-1}"
		a, b := ratio(1, 1<<k), ratio(-1, 1)
		temperature := times(ratio(1, 2), less(a, b))
		mean := sum(b, temperature)
		measures(t, text, told(mean), told(temperature))
		measures(t, "-"+text, told(turned(mean)), told(temperature))
		walls(t, text, "100", told(mean), told(mean))
		for _, at := range []*big.Rat{ratio(0, 1), ratio(1, 4095), ratio(1, 4096), ratio(1, 3), ratio(1638, 4093), ratio(2047, 4095), ratio(2047, 4096)} {
			l, r := less(a, at), sum(b, at)
			walls(t, text, told(at), told(l), told(r))
			walls(t, "-"+text, told(at), told(turned(r)), told(turned(l)))
		}
	}
	fails(t, "{"+nested(58)+"|-1}", api.Fault{Code: api.ErrLarge, At: -1})
}

// Each game is a little hotter than the one within it, and needs one more half.
func TestManyTemperatures(t *testing.T) {
	text, mean := "{1|0}", ratio(1, 2)
	for n := int64(2); n < 30; n++ {
		text = "{" + strconv.FormatInt(n, 10) + "|" + text + "}"
		temperature := times(ratio(1, 2), less(ratio(n, 1), mean))
		mean = less(ratio(n, 1), temperature)
		measures(t, text, told(mean), told(temperature))
		measures(t, "-"+text, told(turned(mean)), told(temperature))
		walls(t, text, "1/4095", told(ratio(4095*n-1, 4095)), told(ratio(n-1, 1)))
		walls(t, text, "1", told(mean), told(mean))
	}
}

// What has few positions may have a long text, or one that is too long to tell.
func TestLongTexts(t *testing.T) {
	measures(t, "44+*8+*7", "44", "0")
	walls(t, "-44-*8+*7", "1/3", "-44", "-44")
	heap := "-63/64+{0|{0|-1}}+*8+*7"
	tower := "{1|" + heap + "}"
	measures(t, tower, "1/128", "127/128")
	for range 9 {
		tower = "{" + tower + "|" + heap + "}"
		measures(t, tower, "-63/64", "0")
	}
	measures(t, "{1|"+tower+"}", "1/128", "127/128")
	walls(t, "{1|"+tower+"}", "1/3", "2/3", "-125/192")
}

func TestCallsAtTheSameTime(t *testing.T) {
	texts := []string{"{2|0}+{1|-1}", "{4|{2|0}}", "60", "{0|", "{3,{10|0}|-4}", "*8+*7", "{{4|2}|{-1|-3}}"}
	answers := func(s string) [4]string {
		m, _ := thermo.Mean(s)
		u, _ := thermo.Temperature(s)
		l, r, _ := thermo.Walls(s, "2/3")
		return [4]string{m, u, l, r}
	}
	var want [][4]string
	for _, s := range texts {
		want = append(want, answers(s))
	}
	var group sync.WaitGroup
	for range 8 {
		group.Add(1)
		go func() {
			defer group.Done()
			for i := range 100 {
				if k := i % len(texts); answers(texts[k]) != want[k] {
					t.Error(texts[k], answers(texts[k]))
				}
			}
		}()
	}
	group.Wait()
}

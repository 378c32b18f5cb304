package conway_test

import (
	"strconv"
	"strings"
	"sync"
	"testing"

	"parlour/api"
	"parlour/conway"
)

func canon(t *testing.T, text, want string) {
	t.Helper()
	if s, f := conway.Canon(text); s != want || f != (api.Fault{}) {
		t.Errorf("%q: %q %v, not %q", text, s, f, want)
	}
}

func compare(t *testing.T, a, b string, want int) {
	t.Helper()
	if n, f := conway.Compare(a, b); n != want || f != (api.Fault{}) {
		t.Errorf("%q %q: %d %v, not %d", a, b, n, f, want)
	}
}

// fails: of Canon, and of Compare wherever the text stands.
func fails(t *testing.T, text string, want api.Fault) {
	t.Helper()
	if s, f := conway.Canon(text); s != "" || f != want {
		t.Errorf("%q: %q %v, not %v", text, s, f, want)
	}
	long := strings.Repeat("0+", 200)
	for _, p := range [][2]string{{text, "0"}, {"{1|-1}+^", text}, {text, text}, {text, "(+"}, {text, "60"}, {text, long}} {
		if n, f := conway.Compare(p[0], p[1]); n != 0 || f != want {
			t.Errorf("%q: %d %v, not %v", p, n, f, want)
		}
	}
}

func large(t *testing.T, text string) {
	t.Helper()
	fails(t, text, api.Fault{Code: api.ErrLarge, At: -1})
}

func noGame(t *testing.T, text string, at int) {
	t.Helper()
	fails(t, text, api.Fault{Code: api.ErrSyntax, At: at})
}

// nested is 1/2^n.
func nested(n int) string { return strings.Repeat("{0|", n) + "1" + strings.Repeat("}", n) }

func TestNumbers(t *testing.T) {
	for text, want := range map[string]string{
		"0": "0", "-0": "0", "--0": "0", "{|}": "0", "{-1|1}": "0", "{*|*}": "0", "{v|^}": "0", "{-5|{7|-7}}": "0",
		"1": "1", "7": "7", "10": "10", "59": "59", "-1": "-1", "--1": "1", "---1": "-1", "-59": "-59",
		"1/2": "1/2", "-1/2": "-1/2", "3/4": "3/4", "5/8": "5/8", "7/16": "7/16", "9/32": "9/32", "63/64": "63/64", "101/2": "101/2", "999/64": "999/64", "-999/64": "-999/64",
		"{0|}": "1", "{1|}": "2", "{58|}": "59", "{|0}": "-1", "{|-58}": "-59", "{|3}": "0", "{-3|}": "0", "{0,3,1|}": "4", "{*|}": "0", "{^|}": "1", "{{9|-9}|}": "0", "{{9|1}|}": "1",
		"{0|1}": "1/2", "{0|1/2}": "1/4", "{1/2|1}": "3/4", "{0|1/64}": "1/128", "{-1/64|0}": "-1/128", "{1/4|1/2}": "3/8", "{1/4|2}": "1", "{2|5}": "3", "{-5|-2}": "-3", "{-7|9}": "0", "{0,1|2,3}": "3/2", "{5/8|7/8}": "3/4", "{-2|-1}": "-3/2",
		"1+1": "2", "1-1": "0", "1--1": "2", "1+-1": "0", "1/2+1/2": "1", "1/2+1/4": "3/4", "3/4-1/4": "1/2", "1/64-1/2": "-31/64", "2-3-4": "-5", "2-(3-4)": "3", "-(1/2+1/4)-1/4": "-1", "59-59": "0", "1/64+1/64": "1/32",
		"{0|*}+{*|0}": "0", "{1|0}+{1|0}": "1", "{1|-1}+{1|-1}": "0", "*+*": "0", "*8-*8": "0",
	} {
		canon(t, text, want)
	}
	for n := range 60 {
		canon(t, strconv.Itoa(n), strconv.Itoa(n))
	}
}

func TestNumbersOfManyHalves(t *testing.T) {
	canon(t, nested(0), "1")
	for n := 1; n < 59; n++ {
		d := strconv.Itoa(1 << n)
		canon(t, nested(n), "1/"+d)
		canon(t, "-"+nested(n), "-1/"+d)
		canon(t, "1-"+nested(n), strconv.Itoa(1<<n-1)+"/"+d)
		if n > 1 {
			canon(t, nested(n)+"-1/2", "-"+strconv.Itoa(1<<(n-1)-1)+"/"+d)
		}
		if n < 58 {
			canon(t, "1+"+nested(n), strconv.Itoa(1<<n+1)+"/"+d)
		}
		compare(t, nested(n), "0", api.Greater)
		compare(t, nested(n-1), nested(n), api.Greater)
	}
	large(t, "1+"+nested(58))
	large(t, nested(59))
	canon(t, nested(20)+"+"+nested(40), strconv.Itoa(1<<20+1)+"/"+strconv.Itoa(1<<40))
	canon(t, "18+"+nested(40), strconv.Itoa(18<<40+1)+"/"+strconv.Itoa(1<<40))
	large(t, "19+"+nested(40))
}

func TestStarsAndArrows(t *testing.T) {
	for text, want := range map[string]string{
		"*": "*", "*1": "*", "*0": "0", "-*": "*", "{0|0}": "*", "{0,0|0}": "*", "{*0|*0}": "*", "{^|v}": "*", "{0,1|-1,0}": "{1|-1}",
		"*2": "*2", "*8": "*8", "-*8": "*8", "{0,*|0,*}": "*2", "{*,0|0,*}": "*2", "{0,*,*2|*2,*,0}": "*3", "{0,*,*3|0,*,*4}": "*2",
		"*+*2": "*3", "*5+*3": "*6", "*8+*7": "*15", "*8+*2": "*10", "*8+*7-*8": "*7", "{0,*,*2,*3,*4,*5,*6,*7,*8|0,*,*2,*3,*4,*5,*6,*7,*8}": "*9",
		"^": "^", "v": "v", "-^": "v", "-v": "^", "--v": "v", "{0|*}": "^", "{*|0}": "v", "^+v": "0", "^-^": "0", "^--^": "{0|{*,0|0}}",
		"^+*": "{*,0|0}", "v+*": "{0|*,0}", "{0,*|0}": "{*,0|0}", "^+^": "{0|{*,0|0}}", "^+^+*": "{0|^}", "v+v+*": "{v|0}", "{^|^}": "{0|^}", "^+*2": "{0|*3}", "^+*3": "{0|*2}", "^+*2-*2": "^",
		"^+^+^": "{0|{0|^}}", "v-^": "{{0|*,0}|0}",
	} {
		canon(t, text, want)
	}
	for a := range 9 {
		for b := range 9 {
			want := []string{"0", "*"}
			for n := 2; n < 16; n++ {
				want = append(want, "*"+strconv.Itoa(n))
			}
			canon(t, "*"+strconv.Itoa(a)+"+*"+strconv.Itoa(b), want[a^b])
		}
	}
}

func TestOtherGames(t *testing.T) {
	for text, want := range map[string]string{
		"{1|-1}": "{1|-1}", "-{1|-1}": "{1|-1}", "{2|0}": "{2|0}", "-{2|0}": "{0|-2}", "{2|2}": "{2|2}", "2+*": "{2|2}", "-2-*": "{-2|-2}", "1/2+*": "{1/2|1/2}",
		"1+{1|-1}": "{2|0}", "{2|0}-1": "{1|-1}", "{2|0}+{1|-1}": "1", "{4|0}+{1|-1}": "{{5|3}|{1|-1}}", "{1|-1}+*": "{{1|1}|{-1|-1}}", "{5|1}+^": "{{5|{5|5}}|{1|{1|1}}}",
		"{0|{0|-2}}": "{0|{0|-2}}", "-{0|{0|-2}}": "{{2|0}|0}", "{{4|2}|{-1|-3}}": "{{4|2}|{-1|-3}}",
		// What is dominated.
		"{1,2|-1}": "{2|-1}", "{2|-1,0}": "{2|-1}", "{2,1,0,2|-1,-3,-1}": "{2|-3}", "{{5|3},2|0}": "{{5|3}|0}", "{{5|1},2|0}": "{2,{5|1}|0}", "{^,0|-1}": "{^|-1}", "{*,0|-1}": "{*,0|-1}",
		// What is reversible.
		"{{3|0}|5}": "0", "{{3|-1},0|{1|-3}}": "1", "{^+*,*|^}": "0", "{^,*|^+*}": "{0|{*,0|0}}", "{3,{8|-8},{10|-9}|-5}": "{3|-5}", "{5|-3,{9|-9}}": "{5|-3}",
		// In order: by length, then by bytes.
		"{3,{8|-8},{10|-9}|-20}": "{3,{8|-8},{10|-9}|-20}", "{{10|-9},{8|-8},3|-20}": "{3,{8|-8},{10|-9}|-20}", "{{9|-9},{8|-8}|-9}": "{{8|-8},{9|-9}|-9}", "{{9|-9},{12|-12},{8|-8}|-20}": "{{8|-8},{9|-9},{12|-12}|-20}",
		"{0,*,*2|-1}": "{*,0,*2|-1}", "{v+v,^+*|-1}": "{{*,0|0}|-1}", "{1|0,*,*2,*4}": "{1|*,0,*2,*4}", "10+*2": "{10,{10|10}|10,{10|10}}",
		"({1|-1})": "{1|-1}", "((-({{1|-1}|})))": "0", "{(1)|-(1)}": "{1|-1}", "{1+1,0|-1-1}": "{2|-2}",
	} {
		canon(t, text, want)
	}
}

func TestOrder(t *testing.T) {
	for _, x := range []struct {
		a, b string
		want int
	}{
		{"0", "0", api.Same}, {"0", "{|}", api.Same}, {"1", "{0|}", api.Same}, {"*", "{0|0}", api.Same}, {"*1", "*", api.Same}, {"*0", "0", api.Same}, {"^+*", "{0,*|0}", api.Same}, {"{1|-1}+{1|-1}", "0", api.Same}, {"{5,{9|-1}|}", "6", api.Same},
		{"1", "0", api.Greater}, {"1/2", "1/4", api.Greater}, {"49", "-49", api.Greater}, {"^", "0", api.Greater}, {"^+^", "*", api.Greater}, {"^+^", "^", api.Greater}, {"^+*2", "0", api.Greater}, {"1/64", "^+^+^", api.Greater}, {"{2|1}", "0", api.Greater}, {"{2|1/2}", "^", api.Greater}, {"{0|{0|-2}}", "0", api.Greater}, {"^", "{0|{0|-2}}", api.Greater}, {"1", "{1/2|-1}", api.Greater}, {"*", "-1/64", api.Greater},
		{"*", "0", api.Confused}, {"^", "*", api.Confused}, {"^+*", "0", api.Confused}, {"*", "*2", api.Confused}, {"*7", "*8", api.Confused}, {"{1|-1}", "0", api.Confused}, {"{1|-1}", "1", api.Confused}, {"{1|-1}", "-1", api.Confused}, {"{2|-2}", "{1|-1}", api.Confused}, {"{1|0}", "^", api.Confused}, {"{1|-1}", "*", api.Confused},
	} {
		mirror := map[int]int{api.Same: api.Same, api.Greater: api.Less, api.Confused: api.Confused}
		compare(t, x.a, x.b, x.want)
		compare(t, x.b, x.a, mirror[x.want])
		compare(t, "-("+x.a+")", "-("+x.b+")", mirror[x.want])
		compare(t, x.a+"+{3|1}", "{3|1}+"+x.b, x.want)
	}
	// The difference of two that are not too large may be so.
	compare(t, "59", "-59", api.Greater)
	compare(t, "-59", "58", api.Less)
	large(t, "59--59")
}

func TestTextsThatCanNotGoOn(t *testing.T) {
	for text, at := range map[string]int{
		"": 0, " ": 0, "+": 0, "+1": 0, ")": 0, "|": 0, "}": 0, ",": 0, "/": 0, "x": 0, "V": 0, "\x00": 0, "\xff": 0, "↑": 0, ".5": 0,
		"-": 1, "--": 2, "1+": 2, "1-": 2, "1+-": 3, "1++1": 2, "-+1": 1, "1-+1": 2, "1 ": 1, "1 +1": 1, "1+ 1": 2, "1\n": 1, "1)": 1, "1|": 1, "1}": 1, "1,2": 1,
		"01": 1, "00": 1, "-01": 2, "1000": 3, "9999": 3, "1a": 1, "0x1": 1, "1.5": 1,
		"0/2": 1, "2/4": 1, "10/2": 2, "998/64": 3, "1/": 2, "1/0": 2, "1/1": 3, "1/3": 3, "1/5": 2, "1/6": 3, "1/7": 2, "1/9": 2, "1/10": 3, "1/12": 3, "1/160": 4, "1/20": 3, "1/24": 3, "1/34": 3, "1/320": 4, "1/40": 3, "1/60": 3, "1/62": 3, "1/640": 4, "1/80": 3, "1/82": 3, "1/-2": 2, "1/+": 2, "1/2/2": 3, "1//2": 2, "1/02": 2, "1001/2": 3,
		"*9": 1, "*-": 2, "*01": 2, "*10": 2, "*80": 2, "**": 1, "*^": 1, "*1/2": 2, "^*": 1, "^^": 1, "^1": 1, "vv": 1, "v*": 1, "1*": 1, "1^": 1, "1{": 1, "1(": 1, "^2": 1, "*{": 1,
		"{": 1, "{|": 2, "{}": 1, "{0": 2, "{0}": 2, "{0|": 3, "{0|0": 4, "{|0": 3, "{,": 1, "{,0|}": 1, "{0,": 3, "{0,|}": 3, "{0,0": 4, "{0|,}": 3, "{0|0,}": 5, "{0|0|0}": 4, "{0||0}": 3, "{||}": 2, "{|}}": 3, "{|}{": 3, "{|}|": 3, "{|}0": 3, "{0)": 2, "{0|0)": 4, "{0|0]": 4, "{-|}": 2, "{0+|}": 3, "{0-": 3, "{ |}": 1, "{| }": 2,
		"(": 1, "()": 1, "(0": 2, "(0,": 2, "(0,0)": 2, "(0|": 2, "(0}": 2, "(0))": 3, "(0)(": 3, "(0)0": 3, "((0)": 4, "(-": 2, "(-)": 2, "(0+)": 3, "({|)": 3, "({|}": 4,
		"{{{{0|1},(-2|": 12, "{*2,^,v-*|(1/64": 15, "{*2,^,v-*|(1/64,": 15,
	} {
		noGame(t, text, at)
	}
	noGame(t, strings.Repeat("(", 300), 300)
	noGame(t, strings.Repeat("-", 300), 300)
	noGame(t, strings.Repeat("{", 299)+"}", 299)
	noGame(t, strings.Repeat("0+", 150), 300)
	// It is told ahead of what is too large at -1, be that ahead of it or behind.
	noGame(t, "60+", 3)
	noGame(t, "999,60", 3)
	noGame(t, "{0,0,0,0,0,0,0,0,0,0,0|", 23)
	noGame(t, "{1//|60}", 3)
}

func TestHowManyBytes(t *testing.T) {
	sum := strings.Repeat("0+", 149)
	canon(t, sum+"1", "1")
	canon(t, sum+"-1", "-1")
	canon(t, strings.Repeat("-", 299)+"1", "-1")
	canon(t, strings.Repeat("(", 149)+"1"+strings.Repeat(")", 149), "1")
	canon(t, strings.Repeat("{|{", 49)+"5"+strings.Repeat("|}}", 49), "0")
	compare(t, sum+"*8", sum+"*7", api.Confused)
	for _, text := range []string{sum + "1/2", sum + "+1/", strings.Repeat("(", 301), strings.Repeat(" ", 301), strings.Repeat("0", 301), strings.Repeat("60+", 100) + "0", strings.Repeat("-", 300) + "1", strings.Repeat("\xff", 1000), strings.Repeat("{", 1<<20)} {
		fails(t, text, api.Fault{Code: api.ErrLarge, At: 0})
	}
	// The faults of a are told first, whichever they are.
	long := strings.Repeat("-", 301)
	for _, x := range []struct {
		a, b string
		want api.Fault
	}{
		{long, "+", api.Fault{Code: api.ErrLarge}}, {"1+", long, api.Fault{Code: api.ErrSyntax, At: 2}}, {"60", long, api.Fault{Code: api.ErrLarge, At: -1}}, {"60", "1+", api.Fault{Code: api.ErrLarge, At: -1}}, {"1+", "60", api.Fault{Code: api.ErrSyntax, At: 2}},
		{"1", long, api.Fault{Code: api.ErrLarge}}, {"1", "1+", api.Fault{Code: api.ErrSyntax, At: 2}}, {"1", "60", api.Fault{Code: api.ErrLarge, At: -1}},
	} {
		if n, f := conway.Compare(x.a, x.b); n != 0 || f != x.want {
			t.Error(x, n, f)
		}
	}
}

func TestHowManyGames(t *testing.T) {
	// Also games that are the same, or dominated, count.
	ten := strings.Repeat("0,", 9) + "0"
	canon(t, "{"+ten+"|"+ten+"}", "*")
	canon(t, "{"+ten+"|}", "1")
	canon(t, "{|"+ten+"}", "-1")
	for _, text := range []string{"{0," + ten + "|}", "{|0," + ten + "}", "{" + ten + ",1|0}", "{" + ten + "|" + ten + ",0}"} {
		large(t, text)
		for _, around := range [][2]string{{"(", ")"}, {"-", ""}, {"0+", ""}, {"", "-0"}, {"{-1,", "|}"}, {"{|{|", "}}"}, {"{0|1/2-", ",3}"}} {
			large(t, around[0]+text+around[1])
		}
	}
	canon(t, "{{"+ten+"|},{|"+ten+"},0,0,0,0,0,0,0,0|2+0+0+0+0+0+0+0+0+0+0+0}", "3/2")
}

// At most 60 positions, of each part.
func TestHowManyPositions(t *testing.T) {
	for _, text := range []string{
		"60", "61", "100", "999", "-60", "(60)", "117/2", "119/2", "959/16", "999/2", "999/4", "999/8", "{59|}", "{|-59}", "{59|59}", "{59|-1}", "{60|}", "{|60}", "{0|60}",
		"30+30", "-30-30", "59+1", "59--1", "0+60", "58+*2", "59+*", "45+*8+*7", "-45-*8+*7",
		// A part is enough, whatever comes of it.
		"60-60", "0-60", "30+30-30", "(30+30)-60", "{60,0|0}", "{0|60,0}", "1-{60|0}", "(-60)", "-(60)", "{{{60|}|}|-60}", "30+(0-60)", "{|30+30}", "{-1,30-60|}", "59+1-1", "44+*8+*7+1-1",
	} {
		large(t, text)
	}
	for text, want := range map[string]string{
		"59": "59", "-59": "-59", "30+29": "59", "-30-29": "-59", "59-59": "0", "59-59+59": "59", "58+*": "{58|58}", "{58|58}": "{58|58}", "115/2": "115/2", "57+*2": "{57,{57|57}|57,{57|57}}", "{58|}": "59", "1-(59-(58-(57-1)))": "-56", "(59)-58": "1",
	} {
		canon(t, text, want)
	}
	// 60 positions: the whole numbers up to 44, and 44 with each heap up to 15.
	if s, f := conway.Canon("44+*8+*7"); f != (api.Fault{}) || len(s) != sizeOfHeap(15, len("44")) {
		t.Error(len(s), f)
	}
}

// sizeOfHeap is how long the text of a number and a heap is, by the length of
// the number's.
func sizeOfHeap(heap, number int) int {
	sizes := []int{number}
	for n := 1; n <= heap; n++ {
		size := len("{|}") + 2*(n-1)
		for _, s := range sizes {
			size += 2 * s
		}
		sizes = append(sizes, size)
	}
	return sizes[heap]
}

func TestCallsAtTheSameTime(t *testing.T) {
	texts := []string{"{2|0}+{1|-1}", "^+^+*", "44+*8+*2", "1/64-1/2", "60", "{0|", "*8+*7", "{{10|-9},{8|-8},3|-20}"}
	var want []string
	for _, s := range texts {
		c, _ := conway.Canon(s)
		want = append(want, c)
	}
	var group sync.WaitGroup
	for range 8 {
		group.Add(1)
		go func() {
			defer group.Done()
			for i := range 40 {
				k := i % len(texts)
				if c, _ := conway.Canon(texts[k]); c != want[k] {
					t.Error(texts[k], c)
				}
			}
		}()
	}
	group.Wait()
}

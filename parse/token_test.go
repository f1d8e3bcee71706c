package parse_test

import (
	"math"
	"strings"
	"testing"

	"vigil/api"
	"vigil/parse"
)

// tokens are queries of which each piece is a token, all that there are among them.
var tokens = [][]string{
	{`(`, `a`, `{`, `b`, `=`, `"c"`, `,`, `d`, `!=`, `'e'`, `,`, `}`, `)`},
	{`sum`, `by`, `(`, `x`, `,`, `y`, `)`, `(`, `rate`, `(`, `a`, `[`, `5m`, `]`, `offset`, `-`, `1m`, `@`, `-`, `1.5`, `)`, `)`},
	{`max_over_time`, `(`, `a`, `{`, `b`, `=~`, "`c`", `,`, `d`, `!~`, `"e"`, `}`, `[`, `5m`, `:`, `1m`, `]`, `@`, `5`, `offset`, `1h30m`, `)`},
	{`a`, `==`, `bool`, `on`, `(`, `x`, `)`, `group_left`, `(`, `y`, `)`, `b`},
	{`a`, `/`, `ignoring`, `(`, `)`, `group_right`, `b`},
	{`1`, `+`, `-`, `2`, `*`, `inf`, `-`, `.5`, `%`, `NaN`, `/`, `1e3`},
	{`a`, `<`, `b`, `<=`, `c`, `>`, `d`, `>=`, `e`, `!=`, `f`, `==`, `g`},
	{`count`, `(`, `a`, `)`, `without`, `(`, `x`, `)`, `or`, `a`, `and`, `b`, `unless`, `c`},
	{`label_replace`, `(`, `a`, `,`, `"b"`, `,`, `'$1'`, `,`, "`d`", `,`, `"e"`, `)`},
	{`(`, `a`, `)`, `[`, `5m`, `:`, `]`},
}

// Blanks of each kind and remarks stand around every token, and say nothing.
func TestBlanks(t *testing.T) {
	for _, l := range tokens {
		want := read(t, strings.Join(l, " "))
		for _, blank := range []string{" ", "\t", "\n", "\r", " \t\r\n ", "#\n", "# x (\"'` \r 5m\n", "#a\n#b\n", "\n# é \xff\x00\n\t"} {
			wantTree(t, blank+strings.Join(l, blank)+blank, want)
			for i := range len(l) + 1 {
				wantTree(t, strings.Join(l[:i], " ")+blank+strings.Join(l[i:], " "), want)
			}
		}
		for _, end := range []string{"#", "# x", " #\r+ b", "\n\n#(("} {
			wantTree(t, strings.Join(l, " ")+end, want)
		}
	}
	// Nothing else is a blank, nor does anything but byte 10 end a remark.
	wantForm(t, "§\va", "a§\f", "a §\x00", "a§\u00a0", "§\ufeffa", "a §\u2028+ b", "§//", "a §;", "a # x\r+ b\n §c")
	wantForm(t, "# a§", "#\n§", " \t§", "§", "a + # b§", "a +\n§", "(a # )\n §")
}

// A word is as long as can be: what is alike to a reserved one and goes on is none.
func TestWords(t *testing.T) {
	for _, s := range []string{"a", "Z", "_", ":", "a:b", ":a:", "::", "a1", "_1", ":1", "orr", "sums", "Sum", "AND", "and1", "by:", "or:a", "bool_", "inf1", "infinity", "nano", "inf:", "in", "na", "groupleft", "e5", "offset5m", "x" + strings.Repeat("y", 3000)} {
		wantTree(t, s, metric(s))
		wantTree(t, "1 + "+s+"{}", binary("+", number(1), metric(s)))
	}
	wantForm(t, "a §:", "a§.b", "a§é", "1§a", "1§_", "a-§$", "a§!", "a §~", "§!a", "a §&")
}

// Reserved words are no metrics, and names of labels all the same.
func TestReserved(t *testing.T) {
	for _, word := range strings.Fields("sum avg min max count group stddev stdvar topk bottomk quantile count_values and or unless by without on ignoring group_left group_right bool offset inf nan Inf NaN INF nAn") {
		number := strings.EqualFold(word, "inf") || strings.EqualFold(word, "nan")
		aggregation := strings.Contains(" sum avg min max count group stddev stdvar topk bottomk quantile count_values ", " "+word+" ")
		for _, ahead := range []string{"", "a + +", "(", "abs(", "-", "sum by (a) (a, "} {
			switch {
			case number:
				wantForm(t, ahead+word+" §{}", ahead+word+"§(1)")
			case aggregation:
				wantForm(t, ahead+word+"§", ahead+word+" §{}", ahead+word+" §+ 1", ahead+word+"§[5m]")
			default:
				wantForm(t, ahead+"§"+word, ahead+"§"+word+"{}", ahead+"§"+word+"(a)", ahead+"§"+word+"[5m]")
			}
		}
		for _, s := range []string{"a{§=\"x\"}", "sum by (§) (a)", "sum(a) without (§, b)", "a + on (b, §) c", "a * ignoring (§) group_left (§) b"} {
			read(t, strings.ReplaceAll(s, "§", word))
		}
	}
}

// A number is what num.Parse reads, as long as can be.
func TestNumbers(t *testing.T) {
	nan := math.Float64frombits(0x7ff8000000000001)
	digits := strings.Repeat("0", api.MaxNumber-1)
	for s, v := range map[string]float64{
		"0": 0, "1": 1, "007": 7, "1.5": 1.5, "1.": 1, ".5": .5, "0.": 0, ".0": 0, "1e3": 1000, "1E3": 1000, "1e+3": 1000, "1e-3": .001, "1.e1": 10, ".5e1": 5, "1e999": math.Inf(1), "1e-999": 0, "9007199254740993": 9007199254740992,
		"inf": math.Inf(1), "Inf": math.Inf(1), "INF": math.Inf(1), "iNf": math.Inf(1), "nan": nan, "NaN": nan, "NAN": nan, "nAn": nan, "1e05": 1e5,
		digits + "7": 7, digits[:len(digits)-1] + "1.": 1, digits[:len(digits)-2] + "1e1": 10,
	} {
		wantTree(t, s, number(v))
		wantTree(t, s+"#", number(v))
		wantTree(t, "("+s+")", number(v))
		wantTree(t, s+"*a", binary("*", number(v), metric("a")))
		wantTree(t, s+"-1", binary("-", number(v), number(1)))
		wantTree(t, "abs(vector("+s+"))", call("abs", call("vector", number(v))))
	}
	wantForm(t, "1§e", "1§e+", "1§e-", "1§E+x", "1.5§.5", "1.§.", "§.", "§..5", "§.e5", "0§x1", "1§_0", "1e5§e5", "1e5§.5", "1 §2", "1.5§a", "1§inf", "inf §inf", "1§\"x\"", "1§m", "5§m", "1§:", "1§{}", "1 §(1)", "1 §offset 5m", "1 §@ 5")
	// Of more bytes than num.Parse reads as many as it reads are a number.
	wantForm(t, digits+"1§1", digits+".§5", digits+"1§e5", digits[:len(digits)-1]+"e1§5", digits[:len(digits)-1]+"1§e+5")
}

// A string in each of the three quotes.
func TestStrings(t *testing.T) {
	for s, want := range map[string]string{
		`""`: "", `''`: "", "``": "", `"a"`: "a", `'a'`: "a", "`a`": "a", `"é€😀"`: "é€😀",
		`"\\"`: `\`, `"\""`: `"`, `"\'"`: `'`, `"\n"`: "\n", `"\t"`: "\t", `"\r"`: "\r", `'\\'`: `\`, `'\"'`: `"`, `'\''`: `'`, `'\n\t\r'`: "\n\t\r", `"\\n"`: `\n`, `"\\\\\""`: `\\"`,
		`"'"`: `'`, `'"'`: `"`, "\"`\"": "`", "'`'": "`", "`\"'`": `"'`, "`\\`": `\`, "`\\n\\`": `\n\`, "`\n`": "\n", "`\r\n# x`": "\r\n# x",
		"\"\r\"": "\r", "\"\t\x00\x7f\"": "\t\x00\x7f", `"# no remark"`: "# no remark", "`\x01`": "\x01", `"\\x"`: `\x`,
	} {
		wantTree(t, s, text(want))
		wantTree(t, " "+s+"#", text(want))
		wantTree(t, "a{b="+s+"}", metric("a", api.Matcher{Kind: api.Equal, Name: "b", Value: want}))
		wantTree(t, "(("+s+"))", text(want))
	}
	wantForm(t, `§"`, `§'`, "§`", `§"x`, `§'x"`, `§"x'`, "§`x\"", `§"\`, `§"\"`, `§'\'`, `§"\x"`, `§"\a"`, `§"\0"`, "§\"\\`\"", `§'\u00e9'`, "§\"\n\"", "§'\n'", "§\"a\nb\"", "§\"\\\n\"", "§\"\xff\"", "§'\xc3'", "§`\xe2\x82`", "§\"\xc3\\n\xa9\"", "§`\xff", "§\"\xed\xa0\x80\"")
	wantForm(t, `"a"§"b"`, `"a"§'b'`, "`a`§`b`", `"a" §a`, `""§""`, `"a"§{}`, `"a"§(1)`, `"a" §offset 5m`, `a §"b"`, `a{b=§"c}`, `a{b=§"\x"}`, "a{b=§'\n'}", `a{§"b"="c"}`, `a{b="c"§"d"}`, "a{b=§\"\xff\"}")
}

// A duration stands behind [, : and offset alone, is not 0 but for an offset, and is letters and digits as long as can be.
func TestDurations(t *testing.T) {
	a := metric("a")
	for s, ms := range map[string]int{"1ms": 1, "5m": 300000, "1h30m": 5400000, "90s": 90000, "007s": 7000, "1d1ms": 86400001, "1y1w1d1h1m1s1ms": 32230861001, "9007199254740s992ms": api.MaxTime} {
		wantTree(t, "a["+s+"]", over(ms, a))
		wantTree(t, "a["+s+":]", subquery(ms, 0, a))
		wantTree(t, "a[ "+s+" : "+s+" ]", subquery(ms, ms, a))
		wantTree(t, "a[5m:"+s+"]", subquery(300000, ms, a))
		wantTree(t, "a offset "+s, with(a, func(e *api.Expr) { e.Offset = ms }))
		wantTree(t, "a offset -"+s, with(a, func(e *api.Expr) { e.Offset = -ms }))
		wantTree(t, "a offset"+" - "+s+"@1", with(a, func(e *api.Expr) { e.Offset, e.HasAt, e.At = -ms, true, 1000 }))
	}
	for _, s := range []string{"0", "0s", "0y0ms", "000ms"} {
		wantTree(t, "a offset "+s, a)
		wantTree(t, "a offset -"+s, a)
		wantForm(t, "a[§"+s+"]", "a[5m:§"+s+"]", "a[ §"+s+" :5m]")
	}
	for _, s := range []string{"1", "m", "5", "1m1h", "1m1m", "5x", "5mx", "mm", "5M", "1m5", "1e3", "1e3s", "é", "inf", "nan", "x", "5m5", "9007199254740s993ms", "99999999999999y", "1234567890123456ms", "9007199254740992ms", "5é", `"5m"`, "+5m", "(5m)", "@", "[", "$", ".5m", "_", "_5m"} {
		wantForm(t, "a[§"+s+"]", "a[5m:§"+s+"]", "a[ # x\n §"+s, "a offset §"+s, "a offset -§"+s, "a offset - §"+s+" + b")
	}
	wantForm(t, "a[§]", "a[§", "a[ §", "a[5m§", "a[5m §", "a[5m:§", "a[5m:5m§", "a[§:5m]", "a[§:]", "a[5m:§:]", "a[5m:§:5m]", "a[5m:5m§:]", "a[5m§,", "a[5m:5m§,5m]", "a[5m§_]", "a[5m§_x]", "a[5m:5m§_x]", "a[5m:§x]", "a[5m§.5]", "a[5m§.]", "a[5m §5m]", "a[5m]§5m", "§[5m]")
	wantForm(t, "a offset§", "a offset -§", "a offset -§-5m", "a offset §+5m", "a offset 5m§:b", "a offset 5m §5m", "a offset 5m§.5", "a offset §offset 5m", "a offset 5m§_")
	wantForm(t, "1§m", "5§m + a", "a @ 5§m", "a + 1§h", "abs(1§m)")
	// A colon behind a duration in brackets is a token, elsewhere a word or a part of one.
	wantTree(t, "a[5m:1m]", subquery(300000, 60000, a))
	wantTree(t, "a [5m\n: # x\n]", subquery(300000, 0, a))
	wantForm(t, "a[5m:§x:1m]", "a[5m:§:x]", "a §:b", "1 §:", "a{§b:=\"c\"}", "(a §:)")
}

// Each sign is as long as can be.
func TestSigns(t *testing.T) {
	for _, op := range []string{"==", "!=", "<", "<=", ">", ">=", "+", "-", "*", "/", "%"} {
		want := binary(op, metric("a"), metric("b"))
		wantTree(t, "a"+op+"b", want)
		wantTree(t, "a "+op+" b", want)
		wantTree(t, "a"+op+"\nb", want)
	}
	for sign, kind := range map[string]int{"=": api.Equal, "!=": api.NotEqual, "=~": api.Match, "!~": api.NotMatch} {
		want := metric("a", api.Matcher{Kind: kind, Name: "b", Value: "c"})
		wantTree(t, `a{b`+sign+`"c"}`, want)
		wantTree(t, `a{ b `+sign+` "c" }`, want)
	}
	wantForm(t,
		"a §= b", "a §=~ b", "a §!~ b", "a§=b", "a §= = b", "a < §= b", "a > §= b", "a §! = b", "a ==§= b", "a ==§== b", "a <=§> b", "a <§< b", "a >=§= b", "a <=§~ b", "a ==§~ b", "a !=§~ b", "a >=§~ b",
		"a+§*b", "a*§/b", "a %§% b", "a*§*b", "a §^ b", "a §| b", "a §& b", "a §; b", "a §? b", "a §! b", "a §~ b", "a §\\ b",
		`a{b§=="c"}`, `a{b= §="c"}`, `a{b§<"c"}`, `a{b§>="c"}`, `a{b§! ="c"}`, `a{b=§!"c"}`, `a{b= §~"c"}`, `a{b!=§~"c"}`, `a{b=~§="c"}`, `a{b!~§="c"}`, `a{b §~ "c"}`,
	)
	wantTree(t, "a--b", binary("-", metric("a"), negate(metric("b"))))
	wantTree(t, "a-+-+b", binary("-", metric("a"), negate(metric("b"))))
	wantTree(t, "a+-b", binary("+", metric("a"), negate(metric("b"))))
	wantTree(t, "a<-b", binary("<", metric("a"), negate(metric("b"))))
	wantTree(t, "a==-1", binary("==", metric("a"), negate(number(1))))
}

// What is no token is refused at its first byte, wherever a token is looked for.
func TestNoTokens(t *testing.T) {
	for b := range 256 {
		s := string([]byte{byte(b)})
		if strings.Contains("abcdefghijklmnopqrstuvwxyzABCDEFGHIJKLMNOPQRSTUVWXYZ_:0123456789.\"'`(){}[],@+-*/%=!<># \t\r\n", s) {
			continue
		}
		for _, ahead := range []string{"", "a ", "a + ", "a[", "a[5m", "a[5m:", "a[5m]", "(", "(a", "rate(", "rate(a,", "sum", "sum by ", "sum by (", "sum by (x", "sum by (x,", "sum by (x) ", "sum(a)", "a offset ", "a offset -", "a @ ", "a @ -", "a == ", "a == bool ", "a + on ", "a + on (", "a + on (x) ", "a + group_left ", "a + group_left (", "a{", "a{b", "a{b= ", "a{b=\"c\"", "a{b=\"c\",", "a{}", "-", "+", "1", "\"x\"", "abs", "a or "} {
			wantRefused(t, ahead+s, len(ahead), api.ErrForm)
			wantRefused(t, ahead+s+")", len(ahead), api.ErrForm)
		}
	}
	// A blank or a remark ahead of it is none of it.
	for _, blank := range []string{" ", "\n", "# x\n"} {
		wantRefused(t, "a"+blank+"$", 1+len(blank), api.ErrForm)
	}
	if _, _, why := parse.Parse("a # $"); why != api.OK {
		t.Error(why)
	}
}

// The seconds of @: 1000 times the number, rounded half away from 0, the number at most 10^11.
func TestSeconds(t *testing.T) {
	for s, at := range map[string]int{
		"0": 0, "1": 1000, "1.5": 1500, ".001": 1, "0.0005": 1, "0.0004": 0, "0.00049999": 0, "0.0015": 2, "0.0025": 3, "1.0005": 1001, "2.5e-3": 3, "1e-400": 0, "1e11": 100000000000000, "100000000000": 100000000000000, "99999999999.9994": 99999999999999, "100000000000.000001": 100000000000000, "1609746000.123": 1609746000123, "99999999999.9996": 100000000000000,
	} {
		wantTree(t, "a @ "+s, with(metric("a"), func(e *api.Expr) { e.HasAt, e.At = true, at }))
		wantTree(t, "a@-"+s, with(metric("a"), func(e *api.Expr) { e.HasAt, e.At = true, -at }))
		wantTree(t, "a[5m:]@ - "+s+" offset 1ms", with(subquery(300000, 0, metric("a")), func(e *api.Expr) { e.HasAt, e.At, e.Offset = true, -at, 1 }))
	}
	for _, s := range []string{"1e12", "1.1e11", "100000000000.1", "100000000001", "100000000000.00002", "inf", "Inf", "nan", "NaN", "1e400", "x", "(1)", "\"1\"", "+1", "$", "[", "offset"} {
		wantForm(t, "a @ §"+s, "a@-§"+s, "a @ - §"+s, "a[5m:] @ §"+s+" offset 5m")
	}
	wantForm(t, "a @§", "a @ -§", "a @ - §-1", "a @ 1§m", "a @ 1 §1", "a @ §@ 1")
}

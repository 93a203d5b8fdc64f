package script_test

import (
	"strconv"
	"strings"
	"testing"

	"paddock/api"
	"paddock/reeds"
	"paddock/script"
)

// breaks tells whether a rule is told as broken at a place.
func breaks(t *testing.T, s string, at, rule int) {
	t.Helper()
	got, why, flaw := script.Parse(s, false)
	if why != api.ErrScript || flaw != (api.Flaw{At: at, Rule: rule}) || !reeds.Same(got, api.Script{}) {
		t.Errorf("Parse(%.120q): error %d, %v; not %v", s, why, flaw, api.Flaw{At: at, Rule: rule})
	}
}

// 13.1, rules 1 to 20: each with its place. A number behind each text: the place.
func TestFlaws(t *testing.T) {
	for rule, texts := range map[int]string{
		1:  `2=1 k=0 1k=1 1!k=2 1!=2 /a/=3 1,2=3 $=1 1;p=1 1#=1 +1p=0 ~1p=0 ,p=0 1,2,3p=3 1,2~3p=3 /a/Jp=3 /a/IIp=4 I=0 &=0 *=0 j=0 S=0 ?=0 p;k=2 {k=1 p;1=3 !=1 1,+2~2p=4 v=0 M=0 \,a,Ik=5`,
		2:  `/a=0 1,p=2 0p=0 0=0 0!!p=0 0;=0 0,5p=0 0,$p=0 0,+1p=0 0,~4p=0 0,=2 0,p=2 1,=2 1,;=2 1~p=0 1~=0 0~p=0 1~$p=0 1,+p=2 1,~p=2 1,+=2 1,~$p=2 \=0 \\=0 \\a\p=0 \a=0 \,a=0 \,a\,p=0 /a\/p=0 /\=0 p;/a=2 1,/a=2 1,\=2 1,\\p=2 {1,}=3 1,!p=2 1,{=2 5,\,a=2 00p=0 00,7p=0 /a/,p=4`,
		3:  `/\(/p=1 /\)/p=1 \,\(,p=2 /[/p=1 /a**/p=1 /\d/p=1 //Ip=1 \,,Ip=2 0,/\(/p=3 0,//Ip=3 1,/\(/p=3 s/\(/x/=2 s//x/I=2 s//x/i=2 s//x/gIg=2 s//x/Iw=2 s//x/Ik=2 s/[/]/x/=2 s,\(,\9,gg=2 s/\1/x/=2 /a\{1/p=1 /a\{256\}/p=1 s/\(a\{255\}\)\{255\}/x/=2 /\(a\{255\}\)\{255\}/p=1 /\(/,/\(/p=1`,
		4:  `1,2q=3 1,2Q=3 1,$q256=3 1:a=1 !:a=1 1!:a=2 1}=1 !}=1 {1}=2 {!}=2 1,2}=3 {1,2!}=5 1,2:=3 0,/a/q=5 1,2qx=3 $!}=2 {p;1}x=4`,
		5:  `1!!p=2 !!p=1 !!=1 1!!!p=2 /a/!!k=4 1,2!!:=4`,
		6:  `px=1 =p=1 {d}x=3 {}p=2 {p}p=3 {p}{=3 q1x=2 l1p=2 l-1=1 qx=1 s/a/b/k=6 s/a/b/gk=7 s/a/b/m=6 s/a/b/M=6 s/a/b//=6 s/a/b/-1=6 y/a/b/g=6 y/a/b//=6 n!=1 n,=1 x1=1 {}!=2 z{=1 s/a/b/1,=7`,
		7:  `}=0 p;}=2 {}}=2 {{}}}=4 ;}=1 {p};}=4 }x=0 }}=0`,
		8:  `{p=0 {=0 1{=1 {{}=0 {};{=3 {};{{=3 1!{p;{p;}=2 {:a;:a=0 {bx=0 {p;1,2{};{=0`,
		9:  `:=1 :;=1 p;:=3 {:;}=2`,
		10: `:a;:a=3 :a;:b;:a=6 :a;:a;:a=3 :b;:a;:a;:b=6 :a;:a;bx=3 bx;:a;:a=6 {:a;};:a=6`,
		11: `bx=0 tx=0 Tx=0 1bx=1 {bx}=1 :a;bb=3 ba;bx;:a=3 bx;by=0 :a};ba=4 b{=0 b#=0 bA;:a=0`,
		12: `a=0 i=0 c=0 1a=1 p;c=2 a\=0 1,2i\=3`,
		13: `r=1 R=1 w=1 W=1 1r=2 s/a/b/w=7 s/a/b/gw=8`,
		14: `s/a=0 s=0 s/=0 s/a/=0 s/a/b=0 s/a/b\/=0 s/a\/b/=0 s\a\b\=0 s/\(/b=0 s/\(/\9=0 y=0 y/=0 y/a=0 y/a/=0 y/a/b=0 y\a\b\=0 y/\q/b=0 y/aa/b=0 1s/a=1 p;y/a=2 {s}=1 s/a/\=0 s/\=0 y/a/b\/=0`,
		15: `s/a/b/gg=7 s/a/b/pp=7 s/a/b/ee=7 s/a/b/II=7 s/a/b/Ii=7 s/a/b/iI=7 s/a/b/0=6 s/a/b/00=6 s/a/b/1g1=8 s/a/b/1g0=8 s/a/b/gpg=8 s/a/b/g0=7 s/a/b/ggk=7 s/a/b/ggw=7 s//x/ggI=6`,
		16: `s/a/\1/=4 s/\(a\)/\2/=8 s/\(a\)\(b\)/\1\3\2/=13 s,a,\9,gg=4 s/a/x\1/0=4 s/a/&\0\2/k=4 s/\(a\)/\1\2/=8`,
		17: `y/ab/c/=0 y/a/bc/=0 y//a/=0 y/aa/bb/=0 y/aba/xyz/=0 y/a\a/bc/=3 y/\t/a/=2 y/a/\b/=4 y/ab/\q/=5 y/aa/\q/=5 y/aa/b/=0 y,\/,a,=2 y/\q/\r/=2 y/ab/c/x=0 1y/ab/c/=1 y/a\//b/=0 y/\n\n/ab/=0 y/\&/a/=2`,
		18: `q256=1 Q256=1 q256x=1 1q999=2 l1073741825=1 l1073741825x=1 s/a/b/1073741825=6 s/a/b/1g1073741825=8 q99999999999999999999999=1 l99999999999999999999999999=1 s/a/b/99999999999999999999999=6 s/a/b/g1073741825k=7 q000256=1`,
	} {
		for _, field := range strings.Fields(texts) {
			i := strings.LastIndex(field, "=")
			if at, err := strconv.Atoi(field[i+1:]); err == nil {
				breaks(t, field[:i], at, rule)
			}
		}
	}
	// The same, where blanks and LFs stand.
	for _, c := range []struct {
		s        string
		at, rule int
	}{
		{"2 ", 2, 1}, {"2 \np", 2, 1}, {"1! ", 3, 1}, {"1\np", 1, 1}, {"1 , 2 \t", 7, 1}, {"/a/ I p", 4, 1}, {"1 ~2p", 2, 1},
		{"1, p", 3, 2}, {"1 ,\t", 4, 2}, {"1,\n2p", 2, 2}, {"0 p", 0, 2}, {" 0p", 1, 2}, {"1~ 2p", 0, 2}, {"1,+ 2p", 2, 2}, {"/a\n/p", 0, 2}, {"/a\\\n/p", 0, 2}, {"\\\na\np", 0, 2}, {"p\n/a", 2, 2}, {"0 , 5p", 0, 2}, {"99999999999999999999p", 0, 2}, {"1073741825p", 0, 2}, {"1~1073741825p", 0, 2}, {"1,1073741825p", 2, 2}, {"1,+1073741825p", 2, 2}, {"1,~1073741825p", 2, 2}, {"1073741825~p", 0, 2}, {"0,1073741825p", 2, 2}, {"1, 99999999999999999999p", 3, 2},
		{"/a/, /\\(/p", 6, 3}, {"1 q;/\\(/p", 5, 3},
		{"1, 2 q", 5, 4}, {" 1 }", 3, 4}, {"{ ! }", 4, 4}, {"1 :", 2, 4},
		{"1! !p", 3, 5}, {"! \t!", 3, 5}, {" 1 ! ! p", 5, 5},
		{"p x", 2, 6}, {"p \tx", 3, 6}, {"p p", 2, 6}, {"l 1 2", 4, 6}, {"q 1 2", 4, 6}, {"s/a/b/ g", 7, 6}, {"s/a/b/g p", 8, 6}, {"s/a/b/ w f", 7, 6}, {"y/a/b/ \tx", 8, 6}, {"{ } p", 4, 6}, {"p\x00", 1, 6}, {"p\r", 1, 6}, {"q\v", 1, 6},
		{"p\n }", 3, 7}, {" {\n", 1, 8}, {":  ", 3, 9}, {": \n", 2, 9}, {":\t;", 2, 9}, {":\n:a", 1, 9}, {":a\n:a", 3, 10}, {": a\n:\ta\t", 4, 10}, {":a ;: a", 4, 10}, {"b x", 0, 11}, {"b x\n:y", 0, 11}, {"1 b x", 2, 11},
		{"a\n", 0, 12}, {"a \t", 0, 12}, {"a \nx", 0, 12}, {"a\nx", 0, 12}, {"a\\\n", 0, 12}, {"a\\\n\n", 0, 12}, {"a\\\n\nx", 0, 12}, {"a\\ \n", 0, 12}, {"a\\ \n\nx", 0, 12}, {"a\\ ", 0, 12}, {"a \\\t", 0, 12}, {"a \\", 0, 12}, {"1 i", 2, 12}, {"p\nc \\\n", 2, 12},
		{"r ", 2, 13}, {"r\n", 1, 13}, {"w \t\nx", 3, 13}, {"s/a/b/w ", 8, 13}, {"s/a/b/w\n", 7, 13}, {"s/a/b/w \t\n", 9, 13}, {"R\nx", 1, 13},
		{"s\na\nb\n", 0, 14}, {"s/a\nb/c/", 0, 14}, {"s/a\\\nb/c/", 0, 14}, {"s/a/b\nc/", 0, 14}, {"s/a/b\\\\\nc/", 0, 14}, {"s/a/b\\\nc", 0, 14}, {"y\na\nb\n", 0, 14}, {"y/a\n/bc/", 0, 14}, {"y/ab/a\n/", 0, 14}, {"y/a\\\n/bc/", 0, 14}, {"y/a/\\\n/", 0, 14}, {"s/\\(\n/x/", 0, 14}, {"y/\\q\n/ab/", 0, 14}, {" 1 s /a", 3, 14}, {"s/a/b\n", 0, 14},
		{"s//x/g Ig", 7, 6}, {"q 256", 2, 18}, {"l\t1073741825", 2, 18}, {"q 256 x", 2, 18},
	} {
		breaks(t, c.s, c.at, c.rule)
	}
}

// 13.1: of several flaws the one that is met first; those of the whole behind all others.
func TestFirstFlaw(t *testing.T) {
	for s, want := range map[string]api.Flaw{
		"{:a;:a;bx;k": {At: 10, Rule: 1}, ":a;:a;bx;}": {At: 9, Rule: 7}, "{:a;:a;bx": {At: 0, Rule: 8}, ":a;:a;bx": {At: 3, Rule: 10}, "bx;p x": {At: 5, Rule: 6}, "k;0p": {At: 0, Rule: 1}, "0k": {At: 0, Rule: 2}, "/\\(/k": {At: 1, Rule: 3}, "1!!k": {At: 2, Rule: 5}, "1,2q256": {At: 3, Rule: 4}, "1}": {At: 1, Rule: 4}, "{p;a": {At: 3, Rule: 12}, "s/a": {At: 0, Rule: 14}, "s/\\(/\\1/gg": {At: 2, Rule: 3}, "s/a/\\1/gg": {At: 4, Rule: 16}, "s/a/b/ggx": {At: 7, Rule: 15}, "s/a/b/g0x": {At: 7, Rule: 15}, "y/aa/\\q/x": {At: 5, Rule: 17}, "y/aa/b/x": {At: 0, Rule: 17},
	} {
		breaks(t, s, want.At, want.Rule)
	}
}

// 13.1: each limit, at it and one past it.
func TestLimits(t *testing.T) {
	long := func(n int) string { return strings.Repeat("x", n) }
	taken := func(s string, extended bool) {
		t.Helper()
		if _, why, flaw := script.Parse(s, extended); why != api.OK || flaw != (api.Flaw{}) {
			t.Errorf("Parse(%.40q ..): error %d, %v", s, why, flaw)
		}
	}
	// MaxScript: ErrLong comes ahead of every flaw, and has none.
	for s, want := range map[string]api.Errno{strings.Repeat("p\n", api.MaxScript/2-60000/2) + strings.Repeat(";", 60000): api.OK, long(api.MaxScript): api.ErrScript, long(api.MaxScript + 1): api.ErrLong, strings.Repeat(";", api.MaxScript): api.OK, strings.Repeat(";", api.MaxScript+1): api.ErrLong, "a" + long(api.MaxScript-1): api.OK, "e" + long(api.MaxScript): api.ErrLong} {
		got, why, flaw := script.Parse(s, false)
		if why != want || why == api.ErrLong && (flaw != (api.Flaw{}) || !reeds.Same(got, api.Script{})) {
			t.Errorf("a script of %d bytes: error %d, %v", len(s), why, flaw)
		}
	}
	// MaxPattern: of the expression's text, not of how it is written.
	taken("/"+long(api.MaxPattern)+"/p", false)
	breaks(t, "/"+long(api.MaxPattern+1)+"/p", 1, 3)
	taken("s/"+long(api.MaxPattern)+"/"+long(9999)+"/", false)
	breaks(t, "s/"+long(api.MaxPattern+1)+"/x/", 2, 3)
	taken("/"+strings.Repeat("\\/", api.MaxPattern)+"/p", false)
	breaks(t, "/"+strings.Repeat("\\/", api.MaxPattern+1)+"/p", 1, 3)
	taken("\\."+strings.Repeat("\\.", api.MaxPattern/3)+"x.p", false)
	breaks(t, "\\."+strings.Repeat("\\.", api.MaxPattern/3)+"xx.p", 2, 3)
	// MaxProg.
	at := strings.Repeat("a{255}", 64) + strings.Repeat("a", 63)
	taken("/"+at+"/p", true)
	if _, why, flaw := script.Parse("/"+at+"a/p", true); why != api.ErrScript || flaw != (api.Flaw{At: 1, Rule: 3}) {
		t.Errorf("one past MaxProg: error %d, %v", why, flaw)
	}
	// MaxLabel, MaxPath.
	taken(":"+long(api.MaxLabel)+" \t", false)
	breaks(t, ": "+long(api.MaxLabel+1), 2, 9)
	taken("b "+long(api.MaxLabel)+"\n:"+long(api.MaxLabel), false)
	breaks(t, "b "+long(api.MaxLabel+1)+"\n:a", 2, 9)
	breaks(t, "t"+long(api.MaxLabel+1)+"}", 1, 9)
	for _, name := range []string{"r", "R", "w", "W"} {
		taken(name+" "+long(api.MaxPath), false)
		breaks(t, name+" "+long(api.MaxPath+1)+"\n", 2, 13)
	}
	taken("s/a/b/w "+long(api.MaxPath), false)
	breaks(t, "s/a/b/w "+long(api.MaxPath+1), 8, 13)
	taken("e "+long(api.MaxPath+1), false)
	// MaxNest.
	taken(strings.Repeat("{", api.MaxNest)+strings.Repeat("}", api.MaxNest)+"\n{}", false)
	breaks(t, strings.Repeat("{", api.MaxNest+1), api.MaxNest, 19)
	breaks(t, strings.Repeat("{", api.MaxNest)+"1!{k", api.MaxNest+2, 19)
	breaks(t, strings.Repeat("{", api.MaxNest)+strings.Repeat("}", api.MaxNest+1), 2*api.MaxNest, 7)
}

// 13.1, rule 20: at the letter of the command beyond MaxCommand, ahead of rules 4, 7 and 19 of it.
func TestManyCommands(t *testing.T) {
	full := strings.Repeat("p\n", api.MaxCommand)
	if got, why, _ := script.Parse(full, false); why != api.OK || len(got.Commands) != api.MaxCommand {
		t.Error("at MaxCommand:", why, len(got.Commands))
	}
	for s, want := range map[string]api.Flaw{"p": {At: 0, Rule: 20}, " 1,2 !p": {At: 6, Rule: 20}, "}": {At: 0, Rule: 20}, "1}": {At: 1, Rule: 20}, "1,2q": {At: 3, Rule: 20}, ":": {At: 0, Rule: 20}, "s/a": {At: 0, Rule: 20}, "0p": {At: 0, Rule: 2}, "1!!p": {At: 2, Rule: 5}, "k": {At: 0, Rule: 1}, "1": {At: 1, Rule: 1}, "/\\(/p": {At: 1, Rule: 3}} {
		breaks(t, full+s, len(full)+want.At, want.Rule)
	}
	deep := strings.Repeat("p\n", api.MaxCommand-api.MaxNest) + strings.Repeat("{", api.MaxNest)
	breaks(t, deep+"{", len(deep), 20)
	blocks := strings.Repeat("{}\n", api.MaxCommand/2)
	if _, why, _ := script.Parse(blocks+"# x", false); why != api.OK {
		t.Error("blocks:", why)
	}
	breaks(t, blocks+"{", len(blocks), 20)
}

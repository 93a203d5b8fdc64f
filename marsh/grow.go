package marsh

import (
	"strconv"
	"strings"

	"paddock/api"
)

// What scripts are grown of, right as basic ones and as extended ones.
const (
	addresses = "|||||1|2|3|$|/a/|/b/|//|/^$/|/A/I|/a.*b/|0~2|2~3|1~0|5~0|0~0|1,2|2,1|2,2|1,3|1,$|2,$|$,1|/a/,/b/|/b/,//|//,/a/|/b/,3|2,/a/|0,/a/|0,//|1,+1|2,+0|/a/,+2|2,~2|1,~3|/a/,~0|1~2,+1|/A/I,$"
	letters   = "p|p|=|F|l|l 0|l 1|l 2|l 5|d|D|D|g|G|h|H|x|x|z|n|n|N|N|P|P|b|t|T|bx|bx|tx|tx|Tx|by|ty|Ty|q|q7|Q|Q3|e ls|e|" +
		"s/a/b/|s/a/ab/|s/b*/x/g|s/a/&-/2g|s/[ab]/<&>/2|s/$/\\n/|s/\\n/,/g|s/a//gp|s/b/a/w o|s/a/A/pw /dev/stdout|s/A/\\u&\\n&/I|s//X/|s//&&/g|s//y/Ip|s/^/+/|s/x/z/e|" +
		"y/ab/ba/|y/a\\n/\\na/|a\\@A|a\\@A1\\@A2|i\\@I|c\\@C|r f|r g|r o|r none|r /dev/stdout|R f|R f|R o|R u|R none|w o|w o|W o|W u|w /dev/stdout|W /dev/stdout|w f"
)

// Script is the text of a script of some commands, by a function that tells numbers below one by chance.
func Script(chance func(int) int, commands int) string {
	return Mixed(chance, commands, 8, addresses, letters)
}

// Mixed is one of addresses and letters with what these take, each with a | between, an @ in them being an LF; one of so many commands begins a block.
func Mixed(chance func(int) int, commands, blocks int, addresses, letters string) string {
	pick := func(all string) string {
		l := strings.Split(all, "|")
		return strings.ReplaceAll(l[chance(len(l))], "@", "\n")
	}
	var out []string
	if chance(8) == 0 {
		out = append(out, "#n")
	}
	x, y := chance(commands+1), chance(commands+1)
	nest := 0
	for i := range commands + 1 {
		if i == x {
			out = append(out, ":x")
		}
		if i == y {
			out = append(out, ":y")
		}
		if i == commands {
			break
		}
		if nest > 0 && chance(4) == 0 {
			out = append(out, "}")
			nest--
		}
		address, not := pick(addresses), pick("||||!")
		if chance(blocks) == 0 {
			out = append(out, address+not+"{")
			nest++
			continue
		}
		letter := pick(letters)
		if strings.Contains(letter, "/I") && strings.HasPrefix(letter, "s//") {
			letter = "s//y/p"
		}
		if strings.IndexByte("qQ", letter[0]) >= 0 && strings.Contains(address, ",") {
			address = "2"
		}
		out = append(out, address+not+letter)
	}
	for range nest {
		out = append(out, "}")
	}
	return strings.Join(out, "\n")
}

// Lines is a text of a few short lines, of which the last one may lack its LF.
func Lines(chance func(int) int) string {
	const bytes = "aabbABx"
	var out []byte
	for range chance(6) {
		for range chance(5) {
			out = append(out, bytes[chance(len(bytes))])
		}
		out = append(out, '\n')
	}
	if len(out) > 0 && chance(3) == 0 {
		out = out[:len(out)-1]
	}
	return string(out)
}

// World is one of a few inputs, of which some are gone and some have the same name, and the files that scripts name.
func World(chance func(int) int) api.World {
	var w api.World
	for range chance(4) + chance(2) {
		x := api.Text{Name: "in" + strconv.Itoa(chance(3)), Data: Lines(chance)}
		if chance(6) == 0 {
			x.Data, x.Gone = "", true
		}
		w.Inputs = append(w.Inputs, x)
	}
	for _, name := range []string{"f", "g", "o", "/dev/stdout"} {
		switch chance(4) {
		case 0:
		case 1:
			w.Others = append(w.Others, api.Text{Name: name, Gone: true})
		default:
			w.Others = append(w.Others, api.Text{Name: name, Data: Lines(chance)})
		}
	}
	return w
}

// Options are some.
func Options(chance func(int) int) api.Options {
	return api.Options{Quiet: chance(3) == 0, Separate: chance(3) == 0, InPlace: chance(3) == 0, Extended: chance(2) == 0, Suffix: []string{"", "~"}[chance(2)]}
}

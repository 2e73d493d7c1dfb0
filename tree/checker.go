package tree

import (
	"strconv"
	"strings"

	"ravelin/api"
	"ravelin/lex"
	"ravelin/num"
)

// wants is by kind which kids a node wants, letter by letter (see kidFits); a letter with * behind it stands any number of times.
var wants = [...]string{
	api.NProgram: "c*b", api.NChannel: "", api.NBlock: "s*", api.NLocal: "LE", api.NFunction: "F", api.NAssign: "ae", api.NDo: "k",
	api.NIf: "ebB", api.NWhile: "eb", api.NReturn: "E", api.NBreak: "", api.NNone: "", api.NNil: "", api.NBool: "", api.NInt: "",
	api.NStr: "", api.NName: "", api.NField: "e", api.NIndex: "ee", api.NCall: "ee*", api.NBuiltin: "e*", api.NFunc: "p*Tb",
	api.NParam: "L", api.NTable: "n*", api.NNamed: "e", api.NItem: "e", api.NBin: "ee", api.NUn: "e", api.NAnd: "ee", api.NOr: "ee",
	api.NTName: "", api.NTShape: "f*", api.NTField: "t", api.NTFunc: "t*t", api.NTUnion: "mmm*", api.NTBound: "t",
}

// wrong is a node that isn't as it should be.
type wrong struct {
	node int
	e    api.Errno
}

// wrongOf tells what is wrong; any other panic goes on.
func wrongOf(r any) wrong {
	w, is := r.(wrong)
	if !is {
		panic(r)
	}
	return w
}

// must stops the check at a node, if something isn't so.
func must(is bool, node int) {
	if !is {
		panic(wrong{node, api.ErrTree})
	}
}

// checker knows of each node that was gone through whether it is a kid.
type checker struct {
	l   []api.Node
	kid []bool
}

// node looks at node n; those ahead of it are as they should be.
func (c *checker) node(n int) {
	node := c.l[n]
	must(node.Kind >= api.NProgram && node.Kind <= api.NTBound && node.At >= 0, n)
	for _, k := range node.Kids {
		must(k >= 0 && k < n && !c.kid[k], n)
		c.kid[k] = true
	}
	must(c.kidsFit(node), n)
	must(textFits(node), n)
	must(c.rest(node), n)
}

// kidsFit tells whether a node has the kids that it wants.
func (c *checker) kidsFit(node api.Node) bool {
	want := wants[node.Kind]
	fixed := strings.ReplaceAll(want, "*", "")
	many := len(node.Kids) - len(fixed)
	if strings.Contains(want, "*") {
		// The starred letter is one of the fixed ones, too.
		many++
	}
	if many < 0 || len(fixed) == len(want) && many != 0 {
		return false
	}
	at := 0
	for n, letter := range want {
		times := 1
		if letter == '*' {
			continue
		}
		if n+1 < len(want) && want[n+1] == '*' {
			times = many
		}
		for range times {
			if !kidFits(letter, c.l[node.Kids[at]].Kind) {
				return false
			}
			at++
		}
	}
	return true
}

// kidFits tells whether a kind of node may stand where a letter of wants is.
func kidFits(letter rune, kind int) bool {
	switch letter {
	case 'c':
		return kind == api.NChannel
	case 'b':
		return kind == api.NBlock
	case 'B':
		return kind == api.NBlock || kind == api.NNone
	case 's':
		return kind >= api.NLocal && kind <= api.NBreak
	case 'e':
		return expression(kind)
	case 'E':
		return expression(kind) || kind == api.NNone
	case 't':
		return written(kind)
	case 'T':
		return written(kind) || kind == api.NNone
	case 'L':
		return written(kind) || kind == api.NNone || kind == api.NTBound
	case 'a':
		return kind == api.NName || kind == api.NField || kind == api.NIndex
	case 'k':
		return kind == api.NCall || kind == api.NBuiltin
	case 'F':
		return kind == api.NFunc
	case 'p':
		return kind == api.NParam
	case 'n':
		return kind == api.NNamed || kind == api.NItem
	case 'f':
		return kind == api.NTField
	}
	return letter == 'm' && (kind == api.NTName || kind == api.NTShape)
}

// expression tells whether a kind is one of an expression.
func expression(kind int) bool {
	return kind >= api.NNil && kind <= api.NFunc || kind == api.NTable || kind >= api.NBin && kind <= api.NOr
}

// written tells whether a kind is one of a type.
func written(kind int) bool {
	return kind >= api.NTName && kind <= api.NTUnion && kind != api.NTField
}

// textFits tells whether a node's text may be.
func textFits(node api.Node) bool {
	text := node.Text
	switch node.Kind {
	case api.NChannel:
		return len(text) > 2 && text[0] >= '0' && text[0] <= '7' && text[1] == ' ' && mask(text[2:])
	case api.NLocal, api.NFunction, api.NName, api.NParam:
		return lex.Name(text) && Builtin(text) < 0
	case api.NField, api.NNamed, api.NTField:
		return lex.Name(text)
	case api.NBool:
		return text == "true" || text == "false"
	case api.NInt:
		n, is := num.Number(text)
		return is && num.Show(n) == text
	case api.NStr:
		return true
	case api.NBuiltin:
		return Builtin(text) >= 0
	case api.NBin:
		return oneOf(text, "+ - * // % .. == ~= < <= > >=")
	case api.NUn:
		return oneOf(text, "- not #")
	case api.NTName:
		return oneOf(text, "any nil bool int string table thread")
	case api.NTBound:
		return mask(text)
	}
	return text == ""
}

// oneOf tells whether a text is one of some words.
func oneOf(text, words string) bool {
	for _, w := range strings.Fields(words) {
		if w == text {
			return true
		}
	}
	return false
}

// mask tells whether a text is a number as num.Show writes it.
func mask(text string) bool {
	n, err := strconv.ParseInt(text, 10, 64)
	return err == nil && num.Show(n) == text
}

// rest looks at what neither the kids' kinds nor the text tell.
func (c *checker) rest(node api.Node) bool {
	switch node.Kind {
	case api.NProgram:
		return c.channels(node)
	case api.NBlock:
		return c.last(node)
	case api.NAssign, api.NDo:
		return c.base(node.Kids[0])
	case api.NBuiltin:
		return c.arguments(node)
	case api.NTShape:
		return c.unlike(node)
	}
	return true
}

// channels tells whether each channel of a program has another number.
func (c *checker) channels(node api.Node) bool {
	var seen [8]bool
	for _, k := range node.Kids[:len(node.Kids)-1] {
		number := c.l[k].Text[0] - '0'
		if seen[number] {
			return false
		}
		seen[number] = true
	}
	return true
}

// last tells whether returns and breaks stand only last in a block.
func (c *checker) last(node api.Node) bool {
	for n, k := range node.Kids {
		kind := c.l[k].Kind
		if (kind == api.NReturn || kind == api.NBreak) && n < len(node.Kids)-1 {
			return false
		}
	}
	return true
}

// base tells whether a place or call goes down to a name or a builtin.
func (c *checker) base(n int) bool {
	for {
		switch c.l[n].Kind {
		case api.NField, api.NIndex, api.NCall:
			n = c.l[n].Kids[0]
		default:
			return c.l[n].Kind == api.NName || c.l[n].Kind == api.NBuiltin
		}
	}
}

// arguments tells whether a builtin has those that it takes.
func (c *checker) arguments(node api.Node) bool {
	if len(node.Kids) != Builtin(node.Text) {
		return false
	}
	if node.Text != "read" && node.Text != "write" {
		return true
	}
	first := c.l[node.Kids[0]]
	return first.Kind == api.NInt && len(first.Text) == 1 && first.Text[0] <= '7'
}

// unlike tells whether each field of a shape has another name.
func (c *checker) unlike(node api.Node) bool {
	seen := map[string]struct{}{}
	for _, k := range node.Kids {
		name := c.l[k].Text
		if _, is := seen[name]; is {
			return false
		}
		seen[name] = struct{}{}
	}
	return true
}

// whole looks at what only the whole list tells.
func (c *checker) whole() {
	last := len(c.l) - 1
	must(last >= 0, 0)
	must(c.l[last].Kind == api.NProgram, last)
	for n := range last {
		must(c.kid[n] && c.l[n].Kind != api.NProgram, last)
	}
}

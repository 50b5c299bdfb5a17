package console

import (
	"strconv"
	"strings"

	"commonplace/api"
	"commonplace/mutator"
	"commonplace/utf"
)

const (
	mostDigits = 9
	mostNumber = 999999999
	mostMask   = 255
)

// wrong is what reading leaves by.
type wrong struct {
	e api.Errno
}

// need leaves with an error, if something does not hold.
func need(ok bool, e api.Errno) {
	if !ok {
		panic(wrong{e})
	}
}

// reader reads a line from the left.
type reader struct {
	s string // what is left of it
}

// Read is the line's command.
func Read(line string) (c api.Command, e api.Errno) {
	defer func() {
		if w, ok := recover().(wrong); ok {
			c, e = api.Command{}, w.e
		}
	}()
	r := &reader{s: line}
	read, ok := verbs()[r.word()]
	need(ok, api.ErrSyntax)
	c = read(r)
	need(r.s == "", api.ErrSyntax)
	return c, api.OK
}

// verbs has, for each name, what reads all that it names.
func verbs() map[string]func(r *reader) api.Command {
	return map[string]func(r *reader) api.Command{
		"world":   two(api.CmdWorld),
		"do":      acting(doing),
		"push":    acting(counting(api.ActPush)),
		"cancel":  acting(counting(api.ActCancel)),
		"pull":    acting(being(api.ActPull)),
		"save":    acting(being(api.ActSave)),
		"crash":   acting(being(api.ActCrash)),
		"deliver": acting(placing(api.ActDeliver)),
		"drop":    acting(placing(api.ActDrop)),
		"double":  acting(placing(api.ActDouble)),
		"spoil":   acting(spoiling),
		"watch":   acting(watching),
		"head":    one(api.CmdHead),
		"view":    one(api.CmdView),
		"round":   one(api.CmdRound),
		"settle":  one(api.CmdSettle),
		"result":  two(api.CmdResult),
		"store":   none(api.CmdStore),
		"letters": none(api.CmdLetters),
		"judge":   none(api.CmdJudge),
	}
}

// none reads a command that names nothing.
func none(k api.CommandKind) func(r *reader) api.Command {
	return func(r *reader) api.Command {
		return api.Command{Kind: k}
	}
}

// one reads a command that names A.
func one(k api.CommandKind) func(r *reader) api.Command {
	return func(r *reader) api.Command {
		return api.Command{Kind: k, A: r.number()}
	}
}

// two reads a command that names A and B.
func two(k api.CommandKind) func(r *reader) api.Command {
	return func(r *reader) api.Command {
		a := r.number()
		return api.Command{Kind: k, A: a, B: r.number()}
	}
}

// acting reads a command that names an act.
func acting(act func(r *reader) api.Act) func(r *reader) api.Command {
	return func(r *reader) api.Command {
		return api.Command{Kind: api.CmdAct, Act: act(r)}
	}
}

// being reads an act that names a client alone.
func being(k api.ActKind) func(r *reader) api.Act {
	return func(r *reader) api.Act {
		return api.Act{Kind: k, Who: r.number()}
	}
}

// counting reads an act that names a client and a number.
func counting(k api.ActKind) func(r *reader) api.Act {
	return func(r *reader) api.Act {
		who := r.number()
		return api.Act{Kind: k, Who: who, N: r.number()}
	}
}

// placing reads an act that names a letter alone.
func placing(k api.ActKind) func(r *reader) api.Act {
	return func(r *reader) api.Act {
		return api.Act{Kind: k, At: r.number()}
	}
}

// spoiling reads ActSpoil.
func spoiling(r *reader) api.Act {
	at := r.number()
	n := r.number()
	mask := r.number()
	need(mask <= mostMask, api.ErrRange)
	return api.Act{Kind: api.ActSpoil, At: at, N: n, Mask: byte(mask)}
}

// doing reads ActMutate.
func doing(r *reader) api.Act {
	who := r.number()
	r.blank()
	m, e := mutator.Parse(r.s)
	need(e == api.OK, e)
	r.s = ""
	return api.Act{Kind: api.ActMutate, Who: who, Mutator: m}
}

// watching reads ActSubscribe.
func watching(r *reader) api.Act {
	a := api.Act{Kind: api.ActSubscribe, Who: r.number()}
	r.blank()
	switch r.word() {
	case "prefix":
		a.Query = api.Query{Kind: api.QueryPrefix, Lo: r.quote()}
	case "range":
		lo := r.quote()
		a.Query = api.Query{Kind: api.QueryRange, Lo: lo, Hi: r.quote()}
	case "from":
		a.Query = api.Query{Kind: api.QueryRange, Lo: r.quote(), Open: true}
	default:
		need(false, api.ErrSyntax)
	}
	return a
}

// word reads what goes up to the next blank, or to the line's end.
func (r *reader) word() string {
	w, _, _ := strings.Cut(r.s, " ")
	r.s = r.s[len(w):]
	return w
}

// blank reads a blank, that has to stand there.
func (r *reader) blank() {
	rest, ok := strings.CutPrefix(r.s, " ")
	need(ok, api.ErrSyntax)
	r.s = rest
}

// number reads a number, with a blank ahead of it.
func (r *reader) number() int {
	r.blank()
	w := r.word()
	need(w != "" && len(w) <= mostDigits && strings.Trim(w, "0123456789") == "", api.ErrSyntax)
	need(w == "0" || w[0] != '0', api.ErrSyntax)
	n, err := strconv.Atoi(w)
	need(err == nil, api.ErrSyntax)
	return n
}

// quote reads a quote, with a blank ahead of it.
func (r *reader) quote() string {
	r.blank()
	s, end, e := utf.Unquote(r.s, 0)
	need(e == api.OK, e)
	r.s = r.s[end:]
	return s
}

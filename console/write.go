package console

import (
	"strings"

	"commonplace/api"
	"commonplace/mutator"
	"commonplace/subs"
	"commonplace/utf"
)

// Write is the command's line.
func Write(c api.Command) (string, api.Errno) {
	if !bare(c) || !counted(c.A, c.B, c.Act.Who, c.Act.At, c.Act.N) {
		return "", api.ErrArg
	}
	if !utf.Valid(c.Act.Query.Lo) || !utf.Valid(c.Act.Query.Hi) {
		return "", api.ErrUTF
	}
	switch c.Kind {
	case api.CmdWorld:
		return line("world", number(c.A), number(c.B)), api.OK
	case api.CmdAct:
		return written(c.Act)
	case api.CmdHead:
		return line("head", number(c.A)), api.OK
	case api.CmdView:
		return line("view", number(c.A)), api.OK
	case api.CmdStore:
		return "store", api.OK
	case api.CmdLetters:
		return "letters", api.OK
	case api.CmdResult:
		return line("result", number(c.A), number(c.B)), api.OK
	case api.CmdRound:
		return line("round", number(c.A)), api.OK
	case api.CmdSettle:
		return line("settle", number(c.A)), api.OK
	}
	return "judge", api.OK
}

// line is parts, with a blank between two.
func line(parts ...string) string {
	return strings.Join(parts, " ")
}

// written is an act's line, that names what it has to.
func written(a api.Act) (string, api.Errno) {
	switch a.Kind {
	case api.ActMutate:
		s, e := mutator.Text(a.Mutator)
		if e != api.OK {
			return "", e
		}
		return line("do", number(a.Who), s), api.OK
	case api.ActPush:
		return line("push", number(a.Who), number(a.N)), api.OK
	case api.ActPull:
		return line("pull", number(a.Who)), api.OK
	case api.ActDeliver:
		return line("deliver", number(a.At)), api.OK
	case api.ActDrop:
		return line("drop", number(a.At)), api.OK
	case api.ActDouble:
		return line("double", number(a.At)), api.OK
	case api.ActSpoil:
		return line("spoil", number(a.At), number(a.N), number(int(a.Mask))), api.OK
	case api.ActSave:
		return line("save", number(a.Who)), api.OK
	case api.ActCrash:
		return line("crash", number(a.Who)), api.OK
	case api.ActSubscribe:
		return line("watch", number(a.Who), asked(a.Query)), api.OK
	}
	return line("cancel", number(a.Who), number(a.N)), api.OK
}

// asked is what a query is behind watch.
func asked(q api.Query) string {
	switch {
	case q.Kind == api.QueryPrefix:
		return line("prefix", quote(q.Lo))
	case q.Open:
		return line("from", quote(q.Lo))
	}
	return line("range", quote(q.Lo), quote(q.Hi))
}

// counted: are these all numbers of lines?
func counted(l ...int) bool {
	for _, n := range l {
		if n < 0 || n > mostNumber {
			return false
		}
	}
	return true
}

// bare: is the command's Kind one, and has it nothing that this does not name?
func bare(c api.Command) bool {
	switch c.Kind {
	case api.CmdWorld, api.CmdResult:
		c.A, c.B = 0, 0
	case api.CmdHead, api.CmdView, api.CmdRound, api.CmdSettle:
		c.A = 0
	case api.CmdAct:
		if !bareAct(c.Act) {
			return false
		}
		c.Act = api.Act{}
	case api.CmdStore, api.CmdLetters, api.CmdJudge:
	default:
		return false
	}
	return c.A == 0 && c.B == 0 && c.Act.Kind == 0 && unnamed(c.Act)
}

// bareAct: is the act's Kind one, and has it nothing that this does not name, and a query that may be?
func bareAct(a api.Act) bool {
	switch a.Kind {
	case api.ActMutate:
		a.Who, a.Mutator = 0, api.Mutator{}
	case api.ActPush, api.ActCancel:
		a.Who, a.N = 0, 0
	case api.ActPull, api.ActSave, api.ActCrash:
		a.Who = 0
	case api.ActDeliver, api.ActDrop, api.ActDouble:
		a.At = 0
	case api.ActSpoil:
		a.At, a.N, a.Mask = 0, 0, 0
	case api.ActSubscribe:
		if subs.May(a.Query) != api.OK {
			return false
		}
		a.Who, a.Query = 0, api.Query{}
	default:
		return false
	}
	return unnamed(a)
}

// unnamed: has an act nothing beside its Kind?
func unnamed(a api.Act) bool {
	m := a.Mutator
	return a.Who == 0 && a.At == 0 && a.N == 0 && a.Mask == 0 && a.Query == api.Query{} &&
		m.Kind == 0 && m.Key == "" && m.To == "" && m.Int == 0 && !m.Had && zero(m.Was) && !m.Has && zero(m.Value) && len(m.List) == 0
}

// zero: is a value a zero one?
func zero(v api.Value) bool {
	return v.Kind == 0 && !v.Bool && v.Int == 0 && v.Text == "" && len(v.List) == 0 && len(v.Object) == 0
}

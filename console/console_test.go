package console

import (
	"fmt"
	"math/rand"
	"reflect"
	"strings"
	"testing"

	"commonplace/api"
	"commonplace/mutator"
	"commonplace/oracle"
)

func num(i int) api.Value { return api.Value{Kind: api.Int, Int: int64(i)} }

// P32.1
func TestWord(t *testing.T) {
	for e, want := range map[api.Errno]string{api.OK: "ok", api.ErrNil: "nil", api.ErrArg: "arg", api.ErrUTF: "utf", api.ErrSyntax: "syntax", api.ErrDeep: "deep", api.ErrLong: "long", api.ErrNum: "num", api.ErrKey: "key", api.ErrKind: "kind", api.ErrField: "field", api.ErrSum: "sum", api.ErrNone: "none", api.ErrState: "state", api.ErrGap: "gap", api.ErrOld: "old", api.ErrBase: "base", api.ErrRange: "range", api.ErrFull: "full", 19: "-", -1: "-", 1 << 40: "-"} {
		if w := Word(e); w != want {
			t.Error(e, w)
		}
	}
}

// commands are commands by their own lines.
func commands() map[string]api.Command {
	act := func(a api.Act) api.Command { return api.Command{Kind: api.CmdAct, Act: a} }
	return map[string]api.Command{
		"world 1 5":              {Kind: api.CmdWorld, A: 1, B: 5},
		"world 0 999999999":      {Kind: api.CmdWorld, B: 999999999},
		"head 2":                 {Kind: api.CmdHead, A: 2},
		"view 0":                 {Kind: api.CmdView},
		"round 3":                {Kind: api.CmdRound, A: 3},
		"settle 64":              {Kind: api.CmdSettle, A: 64},
		"result 1 2":             {Kind: api.CmdResult, A: 1, B: 2},
		"store":                  {Kind: api.CmdStore},
		"letters":                {Kind: api.CmdLetters},
		"judge":                  {Kind: api.CmdJudge},
		"push 1 9":               act(api.Act{Kind: api.ActPush, Who: 1, N: 9}),
		"cancel 2 1":             act(api.Act{Kind: api.ActCancel, Who: 2, N: 1}),
		"pull 1":                 act(api.Act{Kind: api.ActPull, Who: 1}),
		"save 1":                 act(api.Act{Kind: api.ActSave, Who: 1}),
		"crash 1":                act(api.Act{Kind: api.ActCrash, Who: 1}),
		"deliver 0":              act(api.Act{Kind: api.ActDeliver}),
		"drop 1":                 act(api.Act{Kind: api.ActDrop, At: 1}),
		"double 12":              act(api.Act{Kind: api.ActDouble, At: 12}),
		"spoil 1 2 255":          act(api.Act{Kind: api.ActSpoil, At: 1, N: 2, Mask: 255}),
		`watch 1 prefix "a "`:    act(api.Act{Kind: api.ActSubscribe, Who: 1, Query: api.Query{Kind: api.QueryPrefix, Lo: "a "}}),
		`watch 1 prefix ""`:      act(api.Act{Kind: api.ActSubscribe, Who: 1, Query: api.Query{Kind: api.QueryPrefix}}),
		`watch 1 range "b" "\n"`: act(api.Act{Kind: api.ActSubscribe, Who: 1, Query: api.Query{Kind: api.QueryRange, Lo: "b", Hi: "\n"}}),
		`watch 1 from "é"`:       act(api.Act{Kind: api.ActSubscribe, Who: 1, Query: api.Query{Kind: api.QueryRange, Lo: "é", Open: true}}),
		`do 1 {"args":{"by":2,"key":"n"},"name":"inc"}`: act(api.Act{Kind: api.ActMutate, Who: 1, Mutator: api.Mutator{Kind: api.MutInc, Key: "n", Int: 2}}),
		`do 999999999 {"args":{"do":[]},"name":"seq"}`:  act(api.Act{Kind: api.ActMutate, Who: 999999999, Mutator: api.Mutator{Kind: api.MutSeq}}),
	}
}

func TestReadWrite(t *testing.T) {
	for line, want := range commands() {
		c, e := Read(line)
		if e != api.OK || !reflect.DeepEqual(c, want) {
			t.Errorf("%s: %v %v", line, c, e)
		}
		s, e := Write(want)
		if e != api.OK || s != line {
			t.Errorf("%s: %s %v", line, s, e)
		}
	}
	for line, own := range map[string]string{`do 1 {"name":"inc","args":{"key":"n","by":2}} `: `do 1 {"args":{"by":2,"key":"n"},"name":"inc"}`, `watch 1 range "\u0061" "\/"`: `watch 1 range "a" "/"`, "do 1  \t{\"name\":\"del\",\"args\":{\"key\":\"n\"}}": `do 1 {"args":{"key":"n"},"name":"del"}`} {
		c, e := Read(line)
		s, f := Write(c)
		if e != api.OK || f != api.OK || s != own {
			t.Errorf("%s: %s %v %v", line, s, e, f)
		}
	}
}

func TestReadErrors(t *testing.T) {
	for line, want := range map[string]api.Errno{
		"": api.ErrSyntax, " ": api.ErrSyntax, "go": api.ErrSyntax, " store": api.ErrSyntax, "store ": api.ErrSyntax, "store 1": api.ErrSyntax, "Store": api.ErrSyntax, "store\t": api.ErrSyntax,
		"world": api.ErrSyntax, "world 1": api.ErrSyntax, "world 1 ": api.ErrSyntax, "world 1 2 ": api.ErrSyntax, "world 1 2 3": api.ErrSyntax, "world  1 2": api.ErrSyntax, "world 1  2": api.ErrSyntax, "world 01 2": api.ErrSyntax, "world -1 2": api.ErrSyntax, "world +1 2": api.ErrSyntax, "world 1000000000 2": api.ErrSyntax, "world 1 0000000001": api.ErrSyntax, "world 1 00": api.ErrSyntax, "world 1 a": api.ErrSyntax, "world 1 1a": api.ErrSyntax,
		"head": api.ErrSyntax, "head x": api.ErrSyntax, "head 1 2": api.ErrSyntax, "pull 1 ": api.ErrSyntax, "push 1": api.ErrSyntax, "deliver -1": api.ErrSyntax,
		"spoil 1 2": api.ErrSyntax, "spoil 1 2 256": api.ErrRange, "spoil 1 2 256 x": api.ErrRange, "spoil 1 2 255 x": api.ErrSyntax, "spoil 1 2 1000000000": api.ErrSyntax, "spoil x 2 256": api.ErrSyntax,
		"do": api.ErrSyntax, "do 1": api.ErrSyntax, "do 1 ": api.ErrSyntax, "do x {}": api.ErrSyntax, "do 1 {}": api.ErrField, "do 1 1": api.ErrKind, `do 1 {"args":{},"name":"x"}`: api.ErrNone, `do 1 {"args":{"key":""},"name":"del"}`: api.ErrKey, `do 1 {"args":{"key":"a"},"name":"del"} x`: api.ErrSyntax, "do 1 \"\xff\"": api.ErrUTF,
		"watch": api.ErrSyntax, "watch 1": api.ErrSyntax, "watch 1 ": api.ErrSyntax, "watch 1 prefix": api.ErrSyntax, "watch 1 prefix ": api.ErrSyntax, `watch 1 prefix a`: api.ErrSyntax, `watch 1 prefix  "a"`: api.ErrSyntax, `watch 1 prefix "a`: api.ErrSyntax, `watch 1 prefix "a" `: api.ErrSyntax, `watch 1 prefix "a"x`: api.ErrSyntax, `watch 1 prefix "a" "b"`: api.ErrSyntax, `watch 1 prefix "\ud800"`: api.ErrUTF, "watch 1 prefix \"\xff\"": api.ErrUTF, `watch 1 prefix "\q"`: api.ErrSyntax,
		`watch 1 range "a"`: api.ErrSyntax, `watch 1 range "a""b"`: api.ErrSyntax, `watch 1 range "a" "\udc00"`: api.ErrUTF, `watch 1 from`: api.ErrSyntax, `watch 1 to "a"`: api.ErrSyntax, `watch 1 "a"`: api.ErrSyntax, `watch 1  prefix "a"`: api.ErrSyntax, `watch x prefix "\ud800"`: api.ErrSyntax,
	} {
		if c, e := Read(line); e != want || !reflect.DeepEqual(c, api.Command{}) {
			t.Errorf("%q: %v, want %v", line, e, want)
		}
		c := New()
		c.Line("world 1 1")
		if l := c.Line(line); !reflect.DeepEqual(l, []string{"? " + Word(want)}) {
			t.Errorf("%q: %q", line, l)
		}
	}
}

func TestWriteErrors(t *testing.T) {
	act := func(a api.Act) api.Command { return api.Command{Kind: api.CmdAct, Act: a} }
	del := api.Mutator{Kind: api.MutDel, Key: "a"}
	for i, x := range []struct {
		c api.Command
		e api.Errno
	}{
		{api.Command{}, api.ErrArg}, {api.Command{Kind: 11}, api.ErrArg}, {api.Command{Kind: -1}, api.ErrArg}, {act(api.Act{}), api.ErrArg}, {act(api.Act{Kind: 12}), api.ErrArg},
		{api.Command{Kind: api.CmdWorld, A: -1}, api.ErrArg}, {api.Command{Kind: api.CmdWorld, A: 1000000000}, api.ErrArg}, {api.Command{Kind: api.CmdHead, A: 1, B: 1}, api.ErrArg}, {api.Command{Kind: api.CmdStore, A: 1}, api.ErrArg}, {api.Command{Kind: api.CmdJudge, Act: api.Act{Kind: api.ActSave}}, api.ErrArg}, {api.Command{Kind: api.CmdStore, Act: api.Act{Who: 1}}, api.ErrArg}, {api.Command{Kind: api.CmdView, Act: api.Act{Mutator: del}}, api.ErrArg},
		{api.Command{Kind: api.CmdAct, A: 1, Act: api.Act{Kind: api.ActSave, Who: 1}}, api.ErrArg}, {act(api.Act{Kind: api.ActSave, Who: -1}), api.ErrArg}, {act(api.Act{Kind: api.ActSave, N: 1}), api.ErrArg}, {act(api.Act{Kind: api.ActSave, At: 1}), api.ErrArg}, {act(api.Act{Kind: api.ActSave, Mask: 1}), api.ErrArg}, {act(api.Act{Kind: api.ActSave, Mutator: del}), api.ErrArg}, {act(api.Act{Kind: api.ActSave, Query: api.Query{Kind: api.QueryPrefix}}), api.ErrArg}, {act(api.Act{Kind: api.ActSave, Mutator: api.Mutator{Value: num(1)}}), api.ErrArg},
		{act(api.Act{Kind: api.ActDeliver, Who: 1}), api.ErrArg}, {act(api.Act{Kind: api.ActDrop, At: -1}), api.ErrArg}, {act(api.Act{Kind: api.ActPush, Who: 1, N: -1}), api.ErrArg}, {act(api.Act{Kind: api.ActSpoil, At: 1, N: 1000000000, Mask: 1}), api.ErrArg}, {act(api.Act{Kind: api.ActMutate, Who: 1, N: 1, Mutator: del}), api.ErrArg},
		{act(api.Act{Kind: api.ActSubscribe, Who: 1}), api.ErrArg}, {act(api.Act{Kind: api.ActSubscribe, Who: 1, Query: api.Query{Kind: api.QueryPrefix, Hi: "\xff"}}), api.ErrArg}, {act(api.Act{Kind: api.ActSubscribe, Who: 1, Query: api.Query{Kind: api.QueryRange, Hi: "a", Open: true}}), api.ErrArg},
		{act(api.Act{Kind: api.ActSubscribe, Who: 1, Query: api.Query{Kind: api.QueryPrefix, Lo: "\xff"}}), api.ErrUTF}, {act(api.Act{Kind: api.ActSubscribe, Who: 1, Query: api.Query{Kind: api.QueryRange, Lo: "a", Hi: "\xff"}}), api.ErrUTF}, {act(api.Act{Kind: api.ActSubscribe, Who: -1, Query: api.Query{Kind: api.QueryPrefix, Lo: "\xff"}}), api.ErrArg},
		{act(api.Act{Kind: api.ActMutate, Who: 1}), api.ErrKind}, {act(api.Act{Kind: api.ActMutate, Who: 1, Mutator: api.Mutator{Kind: api.MutDel}}), api.ErrKey}, {act(api.Act{Kind: api.ActMutate, Who: -1}), api.ErrArg},
	} {
		if s, e := Write(x.c); e != x.e || s != "" {
			t.Errorf("%d: %q %v, want %v", i, s, e, x.e)
		}
	}
}

// P32.1: what a command, an act, does not name has to be zero.
func TestWriteWhatIsNotNamed(t *testing.T) {
	values := []api.Value{{Kind: 1}, {Bool: true}, {Int: 1}, {Text: "a"}, {List: []api.Value{{}}}, {Object: []api.Member{{}}}}
	changes := map[string]func(a *api.Act){
		"Who": func(a *api.Act) { a.Who++ }, "At": func(a *api.Act) { a.At++ }, "N": func(a *api.Act) { a.N++ }, "Mask": func(a *api.Act) { a.Mask = 9 },
		"Query Kind": func(a *api.Act) { a.Query.Kind = api.QueryRange }, "Query Lo": func(a *api.Act) { a.Query.Lo += "x" }, "Query Hi": func(a *api.Act) { a.Query.Hi = "x" }, "Query Open": func(a *api.Act) { a.Query.Open = true },
		"Mutator Kind": func(a *api.Act) { a.Mutator.Kind = api.MutInc }, "Mutator Key": func(a *api.Act) { a.Mutator.Key = "x" }, "Mutator To": func(a *api.Act) { a.Mutator.To = "x" }, "Mutator Int": func(a *api.Act) { a.Mutator.Int = 1 }, "Mutator Had": func(a *api.Act) { a.Mutator.Had = true }, "Mutator Has": func(a *api.Act) { a.Mutator.Has = true }, "Mutator List": func(a *api.Act) { a.Mutator.List = []api.Mutator{{}} },
	}
	for i, v := range values {
		changes[fmt.Sprint("Mutator Was ", i)] = func(a *api.Act) { a.Mutator.Was = v }
		changes[fmt.Sprint("Mutator Value ", i)] = func(a *api.Act) { a.Mutator.Value = v }
	}
	named := func(k api.ActKind, name string) bool {
		switch k {
		case api.ActMutate:
			return name == "Who" || strings.HasPrefix(name, "Mutator")
		case api.ActPush, api.ActCancel:
			return name == "Who" || name == "N"
		case api.ActPull, api.ActSave, api.ActCrash:
			return name == "Who"
		case api.ActSpoil:
			return name == "At" || name == "N" || name == "Mask"
		case api.ActSubscribe:
			return name == "Who" || name == "Query Lo" || name == "Query Kind"
		}
		return name == "At"
	}
	for line, c := range commands() {
		for name, change := range changes {
			d := c
			d.Act.Mutator = mutator.Copy(c.Act.Mutator)
			change(&d.Act)
			s, e := Write(d)
			if c.Kind == api.CmdAct && named(c.Act.Kind, name) {
				continue
			}
			if c.Act.Kind == api.ActSubscribe && c.Act.Query.Kind == api.QueryRange && strings.HasPrefix(name, "Query") {
				continue
			}
			if e != api.ErrArg || s != "" {
				t.Errorf("%s with %s: %q %v", line, name, s, e)
			}
		}
		for _, change := range []func(c *api.Command){func(c *api.Command) { c.A++ }, func(c *api.Command) { c.B++ }} {
			d := c
			change(&d)
			_, e := Write(d)
			a := d.A != c.A && (c.Kind == api.CmdHead || c.Kind == api.CmdView || c.Kind == api.CmdRound || c.Kind == api.CmdSettle)
			both := c.Kind == api.CmdWorld || c.Kind == api.CmdResult
			if !a && !both && e != api.ErrArg {
				t.Errorf("%s: %v", line, e)
			}
		}
	}
}

// say runs pairs of a line and its answers, the latter with a ';' between two.
func say(t *testing.T, c *Console, l ...string) {
	t.Helper()
	for i := 0; i < len(l); i += 2 {
		if got := strings.Join(c.Line(l[i]), "; "); got != l[i+1] {
			t.Errorf("%s: %s, want %s", l[i], got, l[i+1])
		}
	}
}

// P32.2
func TestLines(t *testing.T) {
	say(t, New(),
		"store", "? nil", "go", "? syntax", "judge", "? nil", "world 0 5", "? arg", "letters", "? nil",
		"world 1 5", "ok",
		`watch 1 prefix "n"`, "ok id 1",
		`do 1 {"name":"inc","args":{"key":"n","by":2}}`, `ok id 1; event 1 "n" - 2`,
		"save 1", "ok", "push 1 9", "ok", "letters", "letters 1; to 0 bytes 86",
		"deliver 0", "ok old 0 done 1 failed 0", "store", `store 1 keys 1; "n" 2`,
		"settle 3", "ok rounds 2 settled", "view 1", "client 1 cookie 1 last 1 next 2 saved 2 pending 0",
		"judge", "right", "head 2", "? range", "go", "? syntax",
	)
	c := New()
	say(t, c,
		"world 2 2", "ok", "world 2 0", "? arg", "head 1", "head 0", "letters", "letters 0", "store", "store 0 keys 0", "judge", "right",
		"push 1 9", "? none", "deliver 0", "? range", "drop 0", "? range", "double 0", "? range", "spoil 0 0 1", "? range", "cancel 1 1", "? none", "cancel 3 1", "? range", "result 1 1", "? none", "result 3 1", "? range", "view 0", "? range", "round 0", "? arg", "settle 65", "? arg",
		`watch 2 range "a" "c"`, "ok id 1", `watch 2 from "b"`, "ok id 2",
		`do 2 {"name":"put","args":{"key":"b\n","value":[1,"x"]}}`, `ok id 1; event 1 "b\n" - [1,"x"]; event 2 "b\n" - [1,"x"]`,
		`do 2 {"name":"del","args":{"key":"z"}}`, "? none id 2",
		`do 2 {"name":"move","args":{"from":"b","to":"d"}}`, `ok id 3; event 1 "b\n" [1,"x"] -; event 2 "b\n" [1,"x"] -; event 2 "d\n" - [1,"x"]`,
		"result 2 1", "result 0", "result 2 2", `result 1; "d\n" [1,"x"]`, "head 2", `head 1; "d\n" [1,"x"]`, "head 1", "head 0",
		"view 2", `client 2 cookie 0 last 0 next 4 saved 1 pending 3; 1 {"args":{"key":"b\n","value":[1,"x"]},"name":"put"}; 2 {"args":{"key":"z"},"name":"del"}; 3 {"args":{"from":"b","to":"d"},"name":"move"}`,
		"save 2", "ok", "push 2 2", "ok", "push 2 3", "ok", "drop 0", "ok", "double 0", "ok", "spoil 1 4 9", "ok", "letters", "letters 2; to 0 bytes 214; to 0 bytes 214 spoilt",
		"spoil 1 4 9", "? state", "spoil 0 1000 1", "? range", "spoil 0 0 0", "? arg",
		"deliver 1", "? sum", "deliver 0", "ok old 0 done 2 failed 1", "cancel 2 1", "ok", "pull 2", "ok", "deliver 0", "ok", "letters", "letters 1; to 2 bytes 112", "deliver 0", "ok", "view 2", "client 2 cookie 3 last 3 next 4 saved 4 pending 0",
		`do 2 {"name":"inc","args":{"key":"n","by":1}}`, `ok id 4; event 2 "n" - 1`, "crash 2", `ok; event 2 "n" 1 -`, `do 2 {"name":"inc","args":{"key":"n","by":5}}`, `ok id 4; event 2 "n" - 5`, "judge", "right",
		`do 1 {"name":"inc","args":{"key":"n","by":1}}`, "ok id 1", `do 1 {"name":"inc","args":{"key":"n","by":1}}`, "ok id 2", "round 1", "ok unsettled", "crash 1", "ok", "crash 2", `ok; event 2 "n" 6 5`, "judge", "right", "settle 1", "ok rounds 5 settled", "head 1", `head 2; "d\n" [1,"x"]; "n" 7`, "head 2", `head 2; "d\n" [1,"x"]; "n" 7`, "store", `store 6 keys 2; "d\n" [1,"x"]; "n" 7`, "judge", "right",
		"world 1 1", "ok", "store", "store 0 keys 0", "view 2", "? range",
	)
	var zero Console
	say(t, &zero, "store", "? nil", "world 1 1", "ok", "judge", "right")
	var none *Console
	say(t, none, "store", "? nil", "go", "? nil", "world 1 1", "? nil")
	if l := none.Run("a", "b"); !reflect.DeepEqual(l, []string{"? nil", "? nil"}) {
		t.Error(l)
	}
	if l := New().Run("world 1 1", "store", "view 1", "x"); !reflect.DeepEqual(l, []string{"ok", "store 0 keys 0", "client 1 cookie 0 last 0 next 1 saved 1 pending 0", "? syntax"}) {
		t.Error(l)
	}
	if l := New().Run(); len(l) != 0 {
		t.Error(l)
	}
}

func TestOutcome(t *testing.T) {
	for want, told := range map[string]api.Told{
		"ok": {}, "? none": {Code: api.ErrNone}, "? - id 7": {Code: 99, ID: 7}, "ok id 18446744073709551615": {ID: 1<<64 - 1},
		"ok old 0 done 0 failed 0 gap": {Accepted: api.Accepted{Gap: true}}, "? sum id 1 old 1 done 2 failed 3 gap": {Code: api.ErrSum, ID: 1, Accepted: api.Accepted{Old: 1, Done: 2, Failed: 3, Gap: true}}, "ok old 0 done 0 failed 1": {Accepted: api.Accepted{Failed: 1}},
	} {
		if s := outcome(told); s != want {
			t.Errorf("%s, want %s", s, want)
		}
	}
}

// An oracle that has not followed what happened finds it wrong.
func TestJudgeWrong(t *testing.T) {
	c := New()
	c.Run("world 2 5", `do 2 {"name":"inc","args":{"key":"n","by":1}}`)
	c.oracle, _ = oracle.New(2)
	say(t, c, "judge", "wrong 2 gap", "settle 1", "ok rounds 2 settled", "judge", "right")
	c.oracle, _ = oracle.New(3)
	say(t, c, "judge", "wrong 0 range")
}

func randomLine(rnd *rand.Rand) string {
	n := func(most int) string { return fmt.Sprint(rnd.Intn(most)) }
	k := []string{"a", "b", "a/1"}[rnd.Intn(3)]
	m := []string{`{"name":"inc","args":{"key":"` + k + `","by":1}}`, `{"name":"del","args":{"key":"` + k + `"}}`, `{"name":"move","args":{"from":"a","to":"b"}}`, `{"name":"append","args":{"key":"l","value":null}}`, `{}`}[rnd.Intn(5)]
	lines := []string{"do " + n(5) + " " + m, "do " + n(4) + " " + m, "push " + n(4) + " " + n(5), "pull " + n(4), "save " + n(4), "crash " + n(4), "deliver " + n(4), "deliver " + n(2), "drop " + n(4), "double " + n(4), "spoil " + n(4) + " " + n(99) + " " + n(300), "watch " + n(4) + ` prefix "a"`, "cancel " + n(4) + " " + n(3), "round " + n(4), "go"}
	return lines[rnd.Intn(len(lines))]
}

// P32.3
func TestWhatFollows(t *testing.T) {
	for seed := range 20 {
		rnd := rand.New(rand.NewSource(int64(seed)))
		c := New()
		say(t, c, "judge", "? nil", fmt.Sprintf("world %d %d", 1+rnd.Intn(3), 1+rnd.Intn(4)), "ok")
		for range 150 {
			c.Line(randomLine(rnd))
			if l := c.Line("judge"); l[0] != "right" {
				t.Fatal(l)
			}
		}
		if l := c.Line("settle " + fmt.Sprint(1+rnd.Intn(4))); !strings.HasSuffix(l[0], " settled") {
			t.Fatal(l)
		}
		store := c.Line("store")
		for who := 1; who <= c.world.Clients(); who++ {
			if head := c.Line(fmt.Sprint("head ", who)); !reflect.DeepEqual(head[1:], store[1:]) {
				t.Fatal(head, store)
			}
		}
		say(t, c, "judge", "right")
	}
}

func TestReadOfWrite(t *testing.T) {
	rnd := rand.New(rand.NewSource(33))
	texts := []string{"", "a", " ", "\"", "é\n", "\u2028"}
	for range 2000 {
		n := func() int { return rnd.Intn(1000000000) >> rnd.Intn(30) }
		a := api.Act{Kind: api.ActKind(1 + rnd.Intn(11))}
		switch a.Kind {
		case api.ActMutate:
			a.Who, a.Mutator = n(), api.Mutator{Kind: api.MutCas, Key: "k", Had: true, Was: api.Value{Kind: api.Text, Text: texts[rnd.Intn(6)]}}
		case api.ActPush, api.ActCancel:
			a.Who, a.N = n(), n()
		case api.ActPull, api.ActSave, api.ActCrash:
			a.Who = n()
		case api.ActSpoil:
			a.At, a.N, a.Mask = n(), n(), byte(rnd.Intn(256))
		case api.ActSubscribe:
			a.Who, a.Query = n(), api.Query{Kind: api.QueryKind(1 + rnd.Intn(2)), Lo: texts[rnd.Intn(6)]}
			if a.Query.Kind == api.QueryRange {
				a.Query.Hi = texts[rnd.Intn(6)]
				a.Query.Open = a.Query.Hi == ""
			}
		default:
			a.At = n()
		}
		c := api.Command{Kind: api.CmdAct, Act: a}
		s, e := Write(c)
		d, f := Read(s)
		if e != api.OK || f != api.OK || !mutator.Same(d.Act.Mutator, a.Mutator) {
			t.Fatal(c, e, f)
		}
		d.Act.Mutator = a.Mutator
		if !reflect.DeepEqual(c, d) {
			t.Fatal(c, d)
		}
	}
}

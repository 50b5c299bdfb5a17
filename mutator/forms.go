package mutator

import (
	"commonplace/api"
	"commonplace/value"
)

// pair is a name, whether it need not be there, and what it has.
type pair[T any] struct {
	name string
	free bool
	has  T
}

// pairs are a list of these, by rising names.
type pairs[T any] []pair[T]

// slot is what an object has under a name, if it has that.
type slot struct {
	v  api.Value
	ok bool
}

// arg is how one of "args" is told of a mutator, if it has it, and how a mutator is made of it.
type arg struct {
	tell func(m api.Mutator) (api.Value, bool)
	read func(m *api.Mutator, v api.Value)
}

// form is what a name means.
type form struct {
	kind api.MutKind
	args pairs[arg]
}

// book has the forms of all names.
type book map[string]form

// wrong is what reading leaves by.
type wrong struct {
	e api.Errno
}

// need leaves with an error, if something does not hold.
func need(ok bool, e api.Errno) {
	if !ok {
		panic(wrong{e})
	}
}

// forms has all names.
func forms() book {
	b := book{}
	key := pair[arg]{name: "key", has: textArg(func(m *api.Mutator) *string { return &m.Key })}
	from := pair[arg]{name: "from", has: key.has}
	to := pair[arg]{name: "to", has: textArg(func(m *api.Mutator) *string { return &m.To })}
	is := pair[arg]{name: "is", free: true, has: freeArg(func(m *api.Mutator) (*bool, *api.Value) { return &m.Has, &m.Value })}
	was := pair[arg]{name: "was", free: true, has: freeArg(func(m *api.Mutator) (*bool, *api.Value) { return &m.Had, &m.Was })}
	b["put"] = form{api.MutPut, pairs[arg]{key, {name: "value", has: valueArg()}}}
	b["del"] = form{api.MutDel, pairs[arg]{key}}
	b["inc"] = form{api.MutInc, pairs[arg]{{name: "by", has: intArg()}, key}}
	b["cas"] = form{api.MutCas, pairs[arg]{is, key, was}}
	b["append"] = form{api.MutAppend, pairs[arg]{key, {name: "value", has: valueArg()}}}
	b["move"] = form{api.MutMove, pairs[arg]{from, to}}
	b["seq"] = form{api.MutSeq, pairs[arg]{{name: "do", has: listArg(b)}, {name: "if", free: true, has: guardArg(pairs[arg]{key, was})}}}
	return b
}

// name is a Kind's in a book.
func name(k api.MutKind) string {
	switch k {
	case api.MutPut:
		return "put"
	case api.MutDel:
		return "del"
	case api.MutInc:
		return "inc"
	case api.MutCas:
		return "cas"
	case api.MutAppend:
		return "append"
	case api.MutMove:
		return "move"
	}
	return "seq"
}

// textArg is a Text that stands in a place of the mutator.
func textArg(place func(m *api.Mutator) *string) arg {
	return arg{
		tell: func(m api.Mutator) (api.Value, bool) {
			return api.Value{Kind: api.Text, Text: *place(&m)}, true
		},
		read: func(m *api.Mutator, v api.Value) {
			need(v.Kind == api.Text, api.ErrKind)
			*place(m) = v.Text
		},
	}
}

// freeArg is a value that need not be there: whether it is, and it, stand in places of the mutator.
func freeArg(places func(m *api.Mutator) (*bool, *api.Value)) arg {
	return arg{
		tell: func(m api.Mutator) (api.Value, bool) {
			ok, v := places(&m)
			return value.Copy(*v), *ok
		},
		read: func(m *api.Mutator, v api.Value) {
			there, place := places(m)
			*there, *place = true, value.Copy(v)
		},
	}
}

// valueArg is the Value.
func valueArg() arg {
	return arg{
		tell: func(m api.Mutator) (api.Value, bool) { return value.Copy(m.Value), true },
		read: func(m *api.Mutator, v api.Value) { m.Value = value.Copy(v) },
	}
}

// intArg is the Int.
func intArg() arg {
	return arg{
		tell: func(m api.Mutator) (api.Value, bool) { return api.Value{Kind: api.Int, Int: m.Int}, true },
		read: func(m *api.Mutator, v api.Value) {
			need(v.Kind == api.Int, api.ErrKind)
			m.Int = v.Int
		},
	}
}

// listArg is the List.
func listArg(b book) arg {
	return arg{
		tell: func(m api.Mutator) (api.Value, bool) {
			v := api.Value{Kind: api.List}
			for _, n := range m.List {
				v.List = append(v.List, b.object(n))
			}
			return v, true
		},
		read: func(m *api.Mutator, v api.Value) {
			need(v.Kind == api.List, api.ErrKind)
			for _, w := range v.List {
				m.List = append(m.List, b.mutator(w))
			}
		},
	}
}

// guardArg is what must be: an object of these.
func guardArg(l pairs[arg]) arg {
	return arg{
		tell: func(m api.Mutator) (api.Value, bool) {
			return object(l, m), m.Key != ""
		},
		read: func(m *api.Mutator, v api.Value) {
			fill(l, m, v)
			need(m.Key != "", api.ErrKey)
		},
	}
}

// match is what an object has under the names; it has to have just these.
func (l pairs[T]) match(v api.Value) []slot {
	need(v.Kind == api.Object, api.ErrKind)
	rest := v.Object
	var out []slot
	for _, p := range l {
		s := slot{ok: len(rest) > 0 && rest[0].Key == p.name}
		need(s.ok || p.free, api.ErrField)
		if s.ok {
			s.v, rest = rest[0].Value, rest[1:]
		}
		out = append(out, s)
	}
	need(len(rest) == 0, api.ErrField)
	return out
}

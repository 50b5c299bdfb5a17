package mutator

import "commonplace/api"

// object is a mutator's, that may be.
func (b book) object(m api.Mutator) api.Value {
	n := name(m.Kind)
	return api.Value{Kind: api.Object, Object: []api.Member{
		{Key: "args", Value: object(b[n].args, m)},
		{Key: "name", Value: api.Value{Kind: api.Text, Text: n}},
	}}
}

// object has what these tell of a mutator.
func object(l pairs[arg], m api.Mutator) api.Value {
	v := api.Value{Kind: api.Object}
	for _, p := range l {
		if w, ok := p.has.tell(m); ok {
			v.Object = append(v.Object, api.Member{Key: p.name, Value: w})
		}
	}
	return v
}

// read is the mutator of a value that may be: it is not asked whether the mutator may be.
func read(v api.Value) (m api.Mutator, e api.Errno) {
	defer func() {
		if w, ok := recover().(wrong); ok {
			m, e = api.Mutator{}, w.e
		}
	}()
	return forms().mutator(v), api.OK
}

// mutator reads one.
func (b book) mutator(v api.Value) api.Mutator {
	parts := pairs[int]{{name: "args"}, {name: "name"}}.match(v)
	args, n := parts[0].v, parts[1].v
	need(n.Kind == api.Text, api.ErrKind)
	f, ok := b[n.Text]
	need(ok, api.ErrNone)
	m := api.Mutator{Kind: f.kind}
	fill(f.args, &m, args)
	return m
}

// fill reads what a mutator has by these from an object of just these.
func fill(l pairs[arg], m *api.Mutator, v api.Value) {
	for i, s := range l.match(v) {
		if s.ok {
			l[i].has.read(m, s.v)
		}
	}
}

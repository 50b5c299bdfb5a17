package save

import (
	"commonplace/api"
	"commonplace/freeze"
	"commonplace/mutator"
	"commonplace/value"
)

// reader is the image, as it is read part by part.
type reader struct {
	image api.Image
}

// part is a member, and what reads it.
type part struct {
	key  string
	read func(r *reader, v api.Value) api.Errno
}

// parts are the six, in the order in which they are read.
func parts() []part {
	return []part{
		{"client", (*reader).client},
		{"cookie", (*reader).cookie},
		{"last", (*reader).last},
		{"next", (*reader).next},
		{"base", (*reader).base},
		{"pending", (*reader).pending},
	}
}

// read is the image of an object; whether it may be is not asked.
func read(v api.Value) (api.Image, api.Errno) {
	if e := just(v, "base", "client", "cookie", "last", "next", "pending"); e != api.OK {
		return api.Image{}, e
	}
	var r reader
	e := api.OK
reading:
	for _, p := range parts() {
		m, _ := value.Member(v, p.key)
		if e = p.read(&r, m); e != api.OK {
			break reading
		}
	}
	return r.image, e
}

// just is why a value is no object that has just these members, by rising keys.
func just(v api.Value, keys ...string) api.Errno {
	if v.Kind != api.Object {
		return api.ErrKind
	}
	if len(v.Object) != len(keys) {
		return api.ErrField
	}
	for i, m := range v.Object {
		if m.Key != keys[i] {
			return api.ErrField
		}
	}
	return api.OK
}

// number puts an Int's number where it belongs.
func number(v api.Value, place *uint64) api.Errno {
	if v.Kind != api.Int {
		return api.ErrKind
	}
	*place = uint64(v.Int)
	return api.OK
}

func (r *reader) client(v api.Value) api.Errno {
	return number(v, &r.image.Client)
}

func (r *reader) cookie(v api.Value) api.Errno {
	return number(v, &r.image.Cookie)
}

func (r *reader) last(v api.Value) api.Errno {
	return number(v, &r.image.Last)
}

func (r *reader) next(v api.Value) api.Errno {
	return number(v, &r.image.Next)
}

func (r *reader) base(v api.Value) api.Errno {
	t, e := freeze.From(v)
	r.image.Base = t.Entries()
	return e
}

func (r *reader) pending(v api.Value) api.Errno {
	if v.Kind != api.List {
		return api.ErrKind
	}
	for _, w := range v.List {
		if e := just(w, "id", "mutator"); e != api.OK {
			return e
		}
		var n api.Numbered
		if e := number(w.Object[0].Value, &n.ID); e != api.OK {
			return e
		}
		m, e := mutator.Of(w.Object[1].Value)
		if e != api.OK {
			return e
		}
		n.Mutator = m
		r.image.Pending = append(r.image.Pending, n)
	}
	return api.OK
}

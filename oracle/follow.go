package oracle

import (
	"commonplace/api"
	"commonplace/mutator"
)

// Oracle follows clients, and knows what each one issued. A zero one follows none.
type Oracle struct {
	clients int
	issued  map[int][]api.Numbered
	saved   map[int]int // how many of these were issued when a client saved last
}

// New is an oracle that follows so many clients.
func New(clients int) (*Oracle, api.Errno) {
	if clients < 1 || clients > api.MaxClients {
		return nil, api.ErrArg
	}
	return &Oracle{clients: clients, issued: map[int][]api.Numbered{}, saved: map[int]int{}}, api.OK
}

// follows: is it a client that is followed?
func (o *Oracle) follows(who int) bool {
	return o != nil && who >= 1 && who <= o.clients
}

// Note follows an act, and what it came to.
func (o *Oracle) Note(a api.Act, t api.Told) {
	if !o.follows(a.Who) {
		return
	}
	l := o.issued[a.Who]
	switch {
	case a.Kind == api.ActMutate && t.ID > 0:
		o.issued[a.Who] = append(l, api.Numbered{ID: t.ID, Mutator: mutator.Copy(a.Mutator)})
	case a.Kind == api.ActSave:
		o.saved[a.Who] = len(l)
	case a.Kind == api.ActCrash:
		o.issued[a.Who] = l[:o.saved[a.Who]]
	}
}

// Issued is what a client issued.
func (o *Oracle) Issued(who int) []api.Numbered {
	if !o.follows(who) {
		return nil
	}
	var l []api.Numbered
	for _, n := range o.issued[who] {
		l = append(l, api.Numbered{ID: n.ID, Mutator: mutator.Copy(n.Mutator)})
	}
	return l
}

// Judge is who is wrong, and why.
func (o *Oracle) Judge(s api.Store, l []api.View) (int, api.Errno) {
	if o == nil {
		return 0, api.ErrNil
	}
	at, e := store(s)
	if e != api.OK {
		return 0, e
	}
	for i, v := range l {
		who := i + 1
		if v.Image.Client != uint64(who) {
			return who, api.ErrArg
		}
		if e := client(s.Ran, at, o.issued[who], v); e != api.OK {
			return who, e
		}
	}
	if len(l) != o.clients {
		return 0, api.ErrRange
	}
	return 0, api.OK
}

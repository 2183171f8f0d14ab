package read

import "bracken/api"

// declared is what is declared of the attributes of one element.
type declared struct {
	types    map[string]int // by the attribute's name
	defaults []api.Att      // those that have one, in their order
}

// declaredOf is what l declares of the attributes of elem.
func declaredOf(elem string, l []api.Att) *declared {
	d := &declared{}
	for _, a := range l {
		if a.Elem == elem {
			d.declare(a)
		}
	}
	return d
}

// declaredBy is what l declares, by elements: there may be very many of these, and very many declarations.
func declaredBy(l []api.Att) map[string]*declared {
	by := map[string]*declared{}
	for _, a := range l {
		if by[a.Elem] == nil {
			by[a.Elem] = &declared{}
		}
		by[a.Elem].declare(a)
	}
	return by
}

// declare takes a in: of those with one name the first tells the type.
func (d *declared) declare(a api.Att) {
	if d.types == nil {
		d.types = map[string]int{}
	}
	if _, is := d.types[a.Name]; !is {
		d.types[a.Name] = a.Type
	}
	if a.Has {
		d.defaults = append(d.defaults, a)
	}
}

// kind is the type of the attribute of that name.
func (d *declared) kind(name string) int {
	if d == nil {
		return api.ACData
	}
	if kind, is := d.types[name]; is {
		return kind
	}
	return api.ACData
}

// given are the attributes that stand where an element does not tell them.
func (d *declared) given() []api.Att {
	if d == nil {
		return nil
	}
	return d.defaults
}

package value

import (
	"math"
	"slices"

	"workflow/api"
	"workflow/wire"
)

// Encode appends the encoding of a value.
func Encode(b []byte, v api.Value) []byte {
	out := slices.Clone(b)
	if !wellFormed(v) {
		return out
	}
	return encode(out, v)
}

// encode appends to b itself. The functions of wire copy what they append to, so they get only nil.
func encode(b []byte, v api.Value) []byte {
	b = append(b, wire.PutInt(nil, v.Kind)...)
	switch v.Kind {
	case api.VBool, api.VInt, api.VFuture:
		b = append(b, wire.PutInt(nil, v.Int)...)
	case api.VText:
		b = append(b, wire.PutText(nil, v.Text)...)
	case api.VList, api.VMap:
		b = append(b, wire.PutInt(nil, len(v.Items))...)
	}
	for i, item := range v.Items {
		if v.Kind == api.VMap {
			b = append(b, wire.PutText(nil, v.Keys[i])...)
		}
		b = encode(b, item)
	}
	return b
}

// Decode reads a valid payload.
func Decode(r *wire.Reader) api.Value {
	d := decoder{r: r}
	v := d.value(1)
	if r.Err() != api.OK {
		return api.Value{}
	}
	return v
}

// decoder reads one value. After an error its results mean nothing: the reader keeps the first error, and Decode asks for it
// in the end.
type decoder struct {
	r     *wire.Reader
	begun int
}

func (d *decoder) value(depth int) api.Value {
	d.require(d.begun < api.MaxNodes && depth <= api.MaxDepth)
	d.begun++
	v := api.Value{Kind: d.int()}
	switch v.Kind {
	case api.VNull:
	case api.VBool:
		v.Int = d.int()
		d.require(v.Int == 0 || v.Int == 1)
	case api.VInt:
		v.Int = d.int()
	case api.VText:
		v.Text = d.text()
	case api.VList, api.VMap:
		d.items(&v, depth+1)
	default:
		d.require(false)
	}
	return v
}

// items reads the items of a list, or the keys and items of a map, into v.
func (d *decoder) items(v *api.Value, depth int) {
	count := d.int()
	d.require(count >= 0 && count <= api.MaxNodes)
	for i := 0; i < count && d.r.Err() == api.OK; i++ {
		if v.Kind == api.VMap {
			key := d.text()
			d.require(i == 0 || v.Keys[i-1] < key)
			v.Keys = append(v.Keys, key)
		}
		v.Items = append(v.Items, d.value(depth))
	}
}

func (d *decoder) int() int {
	return d.r.Int(math.MinInt, math.MaxInt)
}

func (d *decoder) text() string {
	s := d.r.Text(math.MaxInt)
	d.require(!isLong(s))
	return s
}

// require fails unless the condition holds. A reader that has an error already keeps it and reads nothing further.
func (d *decoder) require(holds bool) {
	if !holds {
		d.r.Fail(api.ErrForm)
	}
}

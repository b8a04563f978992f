package value

import (
	"slices"

	"workflow/api"
)

// Get returns the element of a map with a key.
func Get(v api.Value, key string) (api.Value, bool) {
	if !isMap(v) {
		return api.Value{}, false
	}
	at, found := slices.BinarySearch(v.Keys, key)
	if !found {
		return api.Value{}, false
	}
	return Copy(v.Items[at]), true
}

// Put returns a map with an element added or replaced.
func Put(v api.Value, key string, x api.Value) (api.Value, api.Errno) {
	if !isMap(v) {
		return api.Value{}, api.ErrType
	}
	v.Keys, v.Items = slices.Clone(v.Keys), slices.Clone(v.Items)
	at, found := slices.BinarySearch(v.Keys, key)
	if found {
		v.Items[at] = x
	} else {
		v.Keys = slices.Insert(v.Keys, at, key)
		v.Items = slices.Insert(v.Items, at, x)
	}
	if !withinLimits(v) {
		return api.Value{}, api.ErrSize
	}
	return Copy(v), api.OK
}

// Drop returns a map without an element.
func Drop(v api.Value, key string) (api.Value, api.Errno) {
	if !isMap(v) {
		return api.Value{}, api.ErrType
	}
	at, found := slices.BinarySearch(v.Keys, key)
	if !found {
		return api.Value{}, api.ErrNone
	}
	v = Copy(v)
	v.Keys = slices.Delete(v.Keys, at, at+1)
	v.Items = slices.Delete(v.Items, at, at+1)
	return v, api.OK
}

func isMap(v api.Value) bool {
	return v.Kind == api.VMap && wellFormed(v)
}

package modes

import "stile/api"

// The spaces of objects; from firstIndex to lastIndex each is the keys of one of a table's indexes.
const (
	catalog    = 0
	whole      = 1
	firstIndex = 2
	lastIndex  = firstIndex + api.MaxIndexes - 1
)

// Place tells whether an object may be.
func Place(o api.Object) bool {
	switch {
	case o.Space == catalog:
		return o == api.Object{}
	case o.Table == "":
		return false
	case o.Space == whole:
		return o == api.Object{Space: whole, Table: o.Table}
	case o.Space < firstIndex || o.Space > lastIndex:
		return false
	case o.End:
		return o.Hi == ""
	}
	return o.Lo <= o.Hi
}

// Meet tells whether two objects have something in common.
func Meet(a, b api.Object) bool {
	return beside(a, b) && reaches(a, b.Lo) && reaches(b, a.Lo)
}

// Within tells whether all of an object is another one's.
func Within(a, b api.Object) bool {
	if !beside(a, b) || a.Lo < b.Lo {
		return false
	}
	// What has no last key goes beyond every one that has.
	if a.End {
		return b.End
	}
	return reaches(b, a.Hi)
}

// beside tells whether two objects are right and of one space and table: then their keys alone are left to be asked. The catalog, and a table as a whole, are as if of the one key "".
func beside(a, b api.Object) bool {
	return a.Space == b.Space && a.Table == b.Table && Place(a) && Place(b)
}

// reaches tells whether an object's last key is not below a key.
func reaches(o api.Object, key string) bool {
	return o.End || key <= o.Hi
}

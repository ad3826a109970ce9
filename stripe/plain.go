package stripe

import "corncrib/api"

// size answers how many bytes each of k shards has of an object that is so long.
func size(k, long int) int { return (head + long + k - 1) / k }

// plain answers the plain bytes of an object under k.
func plain(k int, object string) []byte {
	b := make([]byte, k*size(k, len(object)))
	for i := range head {
		b[i] = byte(len(object) >> (8 * (head - 1 - i)))
	}
	copy(b[head:], object)
	return b
}

// cut answers the k data shards of an object.
func cut(k int, object string) []string {
	b := plain(k, object)
	each := len(b) / k
	l := make([]string, k)
	for i := range l {
		l[i] = string(b[i*each : (i+1)*each])
	}
	return l
}

// uncut answers the object of data shards that are as long; false, if they are none's.
func uncut(l []string) (string, bool) {
	// Shards that no object has may be so long that they are better not laid together.
	if len(l[0]) > size(len(l), api.MaxObject) {
		return "", false
	}
	all := lay(l)
	long, ok := length(all)
	if !ok {
		return "", false
	}
	object := string(all[head : head+long])
	// An object has one text of plain bytes: whatever is otherwise, length or bytes behind, is no object's.
	return object, string(plain(len(l), object)) == string(all)
}

// lay answers the shards' bytes, one behind the other.
func lay(l []string) []byte {
	var b []byte
	for _, s := range l {
		b = append(b, s...)
	}
	return b
}

// length reads the length ahead of an object; false, if there is none, or no object that is so long.
func length(all []byte) (int, bool) {
	if len(all) < head {
		return 0, false
	}
	var long uint32
	for _, b := range all[:head] {
		long = long<<8 | uint32(b)
	}
	if long > api.MaxObject || int(long) > len(all)-head {
		return 0, false
	}
	return int(long), true
}

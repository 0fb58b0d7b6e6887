package store

import (
	"maps"
	"slices"
	"strings"
)

// contents are the pairs of a store by their keys.
type contents map[string]Pair

// Get returns the value of a key, and whether it has one.
func (c contents) Get(key string) (string, bool) {
	p, ok := c[key]
	return p.Value, ok
}

// Keys returns the keys that begin with prefix, in bytewise order.
func (c contents) Keys(prefix string) []string {
	var keys []string
	for key := range c {
		if strings.HasPrefix(key, prefix) {
			keys = append(keys, key)
		}
	}
	slices.Sort(keys)
	return keys
}

// Size returns how many bytes all keys and values have.
func (c contents) Size() int {
	n := 0
	for _, p := range c {
		n += p.size()
	}
	return n
}

// change makes the changes, in order.
func (c contents) change(pairs ...Pair) {
	for _, p := range pairs {
		if p.Gone {
			delete(c, p.Key)
			continue
		}
		// Strings of the caller may be parts of much longer ones, which would be kept with them.
		key := strings.Clone(p.Key)
		c[key] = Pair{Key: key, Value: strings.Clone(p.Value)}
	}
}

// pairs returns the changes that lead to the contents, in the order of the keys, so that the log does not depend on the map's.
func (c contents) pairs() []Pair {
	return slices.SortedFunc(maps.Values(c), func(a, b Pair) int { return strings.Compare(a.Key, b.Key) })
}

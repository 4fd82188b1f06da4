package rows

import (
	"hayloft/api"
	"hayloft/value"
)

// Hash's numbers are those of the hash known as FNV-1a.
const (
	hashStart = 14695981039346656037
	hashTimes = 1099511628211
)

// Hash is a value's.
func Hash(v api.Value) uint64 {
	if !value.Right(v) {
		return 0
	}
	h := uint64(hashStart)
	b := putValue(nil, v)
	for i := range len(b) {
		h = (h ^ uint64(b[i])) * hashTimes
	}
	return h
}

// Segment tells to which of so many segments v belongs.
func Segment(v api.Value, many int) int {
	if many < 1 {
		return 0
	}
	return int(Hash(v) % uint64(many))
}

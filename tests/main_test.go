package tests

import (
	"runtime/debug"
	"testing"
)

// The tests make and drop many small lists, and most of their time went into gathering them.
func TestMain(m *testing.M) {
	debug.SetGCPercent(1600)
	m.Run()
}

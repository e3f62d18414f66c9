package tests

import (
	"runtime/debug"
	"testing"
)

// The tests make and drop many small lists, and most of their time went into gathering them. A few
// make large ones: then they are gathered in time.
func TestMain(m *testing.M) {
	debug.SetGCPercent(1600)
	debug.SetMemoryLimit(1 << 30)
	m.Run()
}

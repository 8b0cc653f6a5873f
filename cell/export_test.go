package cell

// SetClock has the clock of m be that: no test can wait for 2^40 calls of Advance.
func SetClock[T any](m *Memory[T], clock int64) { m.clock = clock }

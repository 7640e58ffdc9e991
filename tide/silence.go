package tide

// silence is for how many ticks a part has sent nothing.
type silence struct{ ticks int }

// lengthen stops at maxIdle: no config tells longer silences apart.
func (s *silence) lengthen() { s.ticks = min(s.ticks+1, maxIdle) }

func (s *silence) breakSilence() { s.ticks = 0 }

// isIdle tells whether the silence has lasted for the ticks that make a part idle; 0 of them never do.
func (s silence) isIdle(idle int) bool { return idle > 0 && s.ticks >= idle }

package locks

import "poste/api"

// counters count the holders and waiters of all locks; one that holds a lock
// and waits for more of it counts once there.
type counters struct{ count int }

// full tells whether there may be no more of them.
func (c *counters) full() bool { return c.count >= api.MaxLocks }

// come counts one that holds a lock, or waits for one, and did neither so far.
func (c *counters) come() { c.count++ }

// leave counts one out that did.
func (c *counters) leave() { c.count-- }

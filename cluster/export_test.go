package cluster

import "grapevine/disk"

// Disk is a node's disk, so that a test can spoil what is kept there, which no op does.
func (c *Cluster) Disk(i int) *disk.Disk { return c.machines[i].disk }

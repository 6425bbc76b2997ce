package tests

import (
	"slices"

	"loop.example/g00141/impl"
)

// The slow way of chapter 19: written from the document's words, one behind the other, beside the program. What it asks of disks it asks of chapter 5.

func slowOneLeader(c impl.Cluster) bool {
	for _, a := range c.Leaders {
		for _, b := range c.Leaders {
			if a.Term == b.Term && a.Node != b.Node {
				return false
			}
		}
	}
	return true
}

func slowLogsMatch(c impl.Cluster) bool {
	for _, a := range c.Machines {
		for _, b := range c.Machines {
			for at := range min(len(a.Node.Log), len(b.Node.Log)) {
				if a.Node.Log[at].Term != b.Node.Log[at].Term {
					continue
				}
				for ahead := range at + 1 {
					if a.Node.Log[ahead] != b.Node.Log[ahead] {
						return false
					}
				}
			}
		}
	}
	return true
}

func slowChosenKept(c impl.Cluster) bool {
	for _, m := range c.Machines {
		for at := range m.Node.Commit {
			if at >= int64(len(c.Chosen)) || m.Node.Log[at] != c.Chosen[at] {
				return false
			}
		}
	}
	return true
}

func slowStatesAlike(c impl.Cluster) bool {
	for _, a := range c.Machines {
		for _, b := range c.Machines {
			if a.Done == b.Done && rawState(a.State) != rawState(b.State) {
				return false
			}
		}
	}
	return true
}

// slowDoneBy is what entries do, one by one, beginning with the zero value.
func slowDoneBy(entries []impl.Entry) impl.State {
	var s impl.State
	for _, e := range entries {
		if cmd, ok := impl.ReadCmd(e.Body); ok && e.Kind == 1 {
			s, _ = slowApply(s, cmd)
		}
	}
	return s
}

func slowReplayed(c impl.Cluster) bool {
	for _, m := range c.Machines {
		if m.Done > int64(len(c.Chosen)) || !sameState(slowDoneBy(c.Chosen[:m.Done]), m.State) {
			return false
		}
	}
	return true
}

func slowSaved(c impl.Cluster) bool {
	for _, m := range c.Machines {
		j, ok := impl.Recover(m.Disk)
		if !ok || j.Term != m.Node.Term || j.Vote != m.Node.Vote || !slices.Equal(j.Entries, m.Node.Log) {
			return false
		}
	}
	return true
}

// slowAudits are whether each of the six is so, in order; all of them are of a cluster that is not right.
func slowAudits(c impl.Cluster) [6]bool {
	if !slowClusterOk(c) {
		return [6]bool{true, true, true, true, true, true}
	}
	return [6]bool{slowOneLeader(c), slowLogsMatch(c), slowChosenKept(c), slowStatesAlike(c), slowReplayed(c), slowSaved(c)}
}

func slowVerdict(c impl.Cluster) int64 {
	if !slowClusterOk(c) {
		return 7
	}
	for i, so := range slowAudits(c) {
		if !so {
			return int64(i + 1)
		}
	}
	return 0
}

func slowHoldersNow(c impl.Cluster, digest string, k int64) ([]int64, int64) {
	if !slowClusterOk(c) || !digestForm.MatchString(digest) || k < 1 || k > 7 {
		return nil, -1
	}
	holders := slowHolders(digest, countUp(1, int64(len(c.Machines))), k)
	count := int64(0)
	for _, m := range c.Machines {
		has := slices.ContainsFunc(m.Store.Blobs, func(b impl.Blob) bool { return b.Digest == digest })
		if has && slices.Contains(holders, m.Node.Id) {
			count++
		}
	}
	return holders, count
}

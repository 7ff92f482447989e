package mesh

import (
	"slices"

	"braid/api"
)

// Tick lets a replica send (P7).
func (m *Mesh) Tick(replica int) api.Errno {
	if !m.isReplica(replica) {
		return api.ErrArg
	}
	for to := range m.replicas {
		if to != replica {
			m.flying = append(m.flying, flight{to, m.replicas[replica].frameTo(to)})
		}
	}
	lost := max(0, len(m.flying)-api.MaxFlying)
	m.flying = slices.Delete(m.flying, 0, lost)
	return api.OK
}

// Flying tells how many frames are flying (P7).
func (m *Mesh) Flying() int { return len(m.flying) }

// Deliver lets a frame arrive (P7).
func (m *Mesh) Deliver(k int) api.Errno {
	if !m.isFlying(k) {
		return api.ErrArg
	}
	f := m.flying[k]
	m.replicas[f.to].receive(f.bytes)
	return api.OK
}

// Drop loses a frame (P7).
func (m *Mesh) Drop(k int) api.Errno {
	if !m.isFlying(k) {
		return api.ErrArg
	}
	m.flying = slices.Delete(m.flying, k, k+1)
	return api.OK
}

// Spoil turns a byte of a frame (P7).
func (m *Mesh) Spoil(k, at, by int) api.Errno {
	if !m.isFlying(k) || at < 0 || by < 0 {
		return api.ErrArg
	}
	b := []byte(m.flying[k].bytes)
	b[at%len(b)] += byte(by%255 + 1)
	m.flying[k].bytes = string(b)
	return api.OK
}

func (m *Mesh) isFlying(k int) bool { return k >= 0 && k < len(m.flying) }

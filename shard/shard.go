// Package shard is layer 27: see shared/doc/27-shard.md.
package shard

import (
	"iter"

	"cooper/api"
)

// Hash is a name's hash, Of its shard.
func Hash(key string) uint64 { return 0 }

func Of(key string, shards int) int { return 0 }

// Table is a table of names in shards, and workers that call it.
type Table struct{ _ int }

// New is a table of so many shards, and each worker's calls.
func New(shards int, work ...[]api.Ask) (*Table, api.Errno) { return nil, api.OK }

// Workers, Done, Waits and Step are a machine's.
func (t *Table) Workers() int { return 0 }

func (t *Table) Done(worker int) bool { return true }

func (t *Table) Waits(worker int) bool { return false }

func (t *Table) Step(worker int) {}

// History is all calls that began, Get a name's value, All goes through the names that have one.
func (t *Table) History() []api.Call { return nil }

func (t *Table) Get(key string) (int64, bool) { return 0, false }

func (t *Table) All() iter.Seq2[string, int64] { return func(func(string, int64) bool) {} }

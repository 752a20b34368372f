package system

import (
	"slices"
	"strings"

	"tesseract/api"
)

// command is what a line can begin with.
type command struct {
	form   string             // of what follows: the words and the parts of the line, each of them a letter that stands for its form
	arrays int                // how many of the first words name arrays that have to be there
	ready  func(*System) bool // whether the disk or the cluster that it needs is there; nil, if it needs none
	do     func(*System, *request) (string, api.Errno)
}

// repeated is the form of one part or more, each of them a change.
const repeated = "C .."

// forms returns the forms of the words behind the first one of a line, and those of its parts behind the first one, for a line with n of these.
func (c command) forms(n int) (words, parts []string) {
	l := divided(c.form, ';')
	words, parts = strings.Fields(l[0]), l[1:]
	if k := len(parts) - 1; k >= 0 && parts[k] == repeated {
		parts = append(parts[:k], slices.Repeat([]string{"C"}, max(1, n-k))...)
	}
	return words, parts
}

// commands returns all of them by their first words.
func commands() map[string]command {
	return map[string]command{
		"create":  {form: "N; D; A", do: (*System).create},
		"let":     {form: "N; Q", do: (*System).let},
		"drop":    {form: "N", arrays: 1, do: (*System).drop},
		"layout":  {form: "N L L O F K", arrays: 1, do: (*System).lay},
		"set":     {form: "N; C ..", arrays: 1, do: (*System).set},
		"commit":  {form: "N B I; C ..", arrays: 1, do: (*System).commit},
		"branch":  {form: "N B I", arrays: 1, do: (*System).branch},
		"cut":     {form: "N B", arrays: 1, do: (*System).cut},
		"merge":   {form: "N B T", arrays: 1, do: (*System).merge},
		"reclaim": {form: "N L", arrays: 1, do: (*System).reclaim},
		"heads":   {form: "N", arrays: 1, do: (*System).heads},
		"log":     {form: "N", arrays: 1, do: (*System).log},
		"diff":    {form: "N I I", arrays: 1, do: (*System).diff},
		"size":    {form: "N", arrays: 1, do: (*System).size},
		"show":    {form: "N", arrays: 1, do: (*System).show},
		"version": {form: "N I", arrays: 1, do: (*System).version},
		"pin":     {form: "N I", arrays: 1, do: (*System).pin},
		"unpin":   {form: "N", arrays: 1, do: (*System).unpin},
		"pyramid": {form: "N L I; G", arrays: 1, do: (*System).pyramid},
		"level":   {form: "N I", arrays: 1, do: (*System).level},
		"select":  {form: "; Q", do: (*System).choose},
		"explain": {form: "; Q", do: (*System).explain},
		"stats":   {form: "L; Q", do: (*System).stats},
		"needs":   {form: "X; Q", do: (*System).needs},
		"lineage": {form: "L; Q", do: (*System).lineage},
		"impact":  {form: "N L; Q", do: (*System).impact},
		"disk":    {form: "I", do: (*System).newDisk},
		"put":     {form: "T I N; C ..", ready: (*System).hasDisk, do: (*System).put},
		"compact": {ready: (*System).hasDisk, do: (*System).compact},
		"crash":   {form: "L", ready: (*System).hasDisk, do: (*System).crash},
		"recover": {ready: (*System).hasDisk, do: (*System).restart},
		"load":    {ready: (*System).hasDisk, do: (*System).load},
		"mul":     {form: "N M", arrays: 2, do: (*System).mul},
		"solve":   {form: "N M", arrays: 2, do: (*System).solve},
		"det":     {form: "N", arrays: 1, do: (*System).det},
		"cluster": {form: "I I", do: (*System).newCluster},
		"fail":    {form: "I", ready: (*System).hasCluster, do: (*System).fail},
		"back":    {form: "I", ready: (*System).hasCluster, do: (*System).back},
		"join":    {ready: (*System).hasCluster, do: (*System).join},
		"repair":  {ready: (*System).hasCluster, do: (*System).repair},
		"ask":     {form: "L; Q", ready: (*System).hasCluster, do: (*System).ask},
	}
}

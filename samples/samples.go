// Package samples makes what the tests of several layers go through; no layer uses it.
package samples

import "trestle/api"

// Strings are all strings of some bytes up to a length, the shorter ones first.
func Strings(bytes string, most int) []string {
	all := []string{""}
	for from := 0; most > 0; most-- {
		to := len(all)
		for _, s := range all[from:to] {
			for i := range len(bytes) {
				all = append(all, s+bytes[i:i+1])
			}
		}
		from = to
	}
	return all
}

// At is files with these Paths, each with data of its own.
func At(ps ...string) []api.File {
	var files []api.File
	for _, p := range ps {
		files = append(files, api.File{Path: p, Data: "data of " + p})
	}
	return files
}

// Numbered are n files `n10`, `n11` ...
func Numbered(n int) []api.File {
	var files []api.File
	for i := range n {
		files = append(files, api.File{Path: "n" + string([]byte{byte('1' + i/10), byte('0' + i%10)}), Data: "d"})
	}
	return files
}

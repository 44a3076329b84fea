// Package samples makes what the tests of several layers go through; no layer uses it.
package samples

// Strings are all strings of some bytes up to a length, the shorter ones first.
func Strings(bytes string, most int) []string {
	all := []string{""}
	for from := 0; most > 0; most-- {
		to := len(all)
		for _, s := range all[from:to] {
			for i := range len(bytes) {
				all = append(all, s+bytes[i:i+1])
			}
		}
		from = to
	}
	return all
}

package tree_test

import (
	"fmt"
	"slices"
	"strings"

	"trestle/api"
	"trestle/blake"
)

// This is a second reading of the chapter's words, by whole paths: a directory is what stands ahead of the Paths of its files.

// behind is what follows a directory's path in a file's, and whether the file is in that directory.
func behind(f api.File, ahead string) (string, bool) {
	if ahead == "" {
		return f.Path, true
	}
	return strings.TrimPrefix(f.Path, ahead), strings.HasPrefix(f.Path, ahead) && f.Path != ahead
}

// wantDir is the entries of the directory whose path and `/` are ahead; of the root, if that is empty.
func wantDir(files []api.File, ahead string) []api.Entry {
	datas := map[string][]string{}
	for _, f := range files {
		rest, in := behind(f, ahead)
		if !in {
			continue
		}
		name := strings.Split(rest, "/")[0]
		datas[name] = append(datas[name], nil...)
		if rest == name {
			datas[name] = append(datas[name], f.Data)
		}
	}
	var names []string
	for name := range datas {
		names = append(names, name)
	}
	slices.Sort(names)
	var entries []api.Entry
	for _, name := range names {
		if l := datas[name]; len(l) > 0 {
			entries = append(entries, api.Entry{Name: name, Digest: blake.Sum(l[0])})
		} else {
			entries = append(entries, api.Entry{Name: name, Dir: true, Digest: blake.Sum(wantBytes(wantDir(files, ahead+name+"/")))})
		}
	}
	return entries
}

// wantBytes is the bytes of entries.
func wantBytes(entries []api.Entry) string {
	data := ""
	for _, e := range entries {
		kind := map[bool]string{true: "d", false: "f"}[e.Dir]
		in := fmt.Sprintf("%d:%s,1:%s,%d:%s,", len(e.Name), e.Name, kind, len(e.Digest), e.Digest)
		data += fmt.Sprintf("%d:%s,", len(in), in)
	}
	return data
}

// isEncoded says whether Encode takes entries.
func isEncoded(entries []api.Entry) bool {
	for i, e := range entries {
		if len(e.Name) < 1 || len(e.Name) > 48 || e.Name == "." || e.Name == ".." || len(e.Digest) != 32 {
			return false
		}
		if strings.ContainsFunc(e.Name, func(r rune) bool { return r < 33 || r > 126 || r == '/' }) {
			return false
		}
		if i > 0 && strings.Compare(entries[i-1].Name, e.Name) >= 0 {
			return false
		}
	}
	return true
}

// wantBlobs is the blobs of files.
func wantBlobs(files []api.File) []string {
	set := map[string]bool{}
	for _, f := range files {
		set[f.Data] = true
	}
	todo := []string{""}
	for len(todo) > 0 {
		ahead := todo[0]
		todo = todo[1:]
		entries := wantDir(files, ahead)
		if isEncoded(entries) {
			set[wantBytes(entries)] = true
		}
		for _, e := range entries {
			if e.Dir {
				todo = append(todo, ahead+e.Name+"/")
			}
		}
	}
	var blobs []string
	for blob := range set {
		blobs = append(blobs, blob)
	}
	slices.Sort(blobs)
	return blobs
}

// wantDecoded is the entries that bytes are, and whether they are any: the heads of all lengths of names are tried.
func wantDecoded(data string) ([]api.Entry, bool) {
	var entries []api.Entry
	for data != "" {
		size := 0
		for n := 1; n <= 48; n++ {
			digits := len(fmt.Sprint(n))
			head := fmt.Sprintf("%d:%d:", digits+1+n+1+4+36, n)
			if full := len(head) + n + 1 + 4 + 36 + 1; strings.HasPrefix(data, head) && len(data) >= full {
				e := api.Entry{Name: data[len(head):][:n], Dir: data[len(head)+n+3] == 'd', Digest: data[full-34:][:32]}
				entries, size = append(entries, e), full
			}
		}
		if size == 0 || data[:size] != wantBytes(entries[len(entries)-1:]) {
			return nil, false
		}
		data = data[size:]
	}
	return entries, isEncoded(entries)
}

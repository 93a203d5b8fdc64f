package inplace_test

import (
	"strings"
	"testing"

	"paddock/api"
	"paddock/inplace"
)

// 23.1: the chapter's examples, ordinary paths, and wrong ones.
func TestTemp(t *testing.T) {
	for path, temp := range map[string]string{
		"/a/./b": "/a/b.paddock~", "a/b": "/a/b.paddock~", "b": "/b.paddock~", "../../b": "/b.paddock~", "/a//c/../b": "/a/b.paddock~",
		"...": "/....paddock~", "a\n\xff ": "/a\n\xff .paddock~", "/b.paddock~": "/b.paddock~.paddock~", "*": "/*.paddock~",
	} {
		if got, why := inplace.Temp(path); got != temp || why != api.OK {
			t.Errorf("Temp(%q) = %q, %d", path, got, why)
		}
	}
	for _, path := range []string{"", "/", "a/", ".", "..", "a/.", "a/b/..", "/a/b//", "a\x00", "a\x00/b"} {
		if got, why := inplace.Temp(path); got != "" || why != api.ErrPath {
			t.Errorf("Temp(%q) = %q, %d", path, got, why)
		}
	}
}

// 23.1: the limits are those of path; a temporary file's own ones are not asked for.
func TestTempLimits(t *testing.T) {
	wide := strings.Repeat("/"+strings.Repeat("w", 204), 5) // 1025 bytes
	name := strings.Repeat("n", api.MaxName)
	for _, c := range []struct {
		path, temp string
		why        api.Errno
	}{
		{name, "/" + name + ".paddock~", api.OK},
		{name + "n", "", api.ErrPath},
		{"a/" + name + "n/../b", "", api.ErrPath},
		{wide[:api.MaxPath], wide[:api.MaxPath] + ".paddock~", api.OK},
		{wide, "", api.ErrLong},
		{wide[1:], "", api.ErrLong}, // 1024 bytes, but its own text has 1025
		{strings.Repeat("/", api.MaxPath-1) + "b", "/b.paddock~", api.OK},
		{strings.Repeat("/", api.MaxPath) + "b", "", api.ErrLong},
		{strings.Repeat("/", api.MaxPath), "", api.ErrPath},
		{strings.Repeat("\x00", api.MaxPath+1), "", api.ErrLong},
	} {
		if got, why := inplace.Temp(c.path); got != c.temp || why != c.why {
			t.Errorf("Temp(%.20q) = %.20q, %d, not %.20q, %d", c.path, got, why, c.temp, c.why)
		}
		if got, why := inplace.Backup(c.path, ""); got != "" || why != c.why {
			t.Errorf("Backup(%.20q) = %.20q, %d", c.path, got, why)
		}
		if got, why := inplace.Backup(c.path, "/"); got != "" || why == api.OK || c.why != api.OK && why != c.why {
			t.Errorf("Backup(%.20q, /) = %.20q, %d", c.path, got, why)
		}
	}
}

// 23.1: suffixes behind the name, and such as have a place for it.
func TestBackup(t *testing.T) {
	long := strings.Repeat("s", 2000)
	for _, c := range []struct{ path, suffix, backup string }{
		{"/a/b", ".old", "/a/b.old"}, {"/a/b", "old-*", "/a/old-b"}, {"/a/b", "", ""}, {"b", "~", "/b~"}, {"b", "x*", "/xb"},
		{"a/./b", "*.*", "/a/b.b"}, {"a/../b", "**", "/bb"}, {"*", "a*b*", "/a*b*"}, {"*", ".old", "/*.old"}, {"/a/b", ".", "/a/b."},
		{"/a/b", "..", "/a/b.."}, {"/a/b", "*..", "/a/b.."}, {"/a/b", "..*", "/a/..b"}, {"b/b", "*x", "/b/bx"}, {"/a/b", "\n\xff", "/a/b\n\xff"},
		{"/a/b", ".paddock", "/a/b.paddock"}, {"/a/b", ".paddock~~", "/a/b.paddock~~"}, {"/a/b.paddock~", "x", "/a/b.paddock~x"},
		{"/a/b", long, "/a/b" + long}, {"/a/b", "*" + long, "/a/b" + long}, {"a/x", "*.paddock~*", "/a/x.paddock~x"},
	} {
		if got, why := inplace.Backup(c.path, c.suffix); got != c.backup || why != api.OK {
			t.Errorf("Backup(%q, %.20q) = %.20q, %d, not %.20q", c.path, c.suffix, got, why, c.backup)
		}
	}
	for _, c := range [][2]string{
		{"/a/b", "*"}, {"/a/b", "x/"}, {"/a/b", "/"}, {"/a/b", "/../x"}, {"/a/b", "a/*"}, {"/a/b", "\x00"}, {"/a/b", "*\x00"}, {"/a/b", ".old\x00"},
		{"/a/b", ".paddock~"}, {"/a/b", "*.paddock~"}, {"*", "*"}, {"*", "*.paddock~"}, {"a/./b", "*"}, {"a/b", ".paddock~"},
		{"/", ".old"}, {"a/", ""}, {"", ""}, {"a\x00", "x"}, {"..", "*"}, {"/a/b", "xxxxxxxxxxxxxxxxx/"}, {"/a/b", "\xff\xff/"}, {"/a/b", "\xffxxxxxxxxxxx\x00"},
	} {
		if got, why := inplace.Backup(c[0], c[1]); got != "" || why != api.ErrPath {
			t.Errorf("Backup(%q, %q) = %q, %d", c[0], c[1], got, why)
		}
	}
}

// plainTemp and plainBackup are a second reading of the words, part by part, for short texts.
func plainTemp(path string) (folder, name string, ok bool) {
	var at []string
	for _, part := range strings.Split(path, "/") {
		name = ""
		switch part {
		case "", ".":
		case "..":
			at = at[:max(0, len(at)-1)]
		default:
			at = append(at, part)
			name = part
		}
	}
	if name == "" || strings.Contains(path, "\x00") {
		return "", "", false
	}
	for _, part := range at[:len(at)-1] {
		folder += "/" + part
	}
	return folder, name, true
}

func plainBackup(folder, name, suffix string) (string, bool) {
	backup := ""
	stars := 0
	for i := range len(suffix) {
		switch suffix[i] {
		case '/', 0:
			return "", false
		case '*':
			backup += name
			stars++
		default:
			backup += suffix[i : i+1]
		}
	}
	if suffix == "" {
		return "", true
	}
	if stars == 0 {
		backup = name + suffix
	}
	return folder + "/" + backup, backup != name && backup != name+".paddock~"
}

// short are all texts of some pieces, up to so many.
func short(pieces []string, most int) []string {
	out := []string{""}
	from := 0
	for range most {
		upto := len(out)
		for _, s := range out[from:upto] {
			for _, piece := range pieces {
				out = append(out, s+piece)
			}
		}
		from = upto
	}
	return out
}

// 23.1: all short paths, with all short suffixes.
func TestShortNames(t *testing.T) {
	suffixes := short([]string{"*", ".", "/", "x", "\x00", ".paddock~"}, 3)
	for _, path := range short([]string{"/", ".", "x", "*", "\x00"}, 5) {
		folder, name, ok := plainTemp(path)
		temp := ""
		if ok {
			temp = folder + "/" + name + ".paddock~"
		}
		if got, why := inplace.Temp(path); got != temp || (why == api.OK) != ok || why != api.OK && why != api.ErrPath {
			t.Fatalf("Temp(%q) = %q, %d, not %q", path, got, why, temp)
		}
		for _, suffix := range suffixes {
			backup, may := "", false
			if ok {
				backup, may = plainBackup(folder, name, suffix)
			}
			if !may {
				backup = ""
			}
			if got, why := inplace.Backup(path, suffix); got != backup || (why == api.OK) != may || why != api.OK && why != api.ErrPath {
				t.Fatalf("Backup(%q, %q) = %q, %d, not %q", path, suffix, got, why, backup)
			}
		}
	}
}

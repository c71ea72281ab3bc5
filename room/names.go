package room

import "strings"

// longestName is a name that has as many bytes as a name may have.
const longestName = "abcdefghijklmnop"

// Names tells some names, of all lengths, with all bytes that may stand in them.
func Names() []string {
	all := []string{"a", "z", "0", "9", "a-", "0-", "a--", "ab", "a-b", "a1", "1a", "0-z", "z9-", "pot", "q-----------", "a---------------", "9999999999999999", "zzzzzzzzzzzzzzzz", "rstuvwxyz", longestName}
	for n := 1; n <= 16; n++ {
		all = append(all, strings.Repeat("k", n), longestName[:n], "0123456789-xyz-a"[:n])
	}
	return all
}

// WrongNames tells texts that are no names.
func WrongNames() []string {
	all := []string{"", "-", "--", "-a", "-0", "a_", "_", "A", "Ab", "aB", "Z", "a b", " a", "a ", "a\n", "\na", "a.", "a/b", "a\x00", "\x00", "\x00\x00", "\x01a", "a\x00b", "ä", "aä", "ａ", "ı", "a\x80", "\xff", "a\xff", "`", "{", "a`", "a{", "/", ":", "a/", "a:", "a,", "a.b",
		"abcdefghijklmnopq", "-bcdefghijklmnop", "abcdefghijklmno_", "abcdefghijklmno\x00", "abcdefghijklmn\xc3\xa4", longestName + "\x00", longestName + longestName}
	for _, n := range []int{17, 18, 31, 255, 256, 257, 258, 272, 273, 511, 512, 513, 65537} {
		all = append(all, strings.Repeat("a", n))
	}
	return all
}

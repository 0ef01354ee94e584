package hello

import (
	"slices"

	"chinoiserie/api"
)

// record is all bytes of a valid ClientHello.
func record(g api.Greeting) []byte {
	message := part([]byte{clientHello}, 3, contents(g))
	return part([]byte{handshake, major, byte(g.Minor)}, 2, message)
}

// contents are what the message says.
func contents(g api.Greeting) []byte {
	b := number(nil, 2, version)
	b = append(b, g.Random[:]...)
	b = part(b, 1, g.Session)
	b = part(b, 2, suiteBytes(g.Suites))
	b = part(b, 1, g.Methods)
	name := api.Ext{Type: serverName, Data: dataOf(g.Host)}
	return part(b, 2, extBytes(slices.Insert(slices.Clone(g.Exts), g.At, name)))
}

func suiteBytes(suites []int) []byte {
	var b []byte
	for _, suite := range suites {
		b = number(b, 2, suite)
	}
	return b
}

func extBytes(exts []api.Ext) []byte {
	var b []byte
	for _, x := range exts {
		b = number(b, 2, x.Type)
		b = part(b, 2, x.Data)
	}
	return b
}

// dataOf is the data of the extension that tells a host.
func dataOf(host string) []byte {
	name := part([]byte{hostName}, 2, []byte(host))
	return part(nil, 2, name)
}

// number writes a number behind b, in so many bytes.
func number(b []byte, size, n int) []byte {
	for shift := 8 * (size - 1); shift >= 0; shift -= 8 {
		b = append(b, byte(n>>shift))
	}
	return b
}

// part writes how many bytes follow, in so many bytes, and these.
func part(b []byte, size int, following []byte) []byte {
	return append(number(b, size, len(following)), following...)
}

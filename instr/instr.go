// Package instr is layer 1: it writes instructions as bytes, and reads them back.
package instr

import (
	"tipstaff/api"
)

// size is how many bytes an instruction takes.
const size = 8

// Bytes writes each instruction as 8 bytes (P101); nothing, if one of them has a field that its bytes can't hold.
func Bytes(l []api.Instr) []byte {
	out := make([]byte, 0, len(l)*size)
	for _, in := range l {
		if !fits(in) {
			return nil
		}
		out = append(out,
			byte(in.Code), byte(in.Code>>8),
			byte(in.JT), byte(in.JF),
			byte(in.K), byte(in.K>>8), byte(in.K>>16), byte(in.K>>24))
	}
	return out
}

// Read is Bytes turned back (P101); ErrBytes, if b is not whole instructions.
func Read(b []byte) ([]api.Instr, api.Errno) {
	if len(b)%size != 0 {
		return nil, api.ErrBytes
	}
	l := make([]api.Instr, 0, len(b)/size)
	for i := 0; i < len(b); i += size {
		l = append(l, one(b[i:i+size]))
	}
	return l, api.OK
}

// one reads the instruction of size bytes.
func one(b []byte) api.Instr {
	return api.Instr{
		Code: int(b[0]) | int(b[1])<<8,
		JT:   int(b[2]),
		JF:   int(b[3]),
		K:    uint32(b[4]) | uint32(b[5])<<8 | uint32(b[6])<<16 | uint32(b[7])<<24,
	}
}

// fits tells whether no field would lose anything: the fields are ints, and may be any.
func fits(in api.Instr) bool {
	return within(in.Code, 65535) && within(in.JT, 255) && within(in.JF, 255)
}

func within(n, most int) bool {
	return 0 <= n && n <= most
}

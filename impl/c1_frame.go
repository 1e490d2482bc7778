package impl

import "strings"

// MaxBits is the largest number of bits.
const MaxBits = 40

// MaxWire is the largest number of bits with those between them.
const MaxWire = 48

// MaxFrames is the largest number of frames.
const MaxFrames = 4

// MaxLine is the largest number of bits on a wire.
const MaxLine = 300

// MaxBytes is the largest number of bytes.
const MaxBytes = 16

// EndByte ends bytes.
const EndByte = 192

// EscByte stands ahead of what stands for another byte.
const EscByte = 219

// EscEnd stands for EndByte.
const EscEnd = 220

// EscEsc stands for EscByte.
const EscEsc = 221

// wireFlag stands between frames on a wire.
const wireFlag = "01111110"

// fullRun is how many ones may stand behind each other: one less than in a flag.
const fullRun = 5

// greatestByte is the greatest number of a byte.
const greatestByte = 255

// onlyBits reports whether a text has at most most bytes, each of them 0 or 1.
func onlyBits(s string, most int) bool {
	if len(s) > most {
		return false
	}
	for _, bit := range s {
		if bit != '0' && bit != '1' {
			return false
		}
	}
	return true
}

// ValidBits reports whether a text is bits.
func ValidBits(s string) bool {
	return onlyBits(s, MaxBits)
}

// StuffBits returns bits with a 0 behind each five ones.
func StuffBits(s string) string {
	if !ValidBits(s) {
		return ""
	}
	wire := make([]byte, 0, MaxWire)
	ones := 0
	for _, bit := range s {
		wire = append(wire, byte(bit))
		if bit == '0' {
			ones = 0
			continue
		}
		ones++
		if ones == fullRun {
			wire = append(wire, '0')
			ones = 0
		}
	}
	return string(wire)
}

// UnstuffBits returns bits without the noughts behind five ones.
func UnstuffBits(s string) (string, bool) {
	if !onlyBits(s, MaxWire) {
		return "", false
	}
	bits := make([]byte, 0, MaxWire)
	ones := 0
wire:
	for _, bit := range s {
		switch {
		case ones == fullRun && bit == '1':
			// The run stays full, so that six ones are refused as a missing 0 at the end is.
			break wire
		case ones == fullRun:
			ones = 0
			continue wire
		case bit == '1':
			ones++
		default:
			ones = 0
		}
		bits = append(bits, byte(bit))
	}
	if ones == fullRun || len(bits) > MaxBits {
		return "", false
	}
	return string(bits), true
}

// FlagFrames returns the bits of frames on a wire.
func FlagFrames(list []string) string {
	if len(list) > MaxFrames {
		return ""
	}
	wire := wireFlag
	for _, frame := range list {
		if frame == "" || !ValidBits(frame) {
			return ""
		}
		wire += StuffBits(frame) + wireFlag
	}
	return wire
}

// FindFrames returns the frames of the bits on a wire.
func FindFrames(s string) []string {
	if !onlyBits(s, MaxLine) {
		return nil
	}
	parts := strings.Split(s, wireFlag)
	var frames []string
	for i, part := range parts {
		// The first and the last part have a flag on one side only.
		if i == 0 || i == len(parts)-1 || part == "" {
			continue
		}
		frame, _ := UnstuffBits(part)
		frames = append(frames, frame)
	}
	return frames
}

// validBytes reports whether a list is at most MaxBytes bytes.
func validBytes(list []int) bool {
	if len(list) > MaxBytes {
		return false
	}
	for _, b := range list {
		if b < 0 || b > greatestByte {
			return false
		}
	}
	return true
}

// byteRow is bytes that are put one behind the other.
type byteRow struct {
	bytes []int
}

// put puts a byte behind those of the row.
func (r *byteRow) put(b int) {
	r.bytes = append(r.bytes, b)
}

// EscapeBytes returns bytes with others for those that end.
func EscapeBytes(list []int) []int {
	if !validBytes(list) {
		return nil
	}
	var row byteRow
	put := row.put
	for _, b := range list {
		stand := EscEsc
		switch b {
		case EndByte:
			stand = EscEnd
			fallthrough
		case EscByte:
			put(EscByte)
			put(stand)
		default:
			put(b)
		}
	}
	put(EndByte)
	return row.bytes
}

// UnescapeBytes returns bytes for which others stand.
func UnescapeBytes(list []int) ([]int, bool) {
	last := len(list) - 1
	if last < 0 || last > 2*MaxBytes || list[last] != EndByte {
		return nil, false
	}
	var row byteRow
	put := row.put
	escaped := false
	for _, b := range list[:last] {
		switch {
		case escaped && b == EscEnd:
			put(EndByte)
		case escaped && b == EscEsc:
			put(EscByte)
		case escaped || b == EndByte:
			return nil, false
		case b != EscByte:
			put(b)
		}
		escaped = b == EscByte
	}
	if escaped || !validBytes(row.bytes) {
		return nil, false
	}
	return row.bytes, true
}

// PointBytes returns bytes without noughts.
func PointBytes(list []int) []int {
	if !validBytes(list) {
		return nil
	}
	pointed := []int{1}
	count := 0 // where the count of the last group stands
	for _, b := range list {
		if b == 0 {
			count = len(pointed)
			pointed = append(pointed, 1)
			continue
		}
		pointed = append(pointed, b)
		pointed[count]++
	}
	return pointed
}

// UnpointBytes returns bytes with noughts again.
func UnpointBytes(list []int) ([]int, bool) {
	if len(list) == 0 || len(list) > MaxBytes+1 {
		return nil, false
	}
	var bytes []int
	count := 0 // where the count of the next group stands
	for i, b := range list {
		if b < 1 || b > greatestByte {
			return nil, false
		}
		if i != count {
			bytes = append(bytes, b)
			continue
		}
		count += b
		// No 0 was left out ahead of the first group.
		if i > 0 {
			bytes = append(bytes, 0)
		}
	}
	if count != len(list) {
		return nil, false
	}
	return bytes, true
}

package checksum

import (
	"hash/crc32"
	"testing"
)

func TestTable(t *testing.T) {
	if table != *crc32.IEEETable {
		t.Error("the table that start-up fills is not that of CRC-32")
	}
}

func TestOf(t *testing.T) {
	for data, want := range map[string]uint32{"": 0, "a": 0xe8b7be43, "123456789": 0xcbf43926, "\x00": 0xd202ef8d, "\x00\x00": 0x41d912ff} {
		if sum := Of(data); sum != want {
			t.Errorf("Of(%q) = %#x, want %#x", data, sum, want)
		}
	}
}

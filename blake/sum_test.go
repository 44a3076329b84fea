package blake_test

import (
	"encoding/hex"
	"strconv"
	"strings"
	"sync"
	"testing"

	"trestle/blake"
)

// sample is n bytes in which no block is like the next one.
func sample(n int) string {
	b := make([]byte, n)
	for i := range b {
		b[i] = byte(i*7 + i/256 + 3)
	}
	return string(b)
}

func sumHex(data string) string {
	return hex.EncodeToString([]byte(blake.Sum(data)))
}

func checkSum(t *testing.T, name, data, want string) {
	t.Helper()
	if got := sumHex(data); got != want {
		t.Errorf("Sum of %s = %s, want %s", name, got, want)
	}
}

// P2.1: the chapter's examples.
func TestSumExamples(t *testing.T) {
	checkSum(t, "abc", "abc", "508c5e8c327c14e2e1a72ba34eeb452f37458b209ed63a294d999b4c86675982")
	checkSum(t, "nothing", "", "69217a3079908094e11121d042354a7c1f55b6482ca1a51e1b250dfd1ed0eef9")
}

// P2.1: lengths around the ends of blocks; the digests are those of another program for BLAKE2s.
func TestSumOfLengths(t *testing.T) {
	for n, want := range map[int]string{
		1:       "a28ac19d6bcbe2cd1d7de183485768d598e996b07889b9b11f418cb1b4a4fb0d",
		3:       "ca943acca89a34cf4040cf8ea24147dd94ea62a49de8ef9a88af5272339927b3",
		4:       "939e42fdbf9188e4782dbe91677ce6654f74f9e561975332838c211683811e5a",
		31:      "f596a793b70d59e2d5119ebbf6ce66f4de0eda74e9be7f9b4bd0c155e152db3f",
		32:      "faacb4e48e592947ef7e23f38dd6adb8c4c559e905334c0bd427695bb570089c",
		62:      "4b0dae3ea53b104a1eb276e6649201f2430e8ab35bb809af599e5d96ff259e7a",
		63:      "de27df0e375d83c49f1af9ca8270f9f2fe7b70bf800fc01672db0e9746021ebf",
		64:      "5377e4ff957bda4d4535f4879876b71a61056c4cec31e78397c66ec47a86a130",
		65:      "19b1b26fba093f4a670d8913e1b71cbb2916dfa701018cc6b05785c966593374",
		127:     "6846f99493436241d0a6f289c9a911b1d0f4860db8f2b5df5295ffd37d03a3c4",
		128:     "83470c75afa23d90cd7659906e4b47daa278131fbb225241dd37a40fd5355ac7",
		129:     "26fd8892ab0a5f12d4acbff1efd7dcd92b99e2d377f888f07e3cb81b232b11cf",
		192:     "8608895acbb0b5581cdfb5e84d11de01f722ab250285a172e8d59f2f67c46110",
		193:     "ea061084b6444c554572f0c9531df6bd47c539d0d6a1ad2a5645aad6d4ff1621",
		1000:    "8fe0a7dc5d6c98a7d34287104c6cd8446737cdbda6a7e676228ff2729ed2f9e4",
		65535:   "7a85e810f53c545c9954d038a2751f3a3e25e36ff6cfa02a978ca693dc278724",
		65536:   "d19bef9d599cc7436ad5d46cff3922db72f553cfa91b69acdaa22c3bf634d36f",
		65537:   "f7dc5023995c4100be81b08922d331828062aa9c87696201c238ce61232504d2",
		1000000: "93a143b125778c2b784930944e3a69fe55531abdc81b9e470f8eeb3b71935211",
	} {
		checkSum(t, strconv.Itoa(n)+" bytes", sample(n), want)
	}
}

// P2.1: zero bytes of the data are not those that a block is padded with.
func TestSumOfZeros(t *testing.T) {
	for n, want := range map[int]string{
		1:   "e34d74dbaf4ff4c6abd871cc220451d2ea2648846c7757fbaac82fe51ad64bea",
		63:  "d962856f3fcfaac80a84722012c38da68cce6b924a397d5a3db009babefdee61",
		64:  "ae09db7cd54f42b490ef09b6bc541af688e4959bb8c53f359a6f56e38ab454a3",
		65:  "857328bf990b00922782d3e81c6054c25d3375d386c7424abe3e01d79041046c",
		128: "4e420520b981ce7bdbf4ce2c4dbadb9450079b7deb9737b5232957d323f801cb",
	} {
		checkSum(t, strconv.Itoa(n)+" zeros", strings.Repeat("\x00", n), want)
	}
}

// P2.1: every length up to 1024 and every byte; each digest goes into the next one.
func TestSumOfAll(t *testing.T) {
	chain := ""
	for n := range 1025 {
		chain = blake.Sum(chain + sample(n))
	}
	if got := hex.EncodeToString([]byte(chain)); got != "9fe53a408d611995d0783e187015b115f5cd127d6f4153f613173d05fe889f89" {
		t.Errorf("the chain ends in %s", got)
	}
	var all strings.Builder
	for i := range 256 {
		all.WriteString(blake.Sum(string([]byte{byte(i)})))
	}
	checkSum(t, "the digests of all bytes", all.String(), "1931f7b3597de410b495055fb5bc66f1786e8df4d97b0b57fe5c63d7f1831c3e")
}

// P2.3: a digest has 32 bytes, whatever the data.
func TestSumLength(t *testing.T) {
	for _, s := range []string{"", "\x00", "é", "\xff\xfe", strings.Repeat("x", 64), strings.Repeat("\xff", 4096), sample(100000)} {
		if n := len(blake.Sum(s)); n != 32 {
			t.Errorf("Sum of %d bytes has %d bytes", len(s), n)
		}
	}
}

// R3: digests hang on the data alone, not on what was summed before or is summed beside.
func TestSumAlone(t *testing.T) {
	want := make([]string, 200)
	for n := range want {
		want[n] = blake.Sum(sample(n))
	}
	var all sync.WaitGroup
	for range 4 {
		all.Go(func() {
			for n := len(want) - 1; n >= 0; n-- {
				if blake.Sum(sample(n)) != want[n] {
					t.Errorf("Sum of %d bytes is another one", n)
				}
			}
		})
	}
	all.Wait()
}

func BenchmarkSum(b *testing.B) {
	data := sample(1 << 20)
	b.SetBytes(int64(len(data)))
	for b.Loop() {
		blake.Sum(data)
	}
}

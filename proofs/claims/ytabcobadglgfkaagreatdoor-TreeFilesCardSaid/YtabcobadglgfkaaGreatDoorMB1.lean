/- Merged of: BlakeM BlakeA BlakeB BlakeC. -/
import Derived.Test.YtabcobadglgfkaaGreatDoorMC1
import Derived.Laws.BitsAllLaws
import Derived.Deep.RegionWith
import Derived.StillTailTactics
/- Stage 2's own functions on numbers and lists: the mixing, the pressing, the digest, the words. -/
namespace Go.Proofs.YtabcobadglgfkaaGreatDoor
open Go.RowKit
namespace M

abbrev W32 : Nat := 4294967296
/-- Turned right by n of 32 bits. -/
def rot (x n : Nat) : Nat := x / 2 ^ n ||| x * 2 ^ (32 - n) % W32
def gt (v : List Nat) (i : Nat) : Nat := v.getD i 0
def mixA (v : List Nat) (a b x : Nat) : List Nat := v.set a ((gt v a + gt v b + x) % W32)
def mixC (v : List Nat) (a b : Nat) : List Nat := v.set a ((gt v a + gt v b) % W32)
def mixR (v : List Nat) (a b n : Nat) : List Nat := v.set a (rot (gt v a ^^^ gt v b) n)
def mixH (v : List Nat) (a b c d x n m : Nat) : List Nat := mixR (mixC (mixR (mixA v a b x) d a n) c d) b c m
def mix (v : List Nat) (a b c d x y : Nat) : List Nat := mixH (mixH v a b c d x 16 12) a b c d y 8 7
def round (v m s : List Nat) : List Nat :=
  let f (i : Nat) : Nat := gt m (gt s i)
  let v := mix v 0 4 8 12 (f 0) (f 1)
  let v := mix v 1 5 9 13 (f 2) (f 3)
  let v := mix v 2 6 10 14 (f 4) (f 5)
  let v := mix v 3 7 11 15 (f 6) (f 7)
  let v := mix v 0 5 10 15 (f 8) (f 9)
  let v := mix v 1 6 11 12 (f 10) (f 11)
  let v := mix v 2 7 8 13 (f 12) (f 13)
  mix v 3 4 9 14 (f 14) (f 15)

def iv : List Nat := [0x6a09e667, 0xbb67ae85, 0x3c6ef372, 0xa54ff53a, 0x510e527f, 0x9b05688c, 0x1f83d9ab, 0x5be0cd19]
def orders : List (List Nat) := [
  [0, 1, 2, 3, 4, 5, 6, 7, 8, 9, 10, 11, 12, 13, 14, 15],
  [14, 10, 4, 8, 9, 15, 13, 6, 1, 12, 0, 2, 11, 7, 5, 3],
  [11, 8, 12, 0, 5, 2, 15, 13, 10, 14, 3, 6, 7, 1, 9, 4],
  [7, 9, 3, 1, 13, 12, 11, 14, 2, 6, 5, 10, 4, 0, 15, 8],
  [9, 0, 5, 7, 2, 4, 10, 15, 14, 1, 11, 12, 6, 8, 3, 13],
  [2, 12, 6, 10, 0, 11, 8, 3, 4, 13, 7, 5, 15, 14, 1, 9],
  [12, 5, 1, 15, 14, 13, 4, 10, 0, 7, 6, 3, 9, 2, 8, 11],
  [13, 11, 7, 14, 12, 1, 3, 9, 5, 0, 15, 4, 8, 6, 2, 10],
  [6, 15, 14, 9, 11, 3, 0, 8, 12, 2, 13, 7, 1, 4, 10, 5],
  [10, 2, 8, 4, 7, 6, 1, 5, 15, 11, 9, 14, 3, 12, 13, 0]]

/-- A list of numbers that are all below 2^32. -/
def Small (v : List Nat) : Prop := ∀ x ∈ v, x < W32
theorem gt_lt {v : List Nat} (h : Small v) (i : Nat) : gt v i < W32 := by
  unfold gt
  rw [List.getD_eq_getElem?_getD]
  rcases hq : v[i]? with _ | x
  · exact (by decide : 0 < W32)
  · exact h x (List.mem_of_getElem? hq)
theorem small_set {v : List Nat} (h : Small v) (i : Nat) {x : Nat} (hx : x < W32) : Small (v.set i x) := by
  intro y hy
  rcases List.mem_or_eq_of_mem_set hy with hy | rfl
  · exact h y hy
  · exact hx
theorem rot_lt {x : Nat} (h : x < W32) (n : Nat) : rot x n < W32 := by
  unfold rot
  have h1 : x / 2 ^ n ≤ x := Nat.div_le_self _ _
  exact Nat.or_lt_two_pow (n := 32) (Nat.lt_of_le_of_lt h1 h) (Nat.mod_lt _ (by decide))
theorem xor_lt {x y : Nat} (hx : x < W32) (hy : y < W32) : x ^^^ y < W32 := Nat.xor_lt_two_pow (n := 32) hx hy
theorem small_mixA {v : List Nat} (h : Small v) (a b x : Nat) : Small (mixA v a b x) := small_set h _ (Nat.mod_lt _ (by decide))
theorem small_mixC {v : List Nat} (h : Small v) (a b : Nat) : Small (mixC v a b) := small_set h _ (Nat.mod_lt _ (by decide))
theorem small_mixR {v : List Nat} (h : Small v) (a b n : Nat) : Small (mixR v a b n) := small_set h _ (rot_lt (xor_lt (gt_lt h _) (gt_lt h _)) _)
theorem small_mixH {v : List Nat} (h : Small v) (a b c d x n m : Nat) : Small (mixH v a b c d x n m) := small_mixR (small_mixC (small_mixR (small_mixA h _ _ _) _ _ _) _ _) _ _ _
theorem small_mix {v : List Nat} (h : Small v) (a b c d x y : Nat) : Small (mix v a b c d x y) := small_mixH (small_mixH h _ _ _ _ _ _ _) _ _ _ _ _ _ _
theorem small_round {v m s : List Nat} (h : Small v) : Small (round v m s) := by
  unfold round
  exact small_mix (small_mix (small_mix (small_mix (small_mix (small_mix (small_mix (small_mix h _ _ _ _ _ _) _ _ _ _ _ _) _ _ _ _ _ _) _ _ _ _ _ _) _ _ _ _ _ _) _ _ _ _ _ _) _ _ _ _ _ _) _ _ _ _ _ _
theorem len_mixA (v : List Nat) (a b x : Nat) : (mixA v a b x).length = v.length := by simp [mixA]
theorem len_mixC (v : List Nat) (a b : Nat) : (mixC v a b).length = v.length := by simp [mixC]
theorem len_mixR (v : List Nat) (a b n : Nat) : (mixR v a b n).length = v.length := by simp [mixR]
theorem len_mix (v : List Nat) (a b c d x y : Nat) : (mix v a b c d x y).length = v.length := by simp [mix, mixH, len_mixA, len_mixC, len_mixR]
theorem len_round (v m s : List Nat) : (round v m s).length = v.length := by simp [round, len_mix]

/-- The state ahead of the rounds. -/
def start (h : List Nat) (n : Nat) (last : Bool) : List Nat :=
  let v := h ++ iv
  let v := v.set 12 (gt v 12 ^^^ n % W32)
  let v := v.set 13 (gt v 13 ^^^ n / W32 % W32)
  if last then v.set 14 (gt v 14 ^^^ (W32 - 1)) else v
def rounds (v m : List Nat) (l : List (List Nat)) : List Nat := l.foldl (fun v s => round v m s) v
def fold (h v : List Nat) : List Nat := (List.range 8).map fun i => gt h i ^^^ (gt v i ^^^ gt v (i + 8))
/-- A block's numbers m pressed into h. -/
def press (h m : List Nat) (n : Nat) (last : Bool) : List Nat := fold h (rounds (start h n last) m orders)
def byte (d : List UInt8) (i : Nat) : Nat := (d.getD i 0).toNat
def numAt (d : List UInt8) (i : Nat) : Nat := byte d (4 * i) + 256 * byte d (4 * i + 1) + 65536 * byte d (4 * i + 2) + 16777216 * byte d (4 * i + 3)
/-- The numbers of a block, which is padded with zeros. -/
def nums (d : List UInt8) : List Nat := (List.range 16).map (numAt d)
/-- The digest's numbers of what is left, behind n bytes. -/
def sumFrom : Nat → List Nat → Nat → List UInt8 → List Nat
  | 0, h, _, _ => h
  | f + 1, h, n, d => if d.length ≤ 64 then press h (nums d) (n + d.length) true else sumFrom f (press h (nums (d.take 64)) (n + 64) false) (n + 64) (d.drop 64)
def h0 : List Nat := iv.set 0 (gt iv 0 ^^^ 0x01010020)
def four (x : Nat) : List UInt8 := [UInt8.ofNat x, UInt8.ofNat (x / 256), UInt8.ofNat (x / 65536), UInt8.ofNat (x / 16777216)]
def digest (h : List Nat) : List UInt8 := h.flatMap four
def sum (d : List UInt8) : List UInt8 := digest (sumFrom (d.length + 1) h0 0 d)
def word (c : UInt8) : List UInt8 := [97 + c / 16, 97 + c % 16]
def words (d : List UInt8) : List UInt8 := d.flatMap word

theorem small_iv : Small iv := by unfold Small iv; decide
theorem small_h0 : Small h0 := by unfold Small h0; decide
theorem byte_lt (d : List UInt8) (i : Nat) : byte d i < 256 := (d.getD i 0).toNat_lt
theorem numAt_lt (d : List UInt8) (i : Nat) : numAt d i < W32 := by
  have h0 := byte_lt d (4 * i); have h1 := byte_lt d (4 * i + 1); have h2 := byte_lt d (4 * i + 2); have h3 := byte_lt d (4 * i + 3)
  unfold numAt W32
  omega
theorem small_nums (d : List UInt8) : Small (nums d) := by
  intro x hx
  obtain ⟨i, _, rfl⟩ := List.mem_map.1 hx
  exact numAt_lt d i
theorem len_nums (d : List UInt8) : (nums d).length = 16 := by simp [nums]
theorem len_start (h : List Nat) (n : Nat) (last : Bool) : (start h n last).length = h.length + 8 := by
  unfold start
  cases last <;> simp [iv]
theorem small_start {h : List Nat} (hh : Small h) (n : Nat) (last : Bool) : Small (start h n last) := by
  have h1 : Small (h ++ iv) := by
    intro x hx
    rcases List.mem_append.1 hx with hx | hx
    · exact hh x hx
    · exact small_iv x hx
  have h2 : Small ((h ++ iv).set 12 (gt (h ++ iv) 12 ^^^ n % W32)) := small_set h1 _ (xor_lt (gt_lt h1 _) (Nat.mod_lt _ (by decide)))
  have h3 := small_set h2 13 (xor_lt (gt_lt h2 13) (Nat.mod_lt (n / W32) (by decide : W32 > 0)))
  unfold start
  cases last
  · exact h3
  · exact small_set h3 _ (xor_lt (gt_lt h3 _) (by decide))
theorem rounds_cons (v m s : List Nat) (l : List (List Nat)) : rounds v m (s :: l) = rounds (round v m s) m l := List.foldl_cons ..
theorem small_rounds {m : List Nat} (l : List (List Nat)) : ∀ {v : List Nat}, Small v → Small (rounds v m l) := by
  induction l with
  | nil => intro v h; exact h
  | cons s l ih =>
    intro v h
    rw [rounds_cons]
    exact ih (small_round h)
theorem len_rounds {m : List Nat} (l : List (List Nat)) : ∀ (v : List Nat), (rounds v m l).length = v.length := by
  induction l with
  | nil => intro v; rfl
  | cons s l ih =>
    intro v
    rw [rounds_cons, ih, len_round]
theorem small_fold {h v : List Nat} (hh : Small h) (hv : Small v) : Small (fold h v) := by
  intro x hx
  obtain ⟨i, _, rfl⟩ := List.mem_map.1 hx
  exact xor_lt (gt_lt hh _) (xor_lt (gt_lt hv _) (gt_lt hv _))
theorem len_fold (h v : List Nat) : (fold h v).length = 8 := by simp [fold]
theorem small_press {h : List Nat} (hh : Small h) (m : List Nat) (n : Nat) (last : Bool) : Small (press h m n last) := small_fold hh (small_rounds _ (small_start hh _ _))
theorem len_press (h m : List Nat) (n : Nat) (last : Bool) : (press h m n last).length = 8 := len_fold _ _
theorem len_digest (h : List Nat) : (digest h).length = 4 * h.length := by
  unfold digest
  induction h with
  | nil => rfl
  | cons x r ih => simp only [List.flatMap_cons, List.length_append, ih, four, List.length_cons, List.length_nil]; omega
theorem len_sumFrom : ∀ (f : Nat) (h : List Nat) (n : Nat) (d : List UInt8), h.length = 8 → (sumFrom f h n d).length = 8
  | 0, h, _, _, hh => hh
  | f + 1, h, n, d, hh => by
      unfold sumFrom
      split
      · exact len_press _ _ _ _
      · exact len_sumFrom f _ _ _ (len_press _ _ _ _)
theorem len_sum (d : List UInt8) : (sum d).length = 32 := by
  unfold sum
  rw [len_digest, len_sumFrom _ _ _ _ (by decide)]
theorem sumFrom_more : ∀ (f g : Nat) (h : List Nat) (n : Nat) (d : List UInt8), d.length < f → d.length < g → sumFrom f h n d = sumFrom g h n d
  | 0, _, _, _, _, hf, _ => by omega
  | _ + 1, 0, _, _, _, _, hg => by omega
  | f + 1, g + 1, h, n, d, hf, hg => by
      unfold sumFrom
      split
      · rfl
      · exact sumFrom_more f g _ _ _ (by simp; omega) (by simp; omega)
set_option maxRecDepth 100000 in
theorem abc : sum [97, 98, 99] = [80, 140, 94, 140, 50, 124, 20, 226, 225, 167, 43, 163, 78, 235, 69, 47, 55, 69, 139, 32, 158, 214, 58, 41, 77, 153, 155, 76, 134, 103, 89, 130] := by
  decide +kernel
theorem w2 : words [0, 31] = [97, 97, 98, 112] := by decide
end M
end Go.Proofs.YtabcobadglgfkaaGreatDoor

/- The program's and the document's turning of a number. -/
namespace Go.Proofs.YtabcobadglgfkaaGreatDoor
open Go.RowKit

theorem rot_bits (x : Nat) (hx : x < 4294967296) (n : Nat) : bits .or .u32 ((x : Int) * 2 ^ (32 - n) % 4294967296) ((x : Int) / 2 ^ n) = (M.rot x n : Nat) := by
  have h1 : ((x : Int) * 2 ^ (32 - n) % 4294967296) = ((x * 2 ^ (32 - n) % 4294967296 : Nat) : Int) := by simp
  have h2 : ((x : Int) / 2 ^ n) = ((x / 2 ^ n : Nat) : Int) := by simp
  rw [h1, h2, u32_or_nat _ _ (Nat.mod_lt _ (by decide)) (Nat.lt_of_le_of_lt (Nat.div_le_self _ _) hx), Nat.or_comm]
  rfl
theorem i64_or_nat (a b : Nat) (ha : a < 9223372036854775808) (hb : b < 9223372036854775808) : bits .or .i64 (a : Int) (b : Int) = ((a ||| b : Nat) : Int) := by
  have hx : a ||| b < 2 ^ 63 := Nat.or_lt_two_pow (by omega) (by omega)
  show IntKind.i64.wrap ((BitVec.ofInt 64 (a : Int) ||| BitVec.ofInt 64 (b : Int)).toNat : Int) = _
  rw [BitVec.toNat_or, ofInt_u64 a (by omega), ofInt_u64 b (by omega), IntKind.wrap_i64]
  omega
theorem i64_xor_nat (a b : Nat) (ha : a < 9223372036854775808) (hb : b < 9223372036854775808) : bits .xor .i64 (a : Int) (b : Int) = ((a ^^^ b : Nat) : Int) := by
  have hx : a ^^^ b < 2 ^ 63 := Nat.xor_lt_two_pow (by omega) (by omega)
  show IntKind.i64.wrap ((BitVec.ofInt 64 (a : Int) ^^^ BitVec.ofInt 64 (b : Int)).toNat : Int) = _
  rw [BitVec.toNat_xor, ofInt_u64 a (by omega), ofInt_u64 b (by omega), IntKind.wrap_i64]
  omega
theorem shl_small (x : Nat) (hx : x < 4294967296) (n : Nat) (hn : n ≤ 30) : x * 2 ^ n < 4611686018427387904 := by
  have h1 : 2 ^ n ≤ 2 ^ 30 := Nat.pow_le_pow_right (by decide) hn
  calc x * 2 ^ n ≤ x * 2 ^ 30 := Nat.mul_le_mul_left _ h1
    _ < 4611686018427387904 := by omega

set_option maxHeartbeats 1000000 in
theorem bleft_any (x : Nat) (hx : x < 4294967296) (k : Int) (n : Nat) (hn : k = -16 ∧ n = 16 ∨ k = -12 ∧ n = 12 ∨ k = -8 ∧ n = 8 ∨ k = -7 ∧ n = 7) (w : World) :
    Calls Tryz.prog 169 #[.int .u32 x, .int .i64 k] w fun e w' => e = .returned (.int .u32 (M.rot x n : Nat)) ∧ w' = w := by
  have hb : ∃ m : Nat, m ≤ 31 ∧ n ≤ 31 ∧ m = 32 - n ∧ bits .and .u64 (IntKind.u64.wrap k) 31 = m := by
    rcases hn with ⟨rfl, rfl⟩ | ⟨rfl, rfl⟩ | ⟨rfl, rfl⟩ | ⟨rfl, rfl⟩
    · exact ⟨16, by decide +kernel⟩
    · exact ⟨20, by decide +kernel⟩
    · exact ⟨24, by decide +kernel⟩
    · exact ⟨25, by decide +kernel⟩
  obtain ⟨m, hm, hn', hmn, hb⟩ := hb
  have hr := rot_bits x hx n
  have hnn : 32 - (32 - n) = n := by omega
  have HR := Lib.hid hr
  clear hr hn
  go_enter Tryz.func169, Tryz.ntmps169
  go_wp2
  go_ret
  exact ⟨ret_int HR.out, rfl⟩

theorem rotate_any (x : Nat) (hx : x < 4294967296) (k : Int) (n : Nat) (hn : k = 16 ∧ n = 16 ∨ k = 12 ∧ n = 12 ∨ k = 8 ∧ n = 8 ∨ k = 7 ∧ n = 7) (w : World) :
    Calls Tryz.prog 159 #[.int .u32 x, .int .i64 k] w fun e w' => e = .returned (.int .u32 (M.rot x n : Nat)) ∧ w' = w := by
  have hk : IntKind.i64.wrap (-k) = -k := IntWalk.i64_in _ (by omega)
  have HL := Lib.hid (bleft_any x hx (-k) n (by omega) w)
  clear hn
  go_enter Tryz.func159, Tryz.ntmps159
  go_wp2_with ((with_reducible refine HL.out.mono ?_); rintro e w1 ⟨rfl, rfl⟩)
  go_ret
  exact ⟨rfl, rfl⟩

set_option maxHeartbeats 1000000 in
theorem turned_any (x : Nat) (hx : x < 4294967296) (k : Int) (n : Nat) (hn : k = 16 ∧ n = 16 ∨ k = 12 ∧ n = 12 ∨ k = 8 ∧ n = 8 ∨ k = 7 ∧ n = 7) (w : World) :
    Calls Tryz.prog 143 #[.int .i64 x, .int .i64 k] w fun e w' => e = .returned (.int .i64 (M.rot x n : Nat)) ∧ ∃ k, w' = w.drewN k := by
  have hk : k = (n : Int) := by omega
  have hn1 : n ≤ 31 := by omega
  have hn2 : 2 ≤ n := by omega
  subst hk
  have hs := shl_small x hx (32 - n) (by omega)
  have hd : x / 2 ^ n < 4294967296 := Nat.lt_of_le_of_lt (Nat.div_le_self _ _) hx
  have hr : (bits .or .i64 ((x : Int) / 2 ^ n) ((x : Int) * 2 ^ (32 - n))) = ((x / 2 ^ n ||| x * 2 ^ (32 - n) : Nat) : Int) := by
    have := i64_or_nat (x / 2 ^ n) (x * 2 ^ (32 - n)) (by omega) (by omega)
    simpa using this
  have hm : ((x / 2 ^ n ||| x * 2 ^ (32 - n)) % 4294967296) = M.rot x n := by
    have := Nat.or_mod_two_pow (a := x / 2 ^ n) (b := x * 2 ^ (32 - n)) (n := 32)
    rw [show (2 : Nat) ^ 32 = 4294967296 from rfl, Nat.mod_eq_of_lt hd] at this
    exact this
  have hw : IntKind.i64.wrap ((x : Int) * 2 ^ (32 - n)) = (x : Int) * 2 ^ (32 - n) := IntWalk.i64_in _ (by
    have : ((x : Int) * 2 ^ (32 - n)) = ((x * 2 ^ (32 - n) : Nat) : Int) := by simp
    omega)
  have hw2 : IntKind.i64.wrap (32 - (n : Int)) = ((32 - n : Nat) : Int) := by
    rw [IntWalk.i64_in _ (by omega)]; omega
  have HM := Lib.hid hm
  clear hm hn hd
  generalize hz : x / 2 ^ n ||| x * 2 ^ (32 - n) = z at *
  clear hz
  have ht : (z : Int).tmod 4294967296 = ((z % 4294967296 : Nat) : Int) := by rw [Int.tmod_eq_emod_of_nonneg (by omega)]; rfl
  go_enter Tryz.func143, Tryz.ntmps143
  go_wp2
  go_quiet (fail)
  go_wp2
  go_ret
  exact ⟨ret_int (ht.symm.trans (by rw [ht, HM.out])), _, rfl⟩
end Go.Proofs.YtabcobadglgfkaaGreatDoor

/- The program's mixing of four numbers, and its round. -/
namespace Go.Proofs.YtabcobadglgfkaaGreatDoor
open Go.RowKit

theorem ints_at (k : IntKind) {v : List Nat} {i : Nat} (h : i < v.length) : (v.map fun (n : Nat) => Value.int k (n : Int)).toArray[i]? = some (.int k (M.gt v i : Nat)) := by
  simp [M.gt, List.getD_eq_getElem?_getD, h]
def c32 (v : List Nat) : Array Value := (v.map fun (n : Nat) => Value.int .u32 (n : Int)).toArray
theorem c32_at {v : List Nat} {i : Nat} (h : i < v.length) : (c32 v)[i]? = some (.int .u32 (M.gt v i : Nat)) := ints_at .u32 h
theorem c32_set (v : List Nat) (i x : Nat) : (c32 v).setIfInBounds i (.int .u32 (x : Int)) = c32 (v.set i x) := by
  simp [c32, List.map_set]
theorem Blk.c32_set {w : World} {b : Nat} {v : List Nat} {T : TypeId} (h : Blk w b (c32 v) T) (i x : Nat) : Blk (w.setCell ⟨b, i, none⟩ (.int .u32 (x : Int))) b (c32 (v.set i x)) T := by
  have := h.set i (.int .u32 (x : Int))
  rwa [Proofs.YtabcobadglgfkaaGreatDoor.c32_set] at this

set_option maxHeartbeats 1000000 in

section
variable {w : World} {b : Nat} {v : List Nat} {T : TypeId}
theorem stepA (h : Blk w b (c32 v) T) (i j x : Nat) : ∃ w1, (w.setCell ⟨b, i, none⟩ (.int .u32 (((M.gt v i : Int) + ((M.gt v j : Int) + (x : Int)) % 4294967296) % 4294967296))).drew = w1 ∧ Blk w1 b (c32 (M.mixA v i j x)) T ∧ Keep (· = b) w w1 := by
  refine ⟨_, rfl, ?_, ((Keep.refl _ w).set1 i _).drew⟩
  have e : (((M.gt v i : Int) + ((M.gt v j : Int) + (x : Int)) % 4294967296) % 4294967296) = (((M.gt v i + M.gt v j + x) % 4294967296 : Nat) : Int) := by omega
  rw [e]
  exact h.c32_set i _
theorem stepC (h : Blk w b (c32 v) T) (i j : Nat) : ∃ w1, (w.setCell ⟨b, i, none⟩ (.int .u32 (((M.gt v i : Int) + (M.gt v j : Int)) % 4294967296))).drew = w1 ∧ Blk w1 b (c32 (M.mixC v i j)) T ∧ Keep (· = b) w w1 := by
  refine ⟨_, rfl, ?_, ((Keep.refl _ w).set1 i _).drew⟩
  have e : (((M.gt v i : Int) + (M.gt v j : Int)) % 4294967296) = (((M.gt v i + M.gt v j) % 4294967296 : Nat) : Int) := by omega
  rw [e]
  exact h.c32_set i _
theorem stepR (h : Blk w b (c32 v) T) (i j n : Nat) : ∃ w1, (w.setCell ⟨b, i, none⟩ (.int .u32 ((M.rot (M.gt v i ^^^ M.gt v j) n : Nat) : Int))).drew = w1 ∧ Blk w1 b (c32 (M.mixR v i j n)) T ∧ Keep (· = b) w w1 :=
  ⟨_, rfl, h.c32_set i _, ((Keep.refl _ w).set1 i _).drew⟩
end

set_option maxHeartbeats 4000000 in
set_option maxRecDepth 100000 in
theorem mix_any (bv : Nat) (v : List Nat) (hl : v.length = 16) (hs : M.Small v) (a b c d x y : Nat) (ha : a < 16) (hb : b < 16) (hc : c < 16) (hd : d < 16) (_ : x < 4294967296) (_ : y < 4294967296) (w : World) (h : Blk w bv (c32 v) 88) :
    Calls Tryz.prog 138 #[.pointer (some ⟨bv, 0, none⟩), .int .i64 a, .int .i64 b, .int .i64 c, .int .i64 d, .int .u32 x, .int .u32 y] w fun e w' =>
      e = .returned (.tuple #[]) ∧ Blk w' bv (c32 (M.mix v a b c d x y)) 88 ∧ Keep (· = bv) w w' := by
  have ia : (a : Int) < 16 := by omega
  have ib : (b : Int) < 16 := by omega
  have ic : (c : Int) < 16 := by omega
  have id : (d : Int) < 16 := by omega
  have ja : (0 : Int) ≤ (a : Int) := by omega
  have jb : (0 : Int) ≤ (b : Int) := by omega
  have jc : (0 : Int) ≤ (c : Int) := by omega
  have jd : (0 : Int) ≤ (d : Int) := by omega
  have HL := Lib.hid hl
  have HS := Lib.hid hs
  clear hl hs
  have H := Lib.hid h
  have HK := Lib.hid (Keep.refl (· = bv) w)
  clear h
  go_enter Tryz.func138, Tryz.ntmps138
  have hci := H.out.cellN a (c32_at (by rw [HL.out]; exact ha))
  have hcj := H.out.cellN b (c32_at (by rw [HL.out]; exact hb))
  have hfi := H.out.free a
  go_wp2
  go_still_tail 15, (by kernel_rfl)
  change wpList _ _ _ _ _ w.drew
  go_wp2
  obtain ⟨w1, e1, h1, k1⟩ := stepA H.out a b x
  rw [e1]
  have HS1 := Lib.hid (M.small_mixA HS.out _ _ _ : M.Small (M.mixA v a b x))
  have HL1 := Lib.hid ((M.len_mixA .. : (M.mixA v a b x).length = _).trans HL.out)
  have H1 := Lib.hid h1
  have HK1 := Lib.hid (HK.out.trans k1)
  clear e1 h1 k1 hci hcj hfi HS HL H HK
  have HS := HS1; have HL := HL1; have H := H1; have HK := HK1
  clear HS1 HL1 H1 HK1
  obtain ⟨v1, he⟩ : ∃ z : List Nat, M.mixA v a b x = z := ⟨_, rfl⟩
  rw [he] at HS HL H
  have HE1 := Lib.hid he
  clear he
  have hci := H.out.cellN d (c32_at (by rw [HL.out]; exact hd))
  have hcj := H.out.cellN a (c32_at (by rw [HL.out]; exact ha))
  have hfi := H.out.free d
  have hxo := u32_xor_nat _ _ (M.gt_lt HS.out d) (M.gt_lt HS.out a)
  go_wp2
  go_still_tail 16, (by kernel_rfl)
  still_call (rotate_any (M.gt v1 d ^^^ M.gt v1 a) (M.xor_lt (M.gt_lt HS.out d) (M.gt_lt HS.out a)) 16 16 (by decide) _)
  repeat still_step
  refine wpStill_nil ?_
  change wpList _ _ _ _ _ w1.drew
  go_wp2
  obtain ⟨w2, e1, h1, k1⟩ := stepR H.out d a 16
  rw [e1]
  have HS1 := Lib.hid (M.small_mixR HS.out _ _ _ : M.Small (M.mixR v1 d a 16))
  have HL1 := Lib.hid ((M.len_mixR .. : (M.mixR v1 d a 16).length = _).trans HL.out)
  have H1 := Lib.hid h1
  have HK1 := Lib.hid (HK.out.trans k1)
  clear e1 h1 k1 hci hcj hfi hxo HS HL H HK
  have HS := HS1; have HL := HL1; have H := H1; have HK := HK1
  clear HS1 HL1 H1 HK1
  obtain ⟨v2, he⟩ : ∃ z : List Nat, M.mixR v1 d a 16 = z := ⟨_, rfl⟩
  rw [he] at HS HL H
  have HE2 := Lib.hid he
  clear he
  have hci := H.out.cellN c (c32_at (by rw [HL.out]; exact hc))
  have hcj := H.out.cellN d (c32_at (by rw [HL.out]; exact hd))
  have hfi := H.out.free c
  go_wp2
  go_still_tail 13, (by kernel_rfl)
  change wpList _ _ _ _ _ w2.drew
  go_wp2
  obtain ⟨w3, e1, h1, k1⟩ := stepC H.out c d
  rw [e1]
  have HS1 := Lib.hid (M.small_mixC HS.out _ _ : M.Small (M.mixC v2 c d))
  have HL1 := Lib.hid ((M.len_mixC .. : (M.mixC v2 c d).length = _).trans HL.out)
  have H1 := Lib.hid h1
  have HK1 := Lib.hid (HK.out.trans k1)
  clear e1 h1 k1 hci hcj hfi HS HL H HK
  have HS := HS1; have HL := HL1; have H := H1; have HK := HK1
  clear HS1 HL1 H1 HK1
  obtain ⟨v3, he⟩ : ∃ z : List Nat, M.mixC v2 c d = z := ⟨_, rfl⟩
  rw [he] at HS HL H
  have HE3 := Lib.hid he
  clear he
  have hci := H.out.cellN b (c32_at (by rw [HL.out]; exact hb))
  have hcj := H.out.cellN c (c32_at (by rw [HL.out]; exact hc))
  have hfi := H.out.free b
  have hxo := u32_xor_nat _ _ (M.gt_lt HS.out b) (M.gt_lt HS.out c)
  go_wp2
  go_still_tail 16, (by kernel_rfl)
  still_call (rotate_any (M.gt v3 b ^^^ M.gt v3 c) (M.xor_lt (M.gt_lt HS.out b) (M.gt_lt HS.out c)) 12 12 (by decide) _)
  repeat still_step
  refine wpStill_nil ?_
  change wpList _ _ _ _ _ w3.drew
  go_wp2
  obtain ⟨w4, e1, h1, k1⟩ := stepR H.out b c 12
  rw [e1]
  have HS1 := Lib.hid (M.small_mixR HS.out _ _ _ : M.Small (M.mixR v3 b c 12))
  have HL1 := Lib.hid ((M.len_mixR .. : (M.mixR v3 b c 12).length = _).trans HL.out)
  have H1 := Lib.hid h1
  have HK1 := Lib.hid (HK.out.trans k1)
  clear e1 h1 k1 hci hcj hfi hxo HS HL H HK
  have HS := HS1; have HL := HL1; have H := H1; have HK := HK1
  clear HS1 HL1 H1 HK1
  obtain ⟨v4, he⟩ : ∃ z : List Nat, M.mixR v3 b c 12 = z := ⟨_, rfl⟩
  rw [he] at HS HL H
  have HE4 := Lib.hid he
  clear he
  have hci := H.out.cellN a (c32_at (by rw [HL.out]; exact ha))
  have hcj := H.out.cellN b (c32_at (by rw [HL.out]; exact hb))
  have hfi := H.out.free a
  go_wp2
  go_still_tail 15, (by kernel_rfl)
  change wpList _ _ _ _ _ w4.drew
  go_wp2
  obtain ⟨w5, e1, h1, k1⟩ := stepA H.out a b y
  rw [e1]
  have HS1 := Lib.hid (M.small_mixA HS.out _ _ _ : M.Small (M.mixA v4 a b y))
  have HL1 := Lib.hid ((M.len_mixA .. : (M.mixA v4 a b y).length = _).trans HL.out)
  have H1 := Lib.hid h1
  have HK1 := Lib.hid (HK.out.trans k1)
  clear e1 h1 k1 hci hcj hfi HS HL H HK
  have HS := HS1; have HL := HL1; have H := H1; have HK := HK1
  clear HS1 HL1 H1 HK1
  obtain ⟨v5, he⟩ : ∃ z : List Nat, M.mixA v4 a b y = z := ⟨_, rfl⟩
  rw [he] at HS HL H
  have HE5 := Lib.hid he
  clear he
  have hci := H.out.cellN d (c32_at (by rw [HL.out]; exact hd))
  have hcj := H.out.cellN a (c32_at (by rw [HL.out]; exact ha))
  have hfi := H.out.free d
  have hxo := u32_xor_nat _ _ (M.gt_lt HS.out d) (M.gt_lt HS.out a)
  go_wp2
  go_still_tail 16, (by kernel_rfl)
  still_call (rotate_any (M.gt v5 d ^^^ M.gt v5 a) (M.xor_lt (M.gt_lt HS.out d) (M.gt_lt HS.out a)) 8 8 (by decide) _)
  repeat still_step
  refine wpStill_nil ?_
  change wpList _ _ _ _ _ w5.drew
  go_wp2
  obtain ⟨w6, e1, h1, k1⟩ := stepR H.out d a 8
  rw [e1]
  have HS1 := Lib.hid (M.small_mixR HS.out _ _ _ : M.Small (M.mixR v5 d a 8))
  have HL1 := Lib.hid ((M.len_mixR .. : (M.mixR v5 d a 8).length = _).trans HL.out)
  have H1 := Lib.hid h1
  have HK1 := Lib.hid (HK.out.trans k1)
  clear e1 h1 k1 hci hcj hfi hxo HS HL H HK
  have HS := HS1; have HL := HL1; have H := H1; have HK := HK1
  clear HS1 HL1 H1 HK1
  obtain ⟨v6, he⟩ : ∃ z : List Nat, M.mixR v5 d a 8 = z := ⟨_, rfl⟩
  rw [he] at HS HL H
  have HE6 := Lib.hid he
  clear he
  have hci := H.out.cellN c (c32_at (by rw [HL.out]; exact hc))
  have hcj := H.out.cellN d (c32_at (by rw [HL.out]; exact hd))
  have hfi := H.out.free c
  go_wp2
  go_still_tail 13, (by kernel_rfl)
  change wpList _ _ _ _ _ w6.drew
  go_wp2
  obtain ⟨w7, e1, h1, k1⟩ := stepC H.out c d
  rw [e1]
  have HS1 := Lib.hid (M.small_mixC HS.out _ _ : M.Small (M.mixC v6 c d))
  have HL1 := Lib.hid ((M.len_mixC .. : (M.mixC v6 c d).length = _).trans HL.out)
  have H1 := Lib.hid h1
  have HK1 := Lib.hid (HK.out.trans k1)
  clear e1 h1 k1 hci hcj hfi HS HL H HK
  have HS := HS1; have HL := HL1; have H := H1; have HK := HK1
  clear HS1 HL1 H1 HK1
  obtain ⟨v7, he⟩ : ∃ z : List Nat, M.mixC v6 c d = z := ⟨_, rfl⟩
  rw [he] at HS HL H
  have HE7 := Lib.hid he
  clear he
  have hci := H.out.cellN b (c32_at (by rw [HL.out]; exact hb))
  have hcj := H.out.cellN c (c32_at (by rw [HL.out]; exact hc))
  have hfi := H.out.free b
  have hxo := u32_xor_nat _ _ (M.gt_lt HS.out b) (M.gt_lt HS.out c)
  go_wp2
  go_still_tail 16, (by kernel_rfl)
  still_call (rotate_any (M.gt v7 b ^^^ M.gt v7 c) (M.xor_lt (M.gt_lt HS.out b) (M.gt_lt HS.out c)) 7 7 (by decide) _)
  repeat still_step
  refine wpStill_nil ?_
  change wpList _ _ _ _ _ w7.drew
  go_wp2
  obtain ⟨w8, e1, h1, k1⟩ := stepR H.out b c 7
  rw [e1]
  have HS1 := Lib.hid (M.small_mixR HS.out _ _ _ : M.Small (M.mixR v7 b c 7))
  have HL1 := Lib.hid ((M.len_mixR .. : (M.mixR v7 b c 7).length = _).trans HL.out)
  have H1 := Lib.hid h1
  have HK1 := Lib.hid (HK.out.trans k1)
  clear e1 h1 k1 hci hcj hfi hxo HS HL H HK
  have HS := HS1; have HL := HL1; have H := H1; have HK := HK1
  clear HS1 HL1 H1 HK1
  obtain ⟨v8, he⟩ : ∃ z : List Nat, M.mixR v7 b c 7 = z := ⟨_, rfl⟩
  rw [he] at HS HL H
  have HE8 := Lib.hid he
  clear he
  have hm : M.mix v a b c d x y = v8 := by
    unfold M.mix M.mixH
    rw [HE1.out, HE2.out, HE3.out, HE4.out, HE5.out, HE6.out, HE7.out, HE8.out]
  go_end0
  exact ⟨rfl, by rw [hm]; exact H.out, HK.out⟩
end Go.Proofs.YtabcobadglgfkaaGreatDoor

/- The program's round: eight mixings by the order s. -/
namespace Go.Proofs.YtabcobadglgfkaaGreatDoor
open Go.RowKit

theorem mix_at (bv : Nat) (v : List Nat) (hl : v.length = 16) (hs : M.Small v) (a b c d x y : Nat) (A B C D : Int) (h : A = (a : Int) ∧ B = (b : Int) ∧ C = (c : Int) ∧ D = (d : Int) ∧ a < 16 ∧ b < 16 ∧ c < 16 ∧ d < 16)
    (hx : x < 4294967296) (hy : y < 4294967296) (w : World) (hv : Blk w bv (c32 v) 88) :
    Calls Tryz.prog 138 #[.pointer (some ⟨bv, 0, none⟩), .int .i64 A, .int .i64 B, .int .i64 C, .int .i64 D, .int .u32 x, .int .u32 y] w fun e w' =>
      e = .returned (.tuple #[]) ∧ Blk w' bv (c32 (M.mix v a b c d x y)) 88 ∧ Keep (· = bv) w w' := by
  obtain ⟨rfl, rfl, rfl, rfl, h1, h2, h3, h4⟩ := h
  exact mix_any bv v hl hs a b c d x y h1 h2 h3 h4 hx hy w hv

def c8 (v : List Nat) : Array Value := (v.map fun (n : Nat) => Value.int .u8 (n : Int)).toArray
theorem c8_at {v : List Nat} {i : Nat} (h : i < v.length) : (c8 v)[i]? = some (.int .u8 (M.gt v i : Nat)) := ints_at .u8 h

set_option maxHeartbeats 4000000 in
set_option maxRecDepth 100000 in
theorem round_any (bv bm bs : Nat) (v m s : List Nat) (hl : v.length = 16) (hs : M.Small v) (hml : m.length = 16) (hms : M.Small m) (hsl : s.length = 16) (hss : ∀ i, M.gt s i < 16) (hvm : bm ≠ bv) (hvs : bs ≠ bv)
    (w : World) (h : Blk w bv (c32 v) 88) (hm : Blk w bm (c32 m) 88) (hs8 : Blk w bs (c8 s) 128) :
    Calls Tryz.prog 100 #[.pointer (some ⟨bv, 0, none⟩), .pointer (some ⟨bm, 0, none⟩), .pointer (some ⟨bs, 0, none⟩)] w fun e w' =>
      e = .returned (.tuple #[]) ∧ Blk w' bv (c32 (M.round v m s)) 88 ∧ Keep (· = bv) w w' := by
  have HL := Lib.hid hl
  have HS := Lib.hid hs
  have HML := Lib.hid hml
  have HMS := Lib.hid hms
  have HSL := Lib.hid hsl
  have HSS := Lib.hid hss
  have HV := Lib.hid h
  have HM := Lib.hid hm
  have HO := Lib.hid hs8
  have HVM := Lib.hid hvm
  have HVS := Lib.hid hvs
  have HK := Lib.hid (Keep.refl (· = bv) w)
  clear hl hs hml hms hsl hss h hm hs8 hvm hvs
  go_enter Tryz.func100, Tryz.ntmps100
  have c1 := HO.out.cellN 0 (c8_at (by rw [HSL.out]; decide))
  have c2 := HO.out.cellN 1 (c8_at (by rw [HSL.out]; decide))
  have l1 : ((M.gt s 0 : Nat) : Int) < 16 := by have := HSS.out 0; omega
  have l2 : ((M.gt s 1 : Nat) : Int) < 16 := by have := HSS.out 1; omega
  have p1 : (0 : Int) ≤ ((M.gt s 0 : Nat) : Int) := by omega
  have p2 : (0 : Int) ≤ ((M.gt s 1 : Nat) : Int) := by omega
  have c3 := HM.out.cellN (M.gt s 0) (c32_at (by rw [HML.out]; exact HSS.out _))
  have c4 := HM.out.cellN (M.gt s 1) (c32_at (by rw [HML.out]; exact HSS.out _))
  go_wp2
  go_still_tail 17, (by kernel_rfl)
  change wpList _ _ _ _ _ w.drew
  have G := Lib.hid (mix_at bv v HL.out HS.out 0 4 8 12 (M.gt m (M.gt s 0)) (M.gt m (M.gt s 1)) 0 4 8 12 (by decide) (M.gt_lt HMS.out _) (M.gt_lt HMS.out _) w.drew HV.out)
  go_wp2_with ((with_reducible refine G.out.mono ?_); rintro e w1 ⟨rfl, h1, k1⟩)
  have HS1 := Lib.hid (M.small_mix HS.out _ _ _ _ _ _ : M.Small (M.mix v 0 4 8 12 (M.gt m (M.gt s 0)) (M.gt m (M.gt s 1))))
  have HL1 := Lib.hid ((M.len_mix .. : (M.mix v 0 4 8 12 (M.gt m (M.gt s 0)) (M.gt m (M.gt s 1))).length = _).trans HL.out)
  have HV1 := Lib.hid h1
  have HM1 := Lib.hid ((show Blk w.drew bm (c32 m) _ from HM.out).keep k1 (show ¬ (fun k => k = bv) bm from HVM.out))
  have HO1 := Lib.hid ((show Blk w.drew bs (c8 s) _ from HO.out).keep k1 (show ¬ (fun k => k = bv) bs from HVS.out))
  have HK1 := Lib.hid ((HK.out.drew.trans k1 : Keep (· = bv) w w1))
  clear h1 k1 c1 c2 c3 c4 l1 l2 p1 p2 G HS HL HV HM HO HK
  have HS := HS1; have HL := HL1; have HV := HV1; have HM := HM1; have HO := HO1; have HK := HK1
  clear HS1 HL1 HV1 HM1 HO1 HK1
  obtain ⟨v1, he⟩ : ∃ z : List Nat, M.mix v 0 4 8 12 (M.gt m (M.gt s 0)) (M.gt m (M.gt s 1)) = z := ⟨_, rfl⟩
  rw [he] at HS HL HV
  have HE1 := Lib.hid he
  clear he
  have c1 := HO.out.cellN 2 (c8_at (by rw [HSL.out]; decide))
  have c2 := HO.out.cellN 3 (c8_at (by rw [HSL.out]; decide))
  have l1 : ((M.gt s 2 : Nat) : Int) < 16 := by have := HSS.out 2; omega
  have l2 : ((M.gt s 3 : Nat) : Int) < 16 := by have := HSS.out 3; omega
  have p1 : (0 : Int) ≤ ((M.gt s 2 : Nat) : Int) := by omega
  have p2 : (0 : Int) ≤ ((M.gt s 3 : Nat) : Int) := by omega
  have c3 := HM.out.cellN (M.gt s 2) (c32_at (by rw [HML.out]; exact HSS.out _))
  have c4 := HM.out.cellN (M.gt s 3) (c32_at (by rw [HML.out]; exact HSS.out _))
  go_wp2
  go_still_tail 17, (by kernel_rfl)
  change wpList _ _ _ _ _ w1.drew
  have G := Lib.hid (mix_at bv v1 HL.out HS.out 1 5 9 13 (M.gt m (M.gt s 2)) (M.gt m (M.gt s 3)) 1 5 9 13 (by decide) (M.gt_lt HMS.out _) (M.gt_lt HMS.out _) w1.drew HV.out)
  go_wp2_with ((with_reducible refine G.out.mono ?_); rintro e w2 ⟨rfl, h1, k1⟩)
  have HS1 := Lib.hid (M.small_mix HS.out _ _ _ _ _ _ : M.Small (M.mix v1 1 5 9 13 (M.gt m (M.gt s 2)) (M.gt m (M.gt s 3))))
  have HL1 := Lib.hid ((M.len_mix .. : (M.mix v1 1 5 9 13 (M.gt m (M.gt s 2)) (M.gt m (M.gt s 3))).length = _).trans HL.out)
  have HV1 := Lib.hid h1
  have HM1 := Lib.hid ((show Blk w1.drew bm (c32 m) _ from HM.out).keep k1 (show ¬ (fun k => k = bv) bm from HVM.out))
  have HO1 := Lib.hid ((show Blk w1.drew bs (c8 s) _ from HO.out).keep k1 (show ¬ (fun k => k = bv) bs from HVS.out))
  have HK1 := Lib.hid ((HK.out.drew.trans k1 : Keep (· = bv) w w2))
  clear h1 k1 c1 c2 c3 c4 l1 l2 p1 p2 G HS HL HV HM HO HK
  have HS := HS1; have HL := HL1; have HV := HV1; have HM := HM1; have HO := HO1; have HK := HK1
  clear HS1 HL1 HV1 HM1 HO1 HK1
  obtain ⟨v2, he⟩ : ∃ z : List Nat, M.mix v1 1 5 9 13 (M.gt m (M.gt s 2)) (M.gt m (M.gt s 3)) = z := ⟨_, rfl⟩
  rw [he] at HS HL HV
  have HE2 := Lib.hid he
  clear he
  have c1 := HO.out.cellN 4 (c8_at (by rw [HSL.out]; decide))
  have c2 := HO.out.cellN 5 (c8_at (by rw [HSL.out]; decide))
  have l1 : ((M.gt s 4 : Nat) : Int) < 16 := by have := HSS.out 4; omega
  have l2 : ((M.gt s 5 : Nat) : Int) < 16 := by have := HSS.out 5; omega
  have p1 : (0 : Int) ≤ ((M.gt s 4 : Nat) : Int) := by omega
  have p2 : (0 : Int) ≤ ((M.gt s 5 : Nat) : Int) := by omega
  have c3 := HM.out.cellN (M.gt s 4) (c32_at (by rw [HML.out]; exact HSS.out _))
  have c4 := HM.out.cellN (M.gt s 5) (c32_at (by rw [HML.out]; exact HSS.out _))
  go_wp2
  go_still_tail 17, (by kernel_rfl)
  change wpList _ _ _ _ _ w2.drew
  have G := Lib.hid (mix_at bv v2 HL.out HS.out 2 6 10 14 (M.gt m (M.gt s 4)) (M.gt m (M.gt s 5)) 2 6 10 14 (by decide) (M.gt_lt HMS.out _) (M.gt_lt HMS.out _) w2.drew HV.out)
  go_wp2_with ((with_reducible refine G.out.mono ?_); rintro e w3 ⟨rfl, h1, k1⟩)
  have HS1 := Lib.hid (M.small_mix HS.out _ _ _ _ _ _ : M.Small (M.mix v2 2 6 10 14 (M.gt m (M.gt s 4)) (M.gt m (M.gt s 5))))
  have HL1 := Lib.hid ((M.len_mix .. : (M.mix v2 2 6 10 14 (M.gt m (M.gt s 4)) (M.gt m (M.gt s 5))).length = _).trans HL.out)
  have HV1 := Lib.hid h1
  have HM1 := Lib.hid ((show Blk w2.drew bm (c32 m) _ from HM.out).keep k1 (show ¬ (fun k => k = bv) bm from HVM.out))
  have HO1 := Lib.hid ((show Blk w2.drew bs (c8 s) _ from HO.out).keep k1 (show ¬ (fun k => k = bv) bs from HVS.out))
  have HK1 := Lib.hid ((HK.out.drew.trans k1 : Keep (· = bv) w w3))
  clear h1 k1 c1 c2 c3 c4 l1 l2 p1 p2 G HS HL HV HM HO HK
  have HS := HS1; have HL := HL1; have HV := HV1; have HM := HM1; have HO := HO1; have HK := HK1
  clear HS1 HL1 HV1 HM1 HO1 HK1
  obtain ⟨v3, he⟩ : ∃ z : List Nat, M.mix v2 2 6 10 14 (M.gt m (M.gt s 4)) (M.gt m (M.gt s 5)) = z := ⟨_, rfl⟩
  rw [he] at HS HL HV
  have HE3 := Lib.hid he
  clear he
  have c1 := HO.out.cellN 6 (c8_at (by rw [HSL.out]; decide))
  have c2 := HO.out.cellN 7 (c8_at (by rw [HSL.out]; decide))
  have l1 : ((M.gt s 6 : Nat) : Int) < 16 := by have := HSS.out 6; omega
  have l2 : ((M.gt s 7 : Nat) : Int) < 16 := by have := HSS.out 7; omega
  have p1 : (0 : Int) ≤ ((M.gt s 6 : Nat) : Int) := by omega
  have p2 : (0 : Int) ≤ ((M.gt s 7 : Nat) : Int) := by omega
  have c3 := HM.out.cellN (M.gt s 6) (c32_at (by rw [HML.out]; exact HSS.out _))
  have c4 := HM.out.cellN (M.gt s 7) (c32_at (by rw [HML.out]; exact HSS.out _))
  go_wp2
  go_still_tail 17, (by kernel_rfl)
  change wpList _ _ _ _ _ w3.drew
  have G := Lib.hid (mix_at bv v3 HL.out HS.out 3 7 11 15 (M.gt m (M.gt s 6)) (M.gt m (M.gt s 7)) 3 7 11 15 (by decide) (M.gt_lt HMS.out _) (M.gt_lt HMS.out _) w3.drew HV.out)
  go_wp2_with ((with_reducible refine G.out.mono ?_); rintro e w4 ⟨rfl, h1, k1⟩)
  have HS1 := Lib.hid (M.small_mix HS.out _ _ _ _ _ _ : M.Small (M.mix v3 3 7 11 15 (M.gt m (M.gt s 6)) (M.gt m (M.gt s 7))))
  have HL1 := Lib.hid ((M.len_mix .. : (M.mix v3 3 7 11 15 (M.gt m (M.gt s 6)) (M.gt m (M.gt s 7))).length = _).trans HL.out)
  have HV1 := Lib.hid h1
  have HM1 := Lib.hid ((show Blk w3.drew bm (c32 m) _ from HM.out).keep k1 (show ¬ (fun k => k = bv) bm from HVM.out))
  have HO1 := Lib.hid ((show Blk w3.drew bs (c8 s) _ from HO.out).keep k1 (show ¬ (fun k => k = bv) bs from HVS.out))
  have HK1 := Lib.hid ((HK.out.drew.trans k1 : Keep (· = bv) w w4))
  clear h1 k1 c1 c2 c3 c4 l1 l2 p1 p2 G HS HL HV HM HO HK
  have HS := HS1; have HL := HL1; have HV := HV1; have HM := HM1; have HO := HO1; have HK := HK1
  clear HS1 HL1 HV1 HM1 HO1 HK1
  obtain ⟨v4, he⟩ : ∃ z : List Nat, M.mix v3 3 7 11 15 (M.gt m (M.gt s 6)) (M.gt m (M.gt s 7)) = z := ⟨_, rfl⟩
  rw [he] at HS HL HV
  have HE4 := Lib.hid he
  clear he
  have c1 := HO.out.cellN 8 (c8_at (by rw [HSL.out]; decide))
  have c2 := HO.out.cellN 9 (c8_at (by rw [HSL.out]; decide))
  have l1 : ((M.gt s 8 : Nat) : Int) < 16 := by have := HSS.out 8; omega
  have l2 : ((M.gt s 9 : Nat) : Int) < 16 := by have := HSS.out 9; omega
  have p1 : (0 : Int) ≤ ((M.gt s 8 : Nat) : Int) := by omega
  have p2 : (0 : Int) ≤ ((M.gt s 9 : Nat) : Int) := by omega
  have c3 := HM.out.cellN (M.gt s 8) (c32_at (by rw [HML.out]; exact HSS.out _))
  have c4 := HM.out.cellN (M.gt s 9) (c32_at (by rw [HML.out]; exact HSS.out _))
  go_wp2
  go_still_tail 17, (by kernel_rfl)
  change wpList _ _ _ _ _ w4.drew
  have G := Lib.hid (mix_at bv v4 HL.out HS.out 0 5 10 15 (M.gt m (M.gt s 8)) (M.gt m (M.gt s 9)) 0 5 10 15 (by decide) (M.gt_lt HMS.out _) (M.gt_lt HMS.out _) w4.drew HV.out)
  go_wp2_with ((with_reducible refine G.out.mono ?_); rintro e w5 ⟨rfl, h1, k1⟩)
  have HS1 := Lib.hid (M.small_mix HS.out _ _ _ _ _ _ : M.Small (M.mix v4 0 5 10 15 (M.gt m (M.gt s 8)) (M.gt m (M.gt s 9))))
  have HL1 := Lib.hid ((M.len_mix .. : (M.mix v4 0 5 10 15 (M.gt m (M.gt s 8)) (M.gt m (M.gt s 9))).length = _).trans HL.out)
  have HV1 := Lib.hid h1
  have HM1 := Lib.hid ((show Blk w4.drew bm (c32 m) _ from HM.out).keep k1 (show ¬ (fun k => k = bv) bm from HVM.out))
  have HO1 := Lib.hid ((show Blk w4.drew bs (c8 s) _ from HO.out).keep k1 (show ¬ (fun k => k = bv) bs from HVS.out))
  have HK1 := Lib.hid ((HK.out.drew.trans k1 : Keep (· = bv) w w5))
  clear h1 k1 c1 c2 c3 c4 l1 l2 p1 p2 G HS HL HV HM HO HK
  have HS := HS1; have HL := HL1; have HV := HV1; have HM := HM1; have HO := HO1; have HK := HK1
  clear HS1 HL1 HV1 HM1 HO1 HK1
  obtain ⟨v5, he⟩ : ∃ z : List Nat, M.mix v4 0 5 10 15 (M.gt m (M.gt s 8)) (M.gt m (M.gt s 9)) = z := ⟨_, rfl⟩
  rw [he] at HS HL HV
  have HE5 := Lib.hid he
  clear he
  have c1 := HO.out.cellN 10 (c8_at (by rw [HSL.out]; decide))
  have c2 := HO.out.cellN 11 (c8_at (by rw [HSL.out]; decide))
  have l1 : ((M.gt s 10 : Nat) : Int) < 16 := by have := HSS.out 10; omega
  have l2 : ((M.gt s 11 : Nat) : Int) < 16 := by have := HSS.out 11; omega
  have p1 : (0 : Int) ≤ ((M.gt s 10 : Nat) : Int) := by omega
  have p2 : (0 : Int) ≤ ((M.gt s 11 : Nat) : Int) := by omega
  have c3 := HM.out.cellN (M.gt s 10) (c32_at (by rw [HML.out]; exact HSS.out _))
  have c4 := HM.out.cellN (M.gt s 11) (c32_at (by rw [HML.out]; exact HSS.out _))
  go_wp2
  go_still_tail 17, (by kernel_rfl)
  change wpList _ _ _ _ _ w5.drew
  have G := Lib.hid (mix_at bv v5 HL.out HS.out 1 6 11 12 (M.gt m (M.gt s 10)) (M.gt m (M.gt s 11)) 1 6 11 12 (by decide) (M.gt_lt HMS.out _) (M.gt_lt HMS.out _) w5.drew HV.out)
  go_wp2_with ((with_reducible refine G.out.mono ?_); rintro e w6 ⟨rfl, h1, k1⟩)
  have HS1 := Lib.hid (M.small_mix HS.out _ _ _ _ _ _ : M.Small (M.mix v5 1 6 11 12 (M.gt m (M.gt s 10)) (M.gt m (M.gt s 11))))
  have HL1 := Lib.hid ((M.len_mix .. : (M.mix v5 1 6 11 12 (M.gt m (M.gt s 10)) (M.gt m (M.gt s 11))).length = _).trans HL.out)
  have HV1 := Lib.hid h1
  have HM1 := Lib.hid ((show Blk w5.drew bm (c32 m) _ from HM.out).keep k1 (show ¬ (fun k => k = bv) bm from HVM.out))
  have HO1 := Lib.hid ((show Blk w5.drew bs (c8 s) _ from HO.out).keep k1 (show ¬ (fun k => k = bv) bs from HVS.out))
  have HK1 := Lib.hid ((HK.out.drew.trans k1 : Keep (· = bv) w w6))
  clear h1 k1 c1 c2 c3 c4 l1 l2 p1 p2 G HS HL HV HM HO HK
  have HS := HS1; have HL := HL1; have HV := HV1; have HM := HM1; have HO := HO1; have HK := HK1
  clear HS1 HL1 HV1 HM1 HO1 HK1
  obtain ⟨v6, he⟩ : ∃ z : List Nat, M.mix v5 1 6 11 12 (M.gt m (M.gt s 10)) (M.gt m (M.gt s 11)) = z := ⟨_, rfl⟩
  rw [he] at HS HL HV
  have HE6 := Lib.hid he
  clear he
  have c1 := HO.out.cellN 12 (c8_at (by rw [HSL.out]; decide))
  have c2 := HO.out.cellN 13 (c8_at (by rw [HSL.out]; decide))
  have l1 : ((M.gt s 12 : Nat) : Int) < 16 := by have := HSS.out 12; omega
  have l2 : ((M.gt s 13 : Nat) : Int) < 16 := by have := HSS.out 13; omega
  have p1 : (0 : Int) ≤ ((M.gt s 12 : Nat) : Int) := by omega
  have p2 : (0 : Int) ≤ ((M.gt s 13 : Nat) : Int) := by omega
  have c3 := HM.out.cellN (M.gt s 12) (c32_at (by rw [HML.out]; exact HSS.out _))
  have c4 := HM.out.cellN (M.gt s 13) (c32_at (by rw [HML.out]; exact HSS.out _))
  go_wp2
  go_still_tail 17, (by kernel_rfl)
  change wpList _ _ _ _ _ w6.drew
  have G := Lib.hid (mix_at bv v6 HL.out HS.out 2 7 8 13 (M.gt m (M.gt s 12)) (M.gt m (M.gt s 13)) 2 7 8 13 (by decide) (M.gt_lt HMS.out _) (M.gt_lt HMS.out _) w6.drew HV.out)
  go_wp2_with ((with_reducible refine G.out.mono ?_); rintro e w7 ⟨rfl, h1, k1⟩)
  have HS1 := Lib.hid (M.small_mix HS.out _ _ _ _ _ _ : M.Small (M.mix v6 2 7 8 13 (M.gt m (M.gt s 12)) (M.gt m (M.gt s 13))))
  have HL1 := Lib.hid ((M.len_mix .. : (M.mix v6 2 7 8 13 (M.gt m (M.gt s 12)) (M.gt m (M.gt s 13))).length = _).trans HL.out)
  have HV1 := Lib.hid h1
  have HM1 := Lib.hid ((show Blk w6.drew bm (c32 m) _ from HM.out).keep k1 (show ¬ (fun k => k = bv) bm from HVM.out))
  have HO1 := Lib.hid ((show Blk w6.drew bs (c8 s) _ from HO.out).keep k1 (show ¬ (fun k => k = bv) bs from HVS.out))
  have HK1 := Lib.hid ((HK.out.drew.trans k1 : Keep (· = bv) w w7))
  clear h1 k1 c1 c2 c3 c4 l1 l2 p1 p2 G HS HL HV HM HO HK
  have HS := HS1; have HL := HL1; have HV := HV1; have HM := HM1; have HO := HO1; have HK := HK1
  clear HS1 HL1 HV1 HM1 HO1 HK1
  obtain ⟨v7, he⟩ : ∃ z : List Nat, M.mix v6 2 7 8 13 (M.gt m (M.gt s 12)) (M.gt m (M.gt s 13)) = z := ⟨_, rfl⟩
  rw [he] at HS HL HV
  have HE7 := Lib.hid he
  clear he
  have c1 := HO.out.cellN 14 (c8_at (by rw [HSL.out]; decide))
  have c2 := HO.out.cellN 15 (c8_at (by rw [HSL.out]; decide))
  have l1 : ((M.gt s 14 : Nat) : Int) < 16 := by have := HSS.out 14; omega
  have l2 : ((M.gt s 15 : Nat) : Int) < 16 := by have := HSS.out 15; omega
  have p1 : (0 : Int) ≤ ((M.gt s 14 : Nat) : Int) := by omega
  have p2 : (0 : Int) ≤ ((M.gt s 15 : Nat) : Int) := by omega
  have c3 := HM.out.cellN (M.gt s 14) (c32_at (by rw [HML.out]; exact HSS.out _))
  have c4 := HM.out.cellN (M.gt s 15) (c32_at (by rw [HML.out]; exact HSS.out _))
  go_wp2
  go_still_tail 17, (by kernel_rfl)
  change wpList _ _ _ _ _ w7.drew
  have G := Lib.hid (mix_at bv v7 HL.out HS.out 3 4 9 14 (M.gt m (M.gt s 14)) (M.gt m (M.gt s 15)) 3 4 9 14 (by decide) (M.gt_lt HMS.out _) (M.gt_lt HMS.out _) w7.drew HV.out)
  go_wp2_with ((with_reducible refine G.out.mono ?_); rintro e w8 ⟨rfl, h1, k1⟩)
  have HS1 := Lib.hid (M.small_mix HS.out _ _ _ _ _ _ : M.Small (M.mix v7 3 4 9 14 (M.gt m (M.gt s 14)) (M.gt m (M.gt s 15))))
  have HL1 := Lib.hid ((M.len_mix .. : (M.mix v7 3 4 9 14 (M.gt m (M.gt s 14)) (M.gt m (M.gt s 15))).length = _).trans HL.out)
  have HV1 := Lib.hid h1
  have HM1 := Lib.hid ((show Blk w7.drew bm (c32 m) _ from HM.out).keep k1 (show ¬ (fun k => k = bv) bm from HVM.out))
  have HO1 := Lib.hid ((show Blk w7.drew bs (c8 s) _ from HO.out).keep k1 (show ¬ (fun k => k = bv) bs from HVS.out))
  have HK1 := Lib.hid ((HK.out.drew.trans k1 : Keep (· = bv) w w8))
  clear h1 k1 c1 c2 c3 c4 l1 l2 p1 p2 G HS HL HV HM HO HK
  have HS := HS1; have HL := HL1; have HV := HV1; have HM := HM1; have HO := HO1; have HK := HK1
  clear HS1 HL1 HV1 HM1 HO1 HK1
  obtain ⟨v8, he⟩ : ∃ z : List Nat, M.mix v7 3 4 9 14 (M.gt m (M.gt s 14)) (M.gt m (M.gt s 15)) = z := ⟨_, rfl⟩
  rw [he] at HS HL HV
  have HE8 := Lib.hid he
  clear he
  have hr : M.round v m s = v8 := by
    unfold M.round
    simp only [HE1.out, HE2.out, HE3.out, HE4.out, HE5.out, HE6.out, HE7.out, HE8.out]
  go_end0
  exact ⟨rfl, by rw [hr]; exact HV.out, HK.out⟩
end Go.Proofs.YtabcobadglgfkaaGreatDoor

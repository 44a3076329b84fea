/- Stage 2's own functions on numbers and lists: the mixing, the pressing, the digest, the words. -/
import Derived.Test.YtgodccgbhpannaaDoorBase
import Derived.Laws.BitsAllLaws
namespace Go.Proofs.YtgodccgbhpannaaDoor
open Go.RowKit
namespace M

abbrev W32 : Nat := 4294967296
/-- Turned right by n of 32 bits. -/
def rot (x n : Nat) : Nat := x / 2 ^ n ||| x * 2 ^ (32 - n) % W32
def gt (v : List Nat) (i : Nat) : Nat := v.getD i 0
def mixA (v : List Nat) (a b x : Nat) : List Nat := v.set a ((gt v a + gt v b + x) % W32)
def mixC (v : List Nat) (a b : Nat) : List Nat := v.set a ((gt v a + gt v b) % W32)
def mixR (v : List Nat) (a b n : Nat) : List Nat := v.set a (rot (gt v a ^^^ gt v b) n)
def mixH (v : List Nat) (a b c d x n m : Nat) : List Nat := mixR (mixC (mixR (mixA v a b x) d a n) c d) b c m
def mix (v : List Nat) (a b c d x y : Nat) : List Nat := mixH (mixH v a b c d x 16 12) a b c d y 8 7
def round (v m s : List Nat) : List Nat :=
  let f (i : Nat) : Nat := gt m (gt s i)
  let v := mix v 0 4 8 12 (f 0) (f 1)
  let v := mix v 1 5 9 13 (f 2) (f 3)
  let v := mix v 2 6 10 14 (f 4) (f 5)
  let v := mix v 3 7 11 15 (f 6) (f 7)
  let v := mix v 0 5 10 15 (f 8) (f 9)
  let v := mix v 1 6 11 12 (f 10) (f 11)
  let v := mix v 2 7 8 13 (f 12) (f 13)
  mix v 3 4 9 14 (f 14) (f 15)

def iv : List Nat := [0x6a09e667, 0xbb67ae85, 0x3c6ef372, 0xa54ff53a, 0x510e527f, 0x9b05688c, 0x1f83d9ab, 0x5be0cd19]
def orders : List (List Nat) := [
  [0, 1, 2, 3, 4, 5, 6, 7, 8, 9, 10, 11, 12, 13, 14, 15],
  [14, 10, 4, 8, 9, 15, 13, 6, 1, 12, 0, 2, 11, 7, 5, 3],
  [11, 8, 12, 0, 5, 2, 15, 13, 10, 14, 3, 6, 7, 1, 9, 4],
  [7, 9, 3, 1, 13, 12, 11, 14, 2, 6, 5, 10, 4, 0, 15, 8],
  [9, 0, 5, 7, 2, 4, 10, 15, 14, 1, 11, 12, 6, 8, 3, 13],
  [2, 12, 6, 10, 0, 11, 8, 3, 4, 13, 7, 5, 15, 14, 1, 9],
  [12, 5, 1, 15, 14, 13, 4, 10, 0, 7, 6, 3, 9, 2, 8, 11],
  [13, 11, 7, 14, 12, 1, 3, 9, 5, 0, 15, 4, 8, 6, 2, 10],
  [6, 15, 14, 9, 11, 3, 0, 8, 12, 2, 13, 7, 1, 4, 10, 5],
  [10, 2, 8, 4, 7, 6, 1, 5, 15, 11, 9, 14, 3, 12, 13, 0]]

/-- A list of numbers that are all below 2^32. -/
def Small (v : List Nat) : Prop := ∀ x ∈ v, x < W32
theorem gt_lt {v : List Nat} (h : Small v) (i : Nat) : gt v i < W32 := by
  unfold gt
  rw [List.getD_eq_getElem?_getD]
  rcases hq : v[i]? with _ | x
  · exact (by decide : 0 < W32)
  · exact h x (List.mem_of_getElem? hq)
theorem small_set {v : List Nat} (h : Small v) (i : Nat) {x : Nat} (hx : x < W32) : Small (v.set i x) := by
  intro y hy
  rcases List.mem_or_eq_of_mem_set hy with hy | rfl
  · exact h y hy
  · exact hx
theorem rot_lt {x : Nat} (h : x < W32) (n : Nat) : rot x n < W32 := by
  unfold rot
  have h1 : x / 2 ^ n ≤ x := Nat.div_le_self _ _
  exact Nat.or_lt_two_pow (n := 32) (Nat.lt_of_le_of_lt h1 h) (Nat.mod_lt _ (by decide))
theorem xor_lt {x y : Nat} (hx : x < W32) (hy : y < W32) : x ^^^ y < W32 := Nat.xor_lt_two_pow (n := 32) hx hy
theorem small_mixA {v : List Nat} (h : Small v) (a b x : Nat) : Small (mixA v a b x) := small_set h _ (Nat.mod_lt _ (by decide))
theorem small_mixC {v : List Nat} (h : Small v) (a b : Nat) : Small (mixC v a b) := small_set h _ (Nat.mod_lt _ (by decide))
theorem small_mixR {v : List Nat} (h : Small v) (a b n : Nat) : Small (mixR v a b n) := small_set h _ (rot_lt (xor_lt (gt_lt h _) (gt_lt h _)) _)
theorem small_mixH {v : List Nat} (h : Small v) (a b c d x n m : Nat) : Small (mixH v a b c d x n m) := small_mixR (small_mixC (small_mixR (small_mixA h _ _ _) _ _ _) _ _) _ _ _
theorem small_mix {v : List Nat} (h : Small v) (a b c d x y : Nat) : Small (mix v a b c d x y) := small_mixH (small_mixH h _ _ _ _ _ _ _) _ _ _ _ _ _ _
theorem small_round {v m s : List Nat} (h : Small v) : Small (round v m s) := by
  unfold round
  exact small_mix (small_mix (small_mix (small_mix (small_mix (small_mix (small_mix (small_mix h _ _ _ _ _ _) _ _ _ _ _ _) _ _ _ _ _ _) _ _ _ _ _ _) _ _ _ _ _ _) _ _ _ _ _ _) _ _ _ _ _ _) _ _ _ _ _ _
theorem len_mixA (v : List Nat) (a b x : Nat) : (mixA v a b x).length = v.length := by simp [mixA]
theorem len_mixC (v : List Nat) (a b : Nat) : (mixC v a b).length = v.length := by simp [mixC]
theorem len_mixR (v : List Nat) (a b n : Nat) : (mixR v a b n).length = v.length := by simp [mixR]
theorem len_mix (v : List Nat) (a b c d x y : Nat) : (mix v a b c d x y).length = v.length := by simp [mix, mixH, len_mixA, len_mixC, len_mixR]
theorem len_round (v m s : List Nat) : (round v m s).length = v.length := by simp [round, len_mix]

/-- The state ahead of the rounds. -/
def start (h : List Nat) (n : Nat) (last : Bool) : List Nat :=
  let v := h ++ iv
  let v := v.set 12 (gt v 12 ^^^ n % W32)
  let v := v.set 13 (gt v 13 ^^^ n / W32 % W32)
  if last then v.set 14 (gt v 14 ^^^ (W32 - 1)) else v
def rounds (v m : List Nat) (l : List (List Nat)) : List Nat := l.foldl (fun v s => round v m s) v
def fold (h v : List Nat) : List Nat := (List.range 8).map fun i => gt h i ^^^ (gt v i ^^^ gt v (i + 8))
/-- A block's numbers m pressed into h. -/
def press (h m : List Nat) (n : Nat) (last : Bool) : List Nat := fold h (rounds (start h n last) m orders)
def byte (d : List UInt8) (i : Nat) : Nat := (d.getD i 0).toNat
def num (d : List UInt8) (i : Nat) : Nat := byte d (4 * i) + 256 * byte d (4 * i + 1) + 65536 * byte d (4 * i + 2) + 16777216 * byte d (4 * i + 3)
/-- The numbers of a block, which is padded with zeros. -/
def nums (d : List UInt8) : List Nat := (List.range 16).map (num d)
/-- The digest's numbers of what is left, behind n bytes. -/
def sumFrom : Nat → List Nat → Nat → List UInt8 → List Nat
  | 0, h, _, _ => h
  | f + 1, h, n, d => if d.length ≤ 64 then press h (nums d) (n + d.length) true else sumFrom f (press h (nums (d.take 64)) (n + 64) false) (n + 64) (d.drop 64)
def h0 : List Nat := iv.set 0 (gt iv 0 ^^^ 0x01010020)
def four (x : Nat) : List UInt8 := [UInt8.ofNat x, UInt8.ofNat (x / 256), UInt8.ofNat (x / 65536), UInt8.ofNat (x / 16777216)]
def digest (h : List Nat) : List UInt8 := h.flatMap four
def sum (d : List UInt8) : List UInt8 := digest (sumFrom (d.length + 1) h0 0 d)
def word (c : UInt8) : List UInt8 := [97 + c / 16, 97 + c % 16]
def words (d : List UInt8) : List UInt8 := d.flatMap word

theorem small_iv : Small iv := by unfold Small iv; decide
theorem small_h0 : Small h0 := by unfold Small h0; decide
theorem byte_lt (d : List UInt8) (i : Nat) : byte d i < 256 := (d.getD i 0).toNat_lt
theorem num_lt (d : List UInt8) (i : Nat) : num d i < W32 := by
  have h0 := byte_lt d (4 * i); have h1 := byte_lt d (4 * i + 1); have h2 := byte_lt d (4 * i + 2); have h3 := byte_lt d (4 * i + 3)
  unfold num W32
  omega
theorem small_nums (d : List UInt8) : Small (nums d) := by
  intro x hx
  obtain ⟨i, _, rfl⟩ := List.mem_map.1 hx
  exact num_lt d i
theorem len_nums (d : List UInt8) : (nums d).length = 16 := by simp [nums]
theorem len_start (h : List Nat) (n : Nat) (last : Bool) : (start h n last).length = h.length + 8 := by
  unfold start
  cases last <;> simp [iv]
theorem small_start {h : List Nat} (hh : Small h) (n : Nat) (last : Bool) : Small (start h n last) := by
  have h1 : Small (h ++ iv) := by
    intro x hx
    rcases List.mem_append.1 hx with hx | hx
    · exact hh x hx
    · exact small_iv x hx
  have h2 : Small ((h ++ iv).set 12 (gt (h ++ iv) 12 ^^^ n % W32)) := small_set h1 _ (xor_lt (gt_lt h1 _) (Nat.mod_lt _ (by decide)))
  have h3 := small_set h2 13 (xor_lt (gt_lt h2 13) (Nat.mod_lt (n / W32) (by decide : W32 > 0)))
  unfold start
  cases last
  · exact h3
  · exact small_set h3 _ (xor_lt (gt_lt h3 _) (by decide))
theorem rounds_cons (v m s : List Nat) (l : List (List Nat)) : rounds v m (s :: l) = rounds (round v m s) m l := List.foldl_cons ..
theorem small_rounds {m : List Nat} (l : List (List Nat)) : ∀ {v : List Nat}, Small v → Small (rounds v m l) := by
  induction l with
  | nil => intro v h; exact h
  | cons s l ih =>
    intro v h
    rw [rounds_cons]
    exact ih (small_round h)
theorem len_rounds {m : List Nat} (l : List (List Nat)) : ∀ (v : List Nat), (rounds v m l).length = v.length := by
  induction l with
  | nil => intro v; rfl
  | cons s l ih =>
    intro v
    rw [rounds_cons, ih, len_round]
theorem small_fold {h v : List Nat} (hh : Small h) (hv : Small v) : Small (fold h v) := by
  intro x hx
  obtain ⟨i, _, rfl⟩ := List.mem_map.1 hx
  exact xor_lt (gt_lt hh _) (xor_lt (gt_lt hv _) (gt_lt hv _))
theorem len_fold (h v : List Nat) : (fold h v).length = 8 := by simp [fold]
theorem small_press {h : List Nat} (hh : Small h) (m : List Nat) (n : Nat) (last : Bool) : Small (press h m n last) := small_fold hh (small_rounds _ (small_start hh _ _))
theorem len_press (h m : List Nat) (n : Nat) (last : Bool) : (press h m n last).length = 8 := len_fold _ _
theorem len_digest (h : List Nat) : (digest h).length = 4 * h.length := by
  unfold digest
  induction h with
  | nil => rfl
  | cons x r ih => simp only [List.flatMap_cons, List.length_append, ih, four, List.length_cons, List.length_nil]; omega
theorem len_sumFrom : ∀ (f : Nat) (h : List Nat) (n : Nat) (d : List UInt8), h.length = 8 → (sumFrom f h n d).length = 8
  | 0, h, _, _, hh => hh
  | f + 1, h, n, d, hh => by
      unfold sumFrom
      split
      · exact len_press _ _ _ _
      · exact len_sumFrom f _ _ _ (len_press _ _ _ _)
theorem len_sum (d : List UInt8) : (sum d).length = 32 := by
  unfold sum
  rw [len_digest, len_sumFrom _ _ _ _ (by decide)]
theorem sumFrom_more : ∀ (f g : Nat) (h : List Nat) (n : Nat) (d : List UInt8), d.length < f → d.length < g → sumFrom f h n d = sumFrom g h n d
  | 0, _, _, _, _, hf, _ => by omega
  | _ + 1, 0, _, _, _, _, hg => by omega
  | f + 1, g + 1, h, n, d, hf, hg => by
      unfold sumFrom
      split
      · rfl
      · exact sumFrom_more f g _ _ _ (by simp; omega) (by simp; omega)
set_option maxRecDepth 100000 in
theorem abc : sum [97, 98, 99] = [80, 140, 94, 140, 50, 124, 20, 226, 225, 167, 43, 163, 78, 235, 69, 47, 55, 69, 139, 32, 158, 214, 58, 41, 77, 153, 155, 76, 134, 103, 89, 130] := by
  decide +kernel
theorem w2 : words [0, 31] = [97, 97, 98, 112] := by decide
end M
end Go.Proofs.YtgodccgbhpannaaDoor
